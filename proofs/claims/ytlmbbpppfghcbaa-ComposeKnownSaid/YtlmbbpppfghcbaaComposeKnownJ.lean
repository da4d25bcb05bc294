/-
  The examples of the chapter, and a nil automaton.
-/
import Derived.Test.YtlmbbpppfghcbaaM14
import Derived.Handy
import Derived.OpenShut
import Derived.ShutString
import Derived.ChangeOld
import Derived.HandedShaped
import Derived.LaidMore
import Derived.Lay
import Derived.SizedLaws
import Derived.Deep.DeepHandedRow
import Derived.Test.YtlmbbpppfghcbaaM15
set_option linter.unusedVariables false
set_option linter.unusedSimpArgs false
set_option maxRecDepth 100000
namespace Go.Proofs.Ytlmbbpppfghcbaa.composeKnown
open Go Go.RowKit Go.ChangeShapes Go.WideShapes Go.ChangeAt Go.Proofs.Ytlmbbpppfghcbaa Go.Proofs.Ytlmbbpppfghcbaa.Kit Go.Proofs.Ytlmbbpppfghcbaa.Utf Go.Proofs.Ytlmbbpppfghcbaa.Rom Go.Proofs.Ytlmbbpppfghcbaa.Aut Go.Proofs.Ytlmbbpppfghcbaa.Cmp
open Go.ChangeMaps (open_string shut_string)
def kI1 : List It := [⟨ba [107, 97], ba [227, 129, 139]⟩]
def kI5 : List It := [⟨ba [115, 104, 105], ba [227, 129, 151]⟩, ⟨ba [107, 97], ba [227, 129, 139]⟩]
def kID : List It := [⟨ba [107], ba [227, 129, 163]⟩]
def k1 : Bf := ⟨kI1, 1, ba []⟩
def k2 : Bf := ⟨kI1, 0, ba []⟩
def k3 : Bf := ⟨kI1, 0, ba [115]⟩
def k4 : Bf := ⟨kI1, 0, ba [115, 104]⟩
def k5 : Bf := ⟨kI5, 1, ba []⟩
def kd : Bf := ⟨kID, 1, ba [107]⟩
def kf : Bf := ⟨kID, 1, ba []⟩
theorem e1 : typO defL noB [107, 97] = some k1 := by decide +kernel
theorem e2 : movB k1 (-1) = k2 := by decide +kernel
theorem e3 : keyO defL k2 115 = some k3 := by decide +kernel
theorem e4 : keyO defL k3 104 = some k4 := by decide +kernel
theorem e5 : keyO defL k4 105 = some k5 := by decide +kernel
theorem e6 : typO defL noB [107, 107] = some kd := by decide +kernel
theorem e7 : bacB kd = kf := by decide +kernel
theorem e8 : bacB kf = noB := by decide +kernel
theorem e9 : putB kd ⟨#[]⟩ ⟨#[120]⟩ = (noB, 8) := by decide +kernel
theorem t5 : texB k5 = (ba [227, 129, 151], ba [], ba [227, 129, 139]) := by decide +kernel
theorem td : texB kd = (ba [227, 129, 163], ba [107], ba []) := by decide +kernel
theorem tf : texB kf = (ba [227, 129, 163], ba [], ba []) := by decide +kernel
theorem tn : texB noB = (ba [], ba [], ba []) := by decide +kernel
theorem r5 : rawB k5 = ba [115, 104, 105, 107, 97] := by decide +kernel
theorem shI {b : Bf} (h : ∀ i ∈ b.is, i.r.size ≤ 8 ∧ i.o.size ≤ 8) (hp : b.p.size ≤ 8) (hl : b.is.length ≤ 8) : Sh b := ⟨fun i hi => ⟨by have := (h i hi).1; omega, by have := (h i hi).2; omega⟩, by omega, by omega⟩
theorem s1 : Sh k1 := shI (by decide +kernel) (by decide +kernel) (by decide +kernel)
theorem s2 : Sh k2 := shI (by decide +kernel) (by decide +kernel) (by decide +kernel)
theorem s3 : Sh k3 := shI (by decide +kernel) (by decide +kernel) (by decide +kernel)
theorem s4 : Sh k4 := shI (by decide +kernel) (by decide +kernel) (by decide +kernel)
theorem s5 : Sh k5 := shI (by decide +kernel) (by decide +kernel) (by decide +kernel)
theorem sd : Sh kd := shI (by decide +kernel) (by decide +kernel) (by decide +kernel)
theorem sf : Sh kf := shI (by decide +kernel) (by decide +kernel) (by decide +kernel)

abbrev ownI (B : Nat) (w : World) (s : Value) (is : List It) : Prop := w.ownsRow B 65 2 s is.length (ic is)
theorem calls_alloc {F : FuncId} {args : Array Value} {w : World} {o : Obj} {K} (h : ∀ W, w.alloc o = W → Calls Try.prog F args W K) : Calls Try.prog F args (w.alloc o) K := h _ rfl
theorem calls_alloc2 {F : FuncId} {args : Array Value} {w : World} {o o2 : Obj} {K} (h : ∀ W1 W, w.alloc o = W1 → W1.alloc o2 = W → Calls Try.prog F args W K) : Calls Try.prog F args ((w.alloc o).alloc o2) K := h _ _ rfl rfl

theorem mark_shi (w : World) (g : Nat) (hg : g = w.heap.size) : ∃ W, (convert 51 51 (.slice (some ⟨g, 0, none⟩) 3 3)).run Try.prog (w.alloc (.cells #[.int .u8 115, .int .u8 104, .int .u8 105] 5)) = .ok (.slice (some ⟨g, 0, none⟩) 3 3) W ∧
    (∃ f, W.heap[g]? = some (Obj.cells #[.int .u8 115, .int .u8 104, .int .u8 105] 5 f)) ∧ Below w.heap.size w W ∧ W.heap.size = w.heap.size + 1 := by
  subst hg
  refine ⟨(w.alloc (.cells #[.int .u8 115, .int .u8 104, .int .u8 105] 5)).freeze ⟨w.heap.size, 3, none⟩ 1, ?_, ?_, ?_, ?_⟩
  · have hsh : (w.alloc (.cells #[.int .u8 115, .int .u8 104, .int .u8 105] 5)).shape? w.heap.size = some (5, 3) := by
      simp [World.shape?, World.alloc, -World.alloc_eq]
    obtain ⟨W, hW⟩ : ∃ W, w.alloc (.cells #[.int .u8 115, .int .u8 104, .int .u8 105] 5) = W := ⟨_, rfl⟩
    rw [hW] at hsh ⊢
    simp [convert, run_underlying Try.underlying51, run_underlying Try.underlying5, markStringish, hsh, Result.andThen]
  · refine ⟨(3, 4), ?_⟩
    simp [World.freeze, World.alloc, -World.alloc_eq]
    rw [Array.getElem_modify_self]
    simp
  · refine ⟨rfl, rfl, rfl, by simp [World.freeze, World.alloc, -World.alloc_eq], fun k hk => ?_⟩
    have h1 : w.heap.size ≠ k := by omega
    simp [World.freeze, World.alloc, -World.alloc_eq, Array.getElem?_modify, Array.getElem?_push, h1, Ne.symm h1]
  · simp [World.freeze, World.alloc, -World.alloc_eq]
theorem calls_set3 {F : FuncId} {args : Array Value} {w : World} {p0 p1 p2 : Addr} {x y z : Value} {K} (h : ∀ W, ((w.setCell p0 x).setCell p1 y).setCell p2 z = W → Calls Try.prog F args W K) : Calls Try.prog F args (((w.setCell p0 x).setCell p1 y).setCell p2 z) K := h _ rfl
theorem set3 {w W : World} {g : Nat} {x y z x' y' z' : Value} {t : TypeId} (h : w.heap[g]? = some (Obj.cells #[x, y, z] t)) (hW : ((w.setCell ⟨g, 0, none⟩ x').setCell ⟨g, 1, none⟩ y').setCell ⟨g, 2, none⟩ z' = W) :
    W.heap[g]? = some (Obj.cells #[x', y', z'] t) ∧ (∀ k o, k ≠ g → w.heap[k]? = some o → W.heap[k]? = some o) ∧ (∀ B s is, ownI B w s is → g < B → ItR W s is) ∧ Below g w W ∧ W.heap.size = w.heap.size := by
  subst hW
  refine ⟨box_set3 h, fun k o hk ho => ?_, fun B s is ho hB => ?_, ?_, by simp⟩
  · rw [heap_setCell_other _ _ _ _ (by show k ≠ g; exact hk), heap_setCell_other _ _ _ _ (by show k ≠ g; exact hk), heap_setCell_other _ _ _ _ (by show k ≠ g; exact hk)]; exact ho
  · exact (items_of_own (ownsRow_setCell_below (ownsRow_setCell_below (ownsRow_setCell_below ho (a := ⟨g, 0, none⟩) hB x') (a := ⟨g, 1, none⟩) hB y') (a := ⟨g, 2, none⟩) hB z')).1
  · exact Below.setCell (Below.setCell (Below.setCell (Below.refl g w) (p := ⟨g, 0, none⟩) (Nat.le_refl _) x') (p := ⟨g, 1, none⟩) (Nat.le_refl _) y') (p := ⟨g, 2, none⟩) (Nat.le_refl _) z'
theorem row3 {W : World} {g : Nat} {f} (h : W.heap[g]? = some (Obj.cells #[.int .u8 115, .int .u8 104, .int .u8 105] 5 f)) : W.cell? ⟨g, 0, none⟩ = some (.int .u8 115) ∧ W.cell? ⟨g, 1, none⟩ = some (.int .u8 104) ∧ W.cell? ⟨g, 2, none⟩ = some (.int .u8 105) := by
  refine ⟨?_, ?_, ?_⟩
  · rw [cell_of_row _ _ 0 _ _ _ h]; rfl
  · rw [cell_of_row _ _ 1 _ _ _ h]; rfl
  · rw [cell_of_row _ _ 2 _ _ _ h]; rfl

set_option maxHeartbeats 8000000 in
theorem walk (w : World) : Calls Try.prog 7 #[] w fun e w' => e = .returned (.bool true) ∧ Below w.heap.size w w' := by
  have HDF := Lib.hid def_any
  have HNW := Lib.hid new_def
  have HT1 : Hid (∀ (Q q0 : Nat) (W : World), AutoAt Q W q0 defL → Q ≤ W.heap.size → Calls Try.prog 19 #[.pointer (some ⟨q0, 0, none⟩), .string { data := #[107, 97] }] W fun e w' => ∃ a m k, e = .returned (.tuple #[.agg #[.slice a m k, .int .i64 1, .string { data := #[] }], .bool true]) ∧ ItR w' (.slice a m k) kI1 ∧ Below W.heap.size W w' ∧ Sh k1) := Lib.hid fun Q q0 W h1 h2 => typed_def e1 (by decide) Q q0 W h1 h2
  have HT2 : Hid (∀ (Q q0 : Nat) (W : World), AutoAt Q W q0 defL → Q ≤ W.heap.size → Calls Try.prog 19 #[.pointer (some ⟨q0, 0, none⟩), .string { data := #[107, 107] }] W fun e w' => ∃ a m k, e = .returned (.tuple #[.agg #[.slice a m k, .int .i64 1, .string { data := #[107] }], .bool true]) ∧ ItR w' (.slice a m k) kID ∧ Below W.heap.size W w' ∧ Sh kd) := Lib.hid fun Q q0 W h1 h2 => typed_def e6 (by decide) Q q0 W h1 h2
  have HMV : Hid (∀ (a : Option Addr) (m k : Nat) (W : World), ItR W (.slice a m k) kI1 → Calls Try.prog 26 #[.agg #[.slice a m k, .int .i64 1, .string { data := #[] }], .int .i64 (-1)] W fun e w' => ∃ a' m' k', e = .returned (.agg #[.slice a' m' k', .int .i64 0, .string { data := #[] }]) ∧ ownI W.heap.size w' (.slice a' m' k') kI1 ∧ Below W.heap.size W w') := Lib.hid fun a m k W h => by
    have h1 := move_any k1 (-1) (.agg #[.slice a m k, .int .i64 1, .string { data := #[] }]) W ⟨_, rfl, h⟩ s1 (by decide)
    rw [e2] at h1
    exact h1
  have HK1 : Hid (∀ (Q q0 : Nat) (a : Option Addr) (m k : Nat) (W : World), AutoAt Q W q0 defL → Q ≤ W.heap.size → ItR W (.slice a m k) kI1 → Calls Try.prog 21 #[.pointer (some ⟨q0, 0, none⟩), .agg #[.slice a m k, .int .i64 0, .string { data := #[] }], .int .u8 115] W fun e w' => ∃ a' m' k', e = .returned (.tuple #[.agg #[.slice a' m' k', .int .i64 0, .string { data := #[115] }], .int .i64 0]) ∧ ownI W.heap.size w' (.slice a' m' k') kI1 ∧ Below W.heap.size W w') := Lib.hid fun Q q0 a m k W h1 h2 h3 => by
    have h4 := insertkey_any def_okL Q q0 k2 115 (.agg #[.slice a m k, .int .i64 0, .string { data := #[] }]) W h1 h2 ⟨_, rfl, h3⟩ s2
    rw [keyO_sound e3] at h4
    exact h4
  have HK2 : Hid (∀ (Q q0 : Nat) (a : Option Addr) (m k : Nat) (W : World), AutoAt Q W q0 defL → Q ≤ W.heap.size → ItR W (.slice a m k) kI1 → Calls Try.prog 21 #[.pointer (some ⟨q0, 0, none⟩), .agg #[.slice a m k, .int .i64 0, .string { data := #[115] }], .int .u8 104] W fun e w' => ∃ a' m' k', e = .returned (.tuple #[.agg #[.slice a' m' k', .int .i64 0, .string { data := #[115, 104] }], .int .i64 0]) ∧ ownI W.heap.size w' (.slice a' m' k') kI1 ∧ Below W.heap.size W w') := Lib.hid fun Q q0 a m k W h1 h2 h3 => by
    have h4 := insertkey_any def_okL Q q0 k3 104 (.agg #[.slice a m k, .int .i64 0, .string { data := #[115] }]) W h1 h2 ⟨_, rfl, h3⟩ s3
    rw [keyO_sound e4] at h4
    exact h4
  have HK3 : Hid (∀ (Q q0 : Nat) (a : Option Addr) (m k : Nat) (W : World), AutoAt Q W q0 defL → Q ≤ W.heap.size → ItR W (.slice a m k) kI1 → Calls Try.prog 21 #[.pointer (some ⟨q0, 0, none⟩), .agg #[.slice a m k, .int .i64 0, .string { data := #[115, 104] }], .int .u8 105] W fun e w' => ∃ a' m' k', e = .returned (.tuple #[.agg #[.slice a' m' k', .int .i64 1, .string { data := #[] }], .int .i64 0]) ∧ ownI W.heap.size w' (.slice a' m' k') kI5 ∧ Below W.heap.size W w') := Lib.hid fun Q q0 a m k W h1 h2 h3 => by
    have h4 := insertkey_any def_okL Q q0 k4 105 (.agg #[.slice a m k, .int .i64 0, .string { data := #[115, 104] }]) W h1 h2 ⟨_, rfl, h3⟩ s4
    rw [keyO_sound e5] at h4
    exact h4
  have HX5 : Hid (∀ (a : Option Addr) (m k : Nat) (W : World), ItR W (.slice a m k) kI5 → Calls Try.prog 11 #[.agg #[.slice a m k, .int .i64 1, .string { data := #[] }]] W fun e w' => e = .returned (.tuple #[.string { data := #[227, 129, 151] }, .string { data := #[] }, .string { data := #[227, 129, 139] }]) ∧ Below W.heap.size W w') := Lib.hid fun a m k W h => by
    have h1 := text_buf k5 (.agg #[.slice a m k, .int .i64 1, .string { data := #[] }]) W ⟨_, rfl, h⟩ s5
    rw [t5] at h1
    exact h1
  have HXD : Hid (∀ (a : Option Addr) (m k : Nat) (W : World), ItR W (.slice a m k) kID → Calls Try.prog 11 #[.agg #[.slice a m k, .int .i64 1, .string { data := #[107] }]] W fun e w' => e = .returned (.tuple #[.string { data := #[227, 129, 163] }, .string { data := #[107] }, .string { data := #[] }]) ∧ Below W.heap.size W w') := Lib.hid fun a m k W h => by
    have h1 := text_buf kd (.agg #[.slice a m k, .int .i64 1, .string { data := #[107] }]) W ⟨_, rfl, h⟩ sd
    rw [td] at h1
    exact h1
  have HXF : Hid (∀ (a : Option Addr) (m k : Nat) (W : World), ItR W (.slice a m k) kID → Calls Try.prog 11 #[.agg #[.slice a m k, .int .i64 1, .string { data := #[] }]] W fun e w' => e = .returned (.tuple #[.string { data := #[227, 129, 163] }, .string { data := #[] }, .string { data := #[] }]) ∧ Below W.heap.size W w') := Lib.hid fun a m k W h => by
    have h1 := text_buf kf (.agg #[.slice a m k, .int .i64 1, .string { data := #[] }]) W ⟨_, rfl, h⟩ sf
    rw [tf] at h1
    exact h1
  have HXN : Hid (∀ (a : Option Addr) (m k : Nat) (W : World), ItR W (.slice a m k) noB.is → Calls Try.prog 11 #[.agg #[.slice a m k, .int .i64 0, .string { data := #[] }]] W fun e w' => e = .returned (.tuple #[.string { data := #[] }, .string { data := #[] }, .string { data := #[] }]) ∧ Below W.heap.size W w') := Lib.hid fun a m k W h => by
    have h1 := text_buf noB (.agg #[.slice a m k, .int .i64 0, .string { data := #[] }]) W ⟨_, rfl, h⟩ noB_sh
    rw [tn] at h1
    exact h1
  have HB1 : Hid (∀ (a : Option Addr) (m k : Nat) (W : World), ItR W (.slice a m k) kID → Calls Try.prog 24 #[.agg #[.slice a m k, .int .i64 1, .string { data := #[107] }]] W fun e w' => ∃ a' m' k', e = .returned (.agg #[.slice a' m' k', .int .i64 1, .string { data := #[] }]) ∧ ownI W.heap.size w' (.slice a' m' k') kID ∧ Below W.heap.size W w') := Lib.hid fun a m k W h => by
    have h1 := back_buf kd (.agg #[.slice a m k, .int .i64 1, .string { data := #[107] }]) W ⟨_, rfl, h⟩ sd
    rw [e7] at h1
    exact h1
  have HB2 : Hid (∀ (a : Option Addr) (m k : Nat) (W : World), ItR W (.slice a m k) kID → Calls Try.prog 24 #[.agg #[.slice a m k, .int .i64 1, .string { data := #[] }]] W fun e w' => ∃ a' m' k', e = .returned (.agg #[.slice a' m' k', .int .i64 0, .string { data := #[] }]) ∧ ownI W.heap.size w' (.slice a' m' k') noB.is ∧ Below W.heap.size W w') := Lib.hid fun a m k W h => by
    have h1 := back_buf kf (.agg #[.slice a m k, .int .i64 1, .string { data := #[] }]) W ⟨_, rfl, h⟩ sf
    rw [e8] at h1
    exact h1
  have HIN : Hid (∀ (a : Option Addr) (m k : Nat) (W : World), ItR W (.slice a m k) kI1 → Calls Try.prog 21 #[.pointer none, .agg #[.slice a m k, .int .i64 1, .string { data := #[] }], .int .u8 97] W fun e w' => ∃ a' m' k', e = .returned (.tuple #[.agg #[.slice a' m' k', .int .i64 0, .string { data := #[] }], .int .i64 9]) ∧ Below W.heap.size W w') := Lib.hid fun a m k W h => (insertkey_nil k1 97 (.agg #[.slice a m k, .int .i64 1, .string { data := #[] }]) W ⟨_, rfl, h⟩).mono fun e w' ⟨a, m, k, he, _, hb⟩ => ⟨a, m, k, he, hb⟩
  have HPT : Hid (∀ (a : Option Addr) (m k : Nat) (W : World), ItR W (.slice a m k) kID → Calls Try.prog 23 #[.agg #[.slice a m k, .int .i64 1, .string { data := #[107] }], .string { data := #[] }, .string { data := #[120] }] W fun e w' => ∃ a' m' k', e = .returned (.tuple #[.agg #[.slice a' m' k', .int .i64 0, .string { data := #[] }], .int .i64 8]) ∧ Below W.heap.size W w') := Lib.hid fun a m k W h => by
    have h1 := put_any kd ⟨#[]⟩ ⟨#[120]⟩ (.agg #[.slice a m k, .int .i64 1, .string { data := #[107] }]) W ⟨_, rfl, h⟩ sd (by decide) (by decide)
    rw [e9] at h1
    exact h1.mono fun e w' ⟨a, m, k, he, _, hb⟩ => ⟨a, m, k, he, hb⟩
  have HFN : Hid (∀ (a : Option Addr) (m k : Nat) (W : World), ItR W (.slice a m k) kID → Calls Try.prog 28 #[.pointer none, .agg #[.slice a m k, .int .i64 1, .string { data := #[107] }]] W fun e w' => ∃ a' m' k', e = .returned (.agg #[.slice a' m' k', .int .i64 1, .string { data := #[107] }]) ∧ ownI W.heap.size w' (.slice a' m' k') kID ∧ Below W.heap.size W w') := Lib.hid fun a m k W h => flushbuf_nil kd (.agg #[.slice a m k, .int .i64 1, .string { data := #[107] }]) W ⟨_, rfl, h⟩ sd
  have HGD : Hid (∀ (a : Option Addr) (m k : Nat) (W : World), ItR W (.slice a m k) kID → Calls Try.prog 9 #[.agg #[.slice a m k, .int .i64 1, .string { data := #[107] }]] W fun e w' => ∃ a' m' k', e = .returned (.agg #[.slice a' m' k', .int .i64 1, .string { data := #[107] }]) ∧ ItR w' (.slice a' m' k') kID ∧ Below W.heap.size W w') := Lib.hid fun a m k W h => (gvn8_any kd (.slice a m k) W h (by decide)).mono fun e w' ⟨v, he, ho, hb⟩ => by
    have h2 := (items_of_own ho).1
    obtain ⟨a2, m2, k2, rfl⟩ := slice_of_own ho
    exact ⟨a2, m2, k2, he, h2, hb⟩
  have HSM : Hid (∀ (a : Option Addr) (m k : Nat) (a2 : Option Addr) (m2 k2 : Nat) (W : World), ItR W (.slice a m k) kID → ItR W (.slice a2 m2 k2) kID → Calls Try.prog 16 #[.agg #[.slice a m k, .int .i64 1, .string { data := #[107] }], .agg #[.slice a2 m2 k2, .int .i64 1, .string { data := #[107] }]] W fun e w' => e = .returned (.bool true) ∧ Below W.heap.size W w') := Lib.hid fun a m k a2 m2 k2 W h h2 => by
    have h1 := sam8_any kd kd (.agg #[.slice a m k, .int .i64 1, .string { data := #[107] }]) (.agg #[.slice a2 m2 k2, .int .i64 1, .string { data := #[107] }]) W ⟨_, rfl, h⟩ ⟨_, rfl, h2⟩ (by decide)
    rw [decide_eq_true rfl] at h1
    exact h1
  have HRW : Hid (∀ (a : Option Addr) (m k : Nat) (W : World), ItR W (.slice a m k) kI5 → Calls Try.prog 14 #[.agg #[.slice a m k, .int .i64 1, .string { data := #[] }]] W fun e w' => e = .returned (.string { data := #[115, 104, 105, 107, 97] }) ∧ Below W.heap.size W w') := Lib.hid fun a m k W h => by
    have h1 := raw_buf k5 (.agg #[.slice a m k, .int .i64 1, .string { data := #[] }]) W ⟨_, rfl, h⟩ s5
    rw [r5] at h1
    exact h1
  have HWK := Lib.hid works_any
  go_enter Try.func7, Try.ntmps7
  go_wp2_with (first
    | (go_at_call 27; (with_reducible refine (HDF.out _).mono ?_); rintro e w1 ⟨v, rfl, hR1, k0⟩)
    | (go_at_call 18
       (with_reducible refine (HNW.out _ _ hR1).mono ?_)
       rintro e w2 ⟨q0, rfl, hA2, hb⟩
       (try (have hq := Below.size k0; replace k0 := Below.trans k0 (Below.mono hb (by omega)); clear hq))
       (try (have hq := Below.size kA; replace kA := Below.trans kA (Below.mono hb (by omega)); clear hq))
       (try (have hq := Below.size kX; replace kX := Below.trans kX (Below.mono hb (by omega)); clear hq))
       (try (have hq := Below.size kY; replace kY := Below.trans kY (Below.mono hb (by omega)); clear hq))
       (try (have hq := Below.size kV; replace kV := Below.trans kV (Below.mono hb (by omega)); clear hq))
       (try (have hq := Below.size kU; replace kU := Below.trans kU (Below.mono hb (by omega)); clear hq))
       have kA := Below.refl w2.heap.size w2
       have HA2 := Lib.hid (fun (W : World) (h : Below w2.heap.size w2 W) => hA2.later h (Nat.le_refl _))
       clear hR1 hA2 hb)
    | (go_at_call 19
       (with_reducible refine (HT1.out _ _ _ (HA2.out _ kA) kA.size).mono ?_)
       rintro e w3 ⟨a3, m3, k3, rfl, hI3, hb, _⟩
       (try (have hq := Below.size k0; replace k0 := Below.trans k0 (Below.mono hb (by omega)); clear hq))
       (try (have hq := Below.size kA; replace kA := Below.trans kA (Below.mono hb (by omega)); clear hq))
       (try (have hq := Below.size kX; replace kX := Below.trans kX (Below.mono hb (by omega)); clear hq))
       (try (have hq := Below.size kY; replace kY := Below.trans kY (Below.mono hb (by omega)); clear hq))
       (try (have hq := Below.size kV; replace kV := Below.trans kV (Below.mono hb (by omega)); clear hq))
       (try (have hq := Below.size kU; replace kU := Below.trans kU (Below.mono hb (by omega)); clear hq))
       have HI3 := Lib.hid hI3
       clear hI3 HT1 hb)
    | (go_at_call 26
       refine calls_alloc fun W4 hW => ?_
       obtain ⟨x3, hs4, hn⟩ := box_new hW
       have hb := hn _ (Nat.le_refl _)
       (try (have hq := Below.size k0; replace k0 := Below.trans k0 (Below.mono hb (by omega)); clear hq))
       (try (have hq := Below.size kA; replace kA := Below.trans kA (Below.mono hb (by omega)); clear hq))
       (try (have hq := Below.size kX; replace kX := Below.trans kX (Below.mono hb (by omega)); clear hq))
       (try (have hq := Below.size kY; replace kY := Below.trans kY (Below.mono hb (by omega)); clear hq))
       (try (have hq := Below.size kV; replace kV := Below.trans kV (Below.mono hb (by omega)); clear hq))
       (try (have hq := Below.size kU; replace kU := Below.trans kU (Below.mono hb (by omega)); clear hq))
       have HX3 := Lib.hid x3
       have HI4 := Lib.hid (HI3.out.later hb (Nat.le_refl _))
       have kX := Below.refl W4.heap.size W4
       clear hW hn x3 HI3 hb
       (with_reducible refine (HMV.out _ _ _ _ HI4.out).mono ?_)
       rintro e w5 ⟨a5, m5, k5', rfl, ho5, hb⟩
       (try (have hq := Below.size k0; replace k0 := Below.trans k0 (Below.mono hb (by omega)); clear hq))
       (try (have hq := Below.size kA; replace kA := Below.trans kA (Below.mono hb (by omega)); clear hq))
       (try (have hq := Below.size kX; replace kX := Below.trans kX (Below.mono hb (by omega)); clear hq))
       (try (have hq := Below.size kY; replace kY := Below.trans kY (Below.mono hb (by omega)); clear hq))
       (try (have hq := Below.size kV; replace kV := Below.trans kV (Below.mono hb (by omega)); clear hq))
       (try (have hq := Below.size kU; replace kU := Below.trans kU (Below.mono hb (by omega)); clear hq))
       clear hb
       obtain ⟨W6, hcv, ⟨fz, xr⟩, hbm, hsm⟩ := mark_shi (w5.alloc (Obj.cells #[.slice a5 m5 k5', .int .i64 0, .string { data := #[] }] 24)) (w5.heap.size + 1) (by simp)
       have x5 := (hbm.block w5.heap.size (by simp)).trans (heap_alloc_new w5 _)
       have hb : Below w5.heap.size w5 W6 := ((Below.refl _ _).alloc (Nat.le_refl _) _).trans (hbm.mono (by simp))
       have hs6 : W6.heap.size = w5.heap.size + 2 := (by rw [hsm]; simp)
       have qq0 := k0.size; have qqA := kA.size; have qqX := kX.size
       (try (have hq := Below.size k0; replace k0 := Below.trans k0 (Below.mono hb (by omega)); clear hq))
       (try (have hq := Below.size kA; replace kA := Below.trans kA (Below.mono hb (by omega)); clear hq))
       (try (have hq := Below.size kX; replace kX := Below.trans kX (Below.mono hb (by omega)); clear hq))
       (try (have hq := Below.size kY; replace kY := Below.trans kY (Below.mono hb (by omega)); clear hq))
       (try (have hq := Below.size kV; replace kV := Below.trans kV (Below.mono hb (by omega)); clear hq))
       (try (have hq := Below.size kU; replace kU := Below.trans kU (Below.mono hb (by omega)); clear hq))
       have HI6 := Lib.hid ((items_of_own ho5).1.later hb (Nat.le_refl _))
       obtain ⟨c0, c1, c2, cf⟩ := box_facts x5
       obtain ⟨r0, r1, r2⟩ := row3 xr
       clear hbm hsm hb ho5 HMV))
  refine wp_loop_rounds 4 ?_
  rw [rounds_succ]
  go_wp2_with (first
    | (go_at_call 21
       (with_reducible refine (HK1.out _ _ _ _ _ _ (HA2.out _ kA) kA.size HI6.out).mono ?_)
       rintro e w7 ⟨a7, m7, k7, rfl, ho7, hb⟩
       (try (have hq := Below.size k0; replace k0 := Below.trans k0 (Below.mono hb (by omega)); clear hq))
       (try (have hq := Below.size kA; replace kA := Below.trans kA (Below.mono hb (by omega)); clear hq))
       (try (have hq := Below.size kX; replace kX := Below.trans kX (Below.mono hb (by omega)); clear hq))
       (try (have hq := Below.size kY; replace kY := Below.trans kY (Below.mono hb (by omega)); clear hq))
       (try (have hq := Below.size kV; replace kV := Below.trans kV (Below.mono hb (by omega)); clear hq))
       (try (have hq := Below.size kU; replace kU := Below.trans kU (Below.mono hb (by omega)); clear hq))
       have hs7 := hb.size
       have y5 := box_later x5 hb (by omega)
       have yr := box_later xr hb (by omega)
       clear x5 xr c0 c1 c2 cf r0 r1 r2 hcv hb HI6 HK1
       obtain ⟨c0, c1, c2, cf⟩ := box_facts y5
       obtain ⟨r0, r1, r2⟩ := row3 yr))
  rw [rounds_succ]
  go_wp2_with (first
    | (go_at_call 21
       refine calls_set3 fun W8 hW => ?_
       obtain ⟨x5, hO, hrw, hb, hs8⟩ := set3 y5 hW
       have xr := hO _ _ (by omega) yr
       have hI := hrw _ _ _ ho7 (by omega)
       (try (have hq := Below.size k0; replace k0 := Below.trans k0 (Below.mono hb (by omega)); clear hq))
       (try (have hq := Below.size kA; replace kA := Below.trans kA (Below.mono hb (by omega)); clear hq))
       (try (have hq := Below.size kX; replace kX := Below.trans kX (Below.mono hb (by omega)); clear hq))
       (try (have hq := Below.size kY; replace kY := Below.trans kY (Below.mono hb (by omega)); clear hq))
       (try (have hq := Below.size kV; replace kV := Below.trans kV (Below.mono hb (by omega)); clear hq))
       (try (have hq := Below.size kU; replace kU := Below.trans kU (Below.mono hb (by omega)); clear hq))
       clear hW hb hO hrw ho7 y5 yr c0 c1 c2 cf r0 r1 r2
       (with_reducible refine (HK2.out _ _ _ _ _ _ (HA2.out _ kA) kA.size hI).mono ?_)
       rintro e w9 ⟨a9, m9, k9, rfl, ho9, hb⟩
       (try (have hq := Below.size k0; replace k0 := Below.trans k0 (Below.mono hb (by omega)); clear hq))
       (try (have hq := Below.size kA; replace kA := Below.trans kA (Below.mono hb (by omega)); clear hq))
       (try (have hq := Below.size kX; replace kX := Below.trans kX (Below.mono hb (by omega)); clear hq))
       (try (have hq := Below.size kY; replace kY := Below.trans kY (Below.mono hb (by omega)); clear hq))
       (try (have hq := Below.size kV; replace kV := Below.trans kV (Below.mono hb (by omega)); clear hq))
       (try (have hq := Below.size kU; replace kU := Below.trans kU (Below.mono hb (by omega)); clear hq))
       have hs9 := hb.size
       have y5 := box_later x5 hb (by omega)
       have yr := box_later xr hb (by omega)
       clear x5 xr hb hI HK2
       obtain ⟨c0, c1, c2, cf⟩ := box_facts y5
       obtain ⟨r0, r1, r2⟩ := row3 yr))
  rw [rounds_succ]
  go_wp2_with (first
    | (go_at_call 21
       refine calls_set3 fun W10 hW => ?_
       obtain ⟨x5, hO, hrw, hb, hs10⟩ := set3 y5 hW
       have hI := hrw _ _ _ ho9 (by omega)
       (try (have hq := Below.size k0; replace k0 := Below.trans k0 (Below.mono hb (by omega)); clear hq))
       (try (have hq := Below.size kA; replace kA := Below.trans kA (Below.mono hb (by omega)); clear hq))
       (try (have hq := Below.size kX; replace kX := Below.trans kX (Below.mono hb (by omega)); clear hq))
       (try (have hq := Below.size kY; replace kY := Below.trans kY (Below.mono hb (by omega)); clear hq))
       (try (have hq := Below.size kV; replace kV := Below.trans kV (Below.mono hb (by omega)); clear hq))
       (try (have hq := Below.size kU; replace kU := Below.trans kU (Below.mono hb (by omega)); clear hq))
       clear hW hb hO hrw ho9 y5 yr c0 c1 c2 cf r0 r1 r2
       (with_reducible refine (HK3.out _ _ _ _ _ _ (HA2.out _ kA) kA.size hI).mono ?_)
       rintro e w11 ⟨a11, m11, k11, rfl, ho11, hb⟩
       (try (have hq := Below.size k0; replace k0 := Below.trans k0 (Below.mono hb (by omega)); clear hq))
       (try (have hq := Below.size kA; replace kA := Below.trans kA (Below.mono hb (by omega)); clear hq))
       (try (have hq := Below.size kX; replace kX := Below.trans kX (Below.mono hb (by omega)); clear hq))
       (try (have hq := Below.size kY; replace kY := Below.trans kY (Below.mono hb (by omega)); clear hq))
       (try (have hq := Below.size kV; replace kV := Below.trans kV (Below.mono hb (by omega)); clear hq))
       (try (have hq := Below.size kU; replace kU := Below.trans kU (Below.mono hb (by omega)); clear hq))
       have hs11 := hb.size
       have y5 := box_later x5 hb (by omega)
       clear x5 hb hI HK3
       obtain ⟨c0, c1, c2, cf⟩ := box_facts y5))
  rw [rounds_succ]
  go_wp2_with (first
    | (go_at_call 11
       refine calls_set3 fun W12 hW => ?_
       obtain ⟨x5, hO, hrw, hb, hs12⟩ := set3 y5 hW
       have hI := hrw _ _ _ ho11 (by omega)
       (try (have hq := Below.size k0; replace k0 := Below.trans k0 (Below.mono hb (by omega)); clear hq))
       (try (have hq := Below.size kA; replace kA := Below.trans kA (Below.mono hb (by omega)); clear hq))
       (try (have hq := Below.size kX; replace kX := Below.trans kX (Below.mono hb (by omega)); clear hq))
       (try (have hq := Below.size kY; replace kY := Below.trans kY (Below.mono hb (by omega)); clear hq))
       (try (have hq := Below.size kV; replace kV := Below.trans kV (Below.mono hb (by omega)); clear hq))
       (try (have hq := Below.size kU; replace kU := Below.trans kU (Below.mono hb (by omega)); clear hq))
       have HX5b := Lib.hid x5
       have HI5 := Lib.hid hI
       have kY := Below.refl W12.heap.size W12
       clear hW hb hO hrw ho11 y5 c0 c1 c2 cf x5 hI
       (with_reducible refine (HX5.out _ _ _ _ HI5.out).mono ?_)
       rintro e w13 ⟨rfl, hb⟩
       (try (have hq := Below.size k0; replace k0 := Below.trans k0 (Below.mono hb (by omega)); clear hq))
       (try (have hq := Below.size kA; replace kA := Below.trans kA (Below.mono hb (by omega)); clear hq))
       (try (have hq := Below.size kX; replace kX := Below.trans kX (Below.mono hb (by omega)); clear hq))
       (try (have hq := Below.size kY; replace kY := Below.trans kY (Below.mono hb (by omega)); clear hq))
       (try (have hq := Below.size kV; replace kV := Below.trans kV (Below.mono hb (by omega)); clear hq))
       (try (have hq := Below.size kU; replace kU := Below.trans kU (Below.mono hb (by omega)); clear hq))
       clear hb HX5)
    | (go_at_call 19
       (with_reducible refine (HT2.out _ _ _ (HA2.out _ kA) kA.size).mono ?_)
       rintro e w14 ⟨a14, m14, k14, rfl, hI14, hb, _⟩
       (try (have hq := Below.size k0; replace k0 := Below.trans k0 (Below.mono hb (by omega)); clear hq))
       (try (have hq := Below.size kA; replace kA := Below.trans kA (Below.mono hb (by omega)); clear hq))
       (try (have hq := Below.size kX; replace kX := Below.trans kX (Below.mono hb (by omega)); clear hq))
       (try (have hq := Below.size kY; replace kY := Below.trans kY (Below.mono hb (by omega)); clear hq))
       (try (have hq := Below.size kV; replace kV := Below.trans kV (Below.mono hb (by omega)); clear hq))
       (try (have hq := Below.size kU; replace kU := Below.trans kU (Below.mono hb (by omega)); clear hq))
       have HI14 := Lib.hid hI14
       have qY := kY.size
       clear hI14 hb HT2 HA2 kA)
    | (go_at_call 11
       refine calls_alloc fun W15 hW => ?_
       obtain ⟨x11, hs15, hn⟩ := box_new hW
       have hb := hn _ (Nat.le_refl _)
       (try (have hq := Below.size k0; replace k0 := Below.trans k0 (Below.mono hb (by omega)); clear hq))
       (try (have hq := Below.size kA; replace kA := Below.trans kA (Below.mono hb (by omega)); clear hq))
       (try (have hq := Below.size kX; replace kX := Below.trans kX (Below.mono hb (by omega)); clear hq))
       (try (have hq := Below.size kY; replace kY := Below.trans kY (Below.mono hb (by omega)); clear hq))
       (try (have hq := Below.size kV; replace kV := Below.trans kV (Below.mono hb (by omega)); clear hq))
       (try (have hq := Below.size kU; replace kU := Below.trans kU (Below.mono hb (by omega)); clear hq))
       have HX11 := Lib.hid x11
       have HI15 := Lib.hid (HI14.out.later hb (Nat.le_refl _))
       have kV := Below.refl W15.heap.size W15
       clear hW hn x11 hb HI14
       (with_reducible refine (HXD.out _ _ _ _ HI15.out).mono ?_)
       rintro e w16 ⟨rfl, hb⟩
       (try (have hq := Below.size k0; replace k0 := Below.trans k0 (Below.mono hb (by omega)); clear hq))
       (try (have hq := Below.size kA; replace kA := Below.trans kA (Below.mono hb (by omega)); clear hq))
       (try (have hq := Below.size kX; replace kX := Below.trans kX (Below.mono hb (by omega)); clear hq))
       (try (have hq := Below.size kY; replace kY := Below.trans kY (Below.mono hb (by omega)); clear hq))
       (try (have hq := Below.size kV; replace kV := Below.trans kV (Below.mono hb (by omega)); clear hq))
       (try (have hq := Below.size kU; replace kU := Below.trans kU (Below.mono hb (by omega)); clear hq))
       obtain ⟨c0, c1, c2, cf⟩ := box_facts (box_later HX11.out kV (by omega))
       clear hb HXD)
    | (go_at_call 24
       (with_reducible refine (HB1.out _ _ _ _ (HI15.out.later kV (Nat.le_refl _))).mono ?_)
       rintro e w17 ⟨a17, m17, k17, rfl, ho17, hb⟩
       (try (have hq := Below.size k0; replace k0 := Below.trans k0 (Below.mono hb (by omega)); clear hq))
       (try (have hq := Below.size kA; replace kA := Below.trans kA (Below.mono hb (by omega)); clear hq))
       (try (have hq := Below.size kX; replace kX := Below.trans kX (Below.mono hb (by omega)); clear hq))
       (try (have hq := Below.size kY; replace kY := Below.trans kY (Below.mono hb (by omega)); clear hq))
       (try (have hq := Below.size kV; replace kV := Below.trans kV (Below.mono hb (by omega)); clear hq))
       (try (have hq := Below.size kU; replace kU := Below.trans kU (Below.mono hb (by omega)); clear hq))
       clear hb HB1 c0 c1 c2 cf)
    | (go_at_call 11
       refine calls_alloc fun W18 hW => ?_
       obtain ⟨x16, hs18, hn⟩ := box_new hW
       have hb := hn _ (Nat.le_refl _)
       (try (have hq := Below.size k0; replace k0 := Below.trans k0 (Below.mono hb (by omega)); clear hq))
       (try (have hq := Below.size kA; replace kA := Below.trans kA (Below.mono hb (by omega)); clear hq))
       (try (have hq := Below.size kX; replace kX := Below.trans kX (Below.mono hb (by omega)); clear hq))
       (try (have hq := Below.size kY; replace kY := Below.trans kY (Below.mono hb (by omega)); clear hq))
       (try (have hq := Below.size kV; replace kV := Below.trans kV (Below.mono hb (by omega)); clear hq))
       (try (have hq := Below.size kU; replace kU := Below.trans kU (Below.mono hb (by omega)); clear hq))
       have HX16 := Lib.hid x16
       have HI18 := Lib.hid ((items_of_own ho17).1.later hb (Nat.le_refl _))
       have kU := Below.refl W18.heap.size W18
       clear hW hn x16 hb ho17
       (with_reducible refine (HXF.out _ _ _ _ HI18.out).mono ?_)
       rintro e w19 ⟨rfl, hb⟩
       (try (have hq := Below.size k0; replace k0 := Below.trans k0 (Below.mono hb (by omega)); clear hq))
       (try (have hq := Below.size kA; replace kA := Below.trans kA (Below.mono hb (by omega)); clear hq))
       (try (have hq := Below.size kX; replace kX := Below.trans kX (Below.mono hb (by omega)); clear hq))
       (try (have hq := Below.size kY; replace kY := Below.trans kY (Below.mono hb (by omega)); clear hq))
       (try (have hq := Below.size kV; replace kV := Below.trans kV (Below.mono hb (by omega)); clear hq))
       (try (have hq := Below.size kU; replace kU := Below.trans kU (Below.mono hb (by omega)); clear hq))
       obtain ⟨c0, c1, c2, cf⟩ := box_facts (box_later HX16.out kU (by omega))
       clear hb HXF)
    | (go_at_call 24
       (with_reducible refine (HB2.out _ _ _ _ (HI18.out.later kU (Nat.le_refl _))).mono ?_)
       rintro e w20 ⟨a20, m20, k20, rfl, ho20, hb⟩
       (try (have hq := Below.size k0; replace k0 := Below.trans k0 (Below.mono hb (by omega)); clear hq))
       (try (have hq := Below.size kA; replace kA := Below.trans kA (Below.mono hb (by omega)); clear hq))
       (try (have hq := Below.size kX; replace kX := Below.trans kX (Below.mono hb (by omega)); clear hq))
       (try (have hq := Below.size kY; replace kY := Below.trans kY (Below.mono hb (by omega)); clear hq))
       (try (have hq := Below.size kV; replace kV := Below.trans kV (Below.mono hb (by omega)); clear hq))
       (try (have hq := Below.size kU; replace kU := Below.trans kU (Below.mono hb (by omega)); clear hq))
       clear hb HB2 c0 c1 c2 cf)
    | (go_at_call 11
       (with_reducible refine (HXN.out _ _ _ _ (items_of_own ho20).1).mono ?_)
       rintro e w21 ⟨rfl, hb⟩
       (try (have hq := Below.size k0; replace k0 := Below.trans k0 (Below.mono hb (by omega)); clear hq))
       (try (have hq := Below.size kA; replace kA := Below.trans kA (Below.mono hb (by omega)); clear hq))
       (try (have hq := Below.size kX; replace kX := Below.trans kX (Below.mono hb (by omega)); clear hq))
       (try (have hq := Below.size kY; replace kY := Below.trans kY (Below.mono hb (by omega)); clear hq))
       (try (have hq := Below.size kV; replace kV := Below.trans kV (Below.mono hb (by omega)); clear hq))
       (try (have hq := Below.size kU; replace kU := Below.trans kU (Below.mono hb (by omega)); clear hq))
       obtain ⟨c0, c1, c2, cf⟩ := box_facts (box_later HX3.out kX (by omega))
       clear hb HXN ho20 HX16 HI18 kU)
    | (go_at_call 21
       (with_reducible refine (HIN.out _ _ _ _ (HI4.out.later kX (Nat.le_refl _))).mono ?_)
       rintro e w22 ⟨a22, m22, k22, rfl, hb⟩
       (try (have hq := Below.size k0; replace k0 := Below.trans k0 (Below.mono hb (by omega)); clear hq))
       (try (have hq := Below.size kA; replace kA := Below.trans kA (Below.mono hb (by omega)); clear hq))
       (try (have hq := Below.size kX; replace kX := Below.trans kX (Below.mono hb (by omega)); clear hq))
       (try (have hq := Below.size kY; replace kY := Below.trans kY (Below.mono hb (by omega)); clear hq))
       (try (have hq := Below.size kV; replace kV := Below.trans kV (Below.mono hb (by omega)); clear hq))
       (try (have hq := Below.size kU; replace kU := Below.trans kU (Below.mono hb (by omega)); clear hq))
       clear c0 c1 c2 cf hb HIN HI4 HX3 kX
       have hb := (Below.refl w22.heap.size w22).alloc (Nat.le_refl _) (Obj.cells #[.slice a22 m22 k22, .int .i64 0, .string { data := #[] }] 24)
       (try (have hq := Below.size k0; replace k0 := Below.trans k0 (Below.mono hb (by omega)); clear hq))
       (try (have hq := Below.size kA; replace kA := Below.trans kA (Below.mono hb (by omega)); clear hq))
       (try (have hq := Below.size kX; replace kX := Below.trans kX (Below.mono hb (by omega)); clear hq))
       (try (have hq := Below.size kY; replace kY := Below.trans kY (Below.mono hb (by omega)); clear hq))
       (try (have hq := Below.size kV; replace kV := Below.trans kV (Below.mono hb (by omega)); clear hq))
       (try (have hq := Below.size kU; replace kU := Below.trans kU (Below.mono hb (by omega)); clear hq))
       obtain ⟨c0, c1, c2, cf⟩ := box_facts (box_later HX11.out kV (by omega))
       have hI := HI15.out.later kV (Nat.le_refl _)
       clear hb)
    | (go_at_call 23
       (with_reducible refine (HPT.out _ _ _ _ hI).mono ?_)
       rintro e w24 ⟨a24, m24, k24, rfl, hb⟩
       (try (have hq := Below.size k0; replace k0 := Below.trans k0 (Below.mono hb (by omega)); clear hq))
       (try (have hq := Below.size kA; replace kA := Below.trans kA (Below.mono hb (by omega)); clear hq))
       (try (have hq := Below.size kX; replace kX := Below.trans kX (Below.mono hb (by omega)); clear hq))
       (try (have hq := Below.size kY; replace kY := Below.trans kY (Below.mono hb (by omega)); clear hq))
       (try (have hq := Below.size kV; replace kV := Below.trans kV (Below.mono hb (by omega)); clear hq))
       (try (have hq := Below.size kU; replace kU := Below.trans kU (Below.mono hb (by omega)); clear hq))
       clear c0 c1 c2 cf hb HPT hI
       have hb := (Below.refl w24.heap.size w24).alloc (Nat.le_refl _) (Obj.cells #[.slice a24 m24 k24, .int .i64 0, .string { data := #[] }] 24)
       (try (have hq := Below.size k0; replace k0 := Below.trans k0 (Below.mono hb (by omega)); clear hq))
       (try (have hq := Below.size kA; replace kA := Below.trans kA (Below.mono hb (by omega)); clear hq))
       (try (have hq := Below.size kX; replace kX := Below.trans kX (Below.mono hb (by omega)); clear hq))
       (try (have hq := Below.size kY; replace kY := Below.trans kY (Below.mono hb (by omega)); clear hq))
       (try (have hq := Below.size kV; replace kV := Below.trans kV (Below.mono hb (by omega)); clear hq))
       (try (have hq := Below.size kU; replace kU := Below.trans kU (Below.mono hb (by omega)); clear hq))
       obtain ⟨c0, c1, c2, cf⟩ := box_facts (box_later HX11.out kV (by omega))
       obtain ⟨d0, d1, d2, _⟩ := box_facts (box_later HX5b.out kY (by omega))
       have hI := HI15.out.later kV (Nat.le_refl _)
       have hJ := HI5.out.later kY (Nat.le_refl _)
       clear hb))
  have q14 : w5.heap.size < w14.heap.size := by omega
  have q0 : w.heap.size ≤ w14.heap.size := by omega
  have hz : w14.heap.size + 1 ≤ w24.heap.size + 1 := by have := kV.size; simp at this; omega
  clear kV kY HI15 HI5 HX11 HX5b hs15 hs12 hs11 hs10 hs9 hs8 hs7 hs6 hs4
  go_region_held3 (fun w' => w'.cell? ⟨w14.heap.size, 0, none⟩ = some (.slice a14 m14 k14) ∧ w'.cell? ⟨w14.heap.size, 1, none⟩ = some (.int .i64 1) ∧ w'.cell? ⟨w14.heap.size, 2, none⟩ = some (.string { data := #[107] }) ∧ w'.cell? ⟨w5.heap.size, 0, none⟩ = some (.slice a11 m11 k11) ∧ w'.cell? ⟨w5.heap.size, 1, none⟩ = some (.int .i64 1) ∧ w'.cell? ⟨w5.heap.size, 2, none⟩ = some (.string { data := #[] }) ∧ ItR w' (.slice a14 m14 k14) kID ∧ ItR w' (.slice a11 m11 k11) kI5 ∧ Below w.heap.size w w' ∧ w14.heap.size + 1 ≤ w'.heap.size)
    (first
      | exact ⟨c0, c1, c2, d0, d1, d2, hI.later ((Below.refl _ _).drew) (Nat.le_refl _), hJ.later ((Below.refl _ _).drew) (Nat.le_refl _), k0.drew, by simp; omega⟩
      | (go_split_ands
         refine ⟨?_, ?_, ?_, ?_, ?_, ?_, ?_, ?_, ?_, ?_⟩
         · (rw [hb.cell (by simp; omega)]; assumption)
         · (rw [hb.cell (by simp; omega)]; assumption)
         · (rw [hb.cell (by simp; omega)]; assumption)
         · (rw [hb.cell (by simp; omega)]; assumption)
         · (rw [hb.cell (by simp; omega)]; assumption)
         · (rw [hb.cell (by simp; omega)]; assumption)
         · exact ItR.later (by assumption) hb (Nat.le_refl _)
         · exact ItR.later (by assumption) hb (Nat.le_refl _)
         · exact Below.trans (by assumption) (hb.mono (by omega))
         · exact Nat.le_trans (by assumption) hb.size))
    (first
      | (go_at_call 28; go_split_ands; (with_reducible refine (HFN.out _ _ _ _ (by assumption)).mono ?_); rintro e w25 ⟨a25, m25, k25, rfl, ho25, hb⟩; have HI25 := Lib.hid (items_of_own ho25).1; clear ho25)
      | (go_at_call 9; go_split_ands; (with_reducible refine (HGD.out _ _ _ _ (by assumption)).mono ?_); rintro e w26 ⟨a26, m26, k26, rfl, hI26, hb⟩; have HI26 := Lib.hid hI26; have HI25b := Lib.hid (HI25.out.later hb (Nat.le_refl _)); clear hI26)
      | (go_at_call 16; go_split_ands; (with_reducible refine (HSM.out _ _ _ _ _ _ _ HI25b.out HI26.out).mono ?_); rintro e w27 ⟨rfl, hb⟩))
  rename_i hHeld
  obtain ⟨c0, c1, c2, d0, d1, d2, hI, hJ, k0, hz⟩ := hHeld
  go_wp2_with (first
    | (go_at_call 14; (with_reducible refine (HRW.out _ _ _ _ hJ).mono ?_); rintro e w28 ⟨rfl, hb⟩; replace k0 := k0.trans (hb.mono (by omega)); clear hb c0 c1 c2 d0 d1 d2)
    | (go_at_call 17; (with_reducible refine (HWK.out _).mono ?_); rintro e w29 ⟨rfl, hb⟩; replace k0 := k0.trans (hb.mono k0.size)))
  go_ret
  exact ⟨rfl, k0⟩
theorem own : ownKnob Try.prog.godebug = none := by kernel_rfl
theorem laidOut : laidOutB Try.prog = true := by kernel_rfl

set_option maxRecDepth 100000 in
theorem lifted (os : Os) (started : os.Started) (H : Type) (enc : TypeId × Value → H) :
    ReturnsInHanded {} Try.checked os 7 .any (Rows.composeKnownSpec.pre6 enc Try.prog Try.f7 Rows.composeKnownRow.domain false) (Rows.composeKnownSpec.post enc Try.prog Try.f7 false true false false) := by
  refine returnsInHanded_of_change_shaped (C := Try.checked) own started (by kernel_rfl) Try.func7
    (ChangeSpec.witness6 (enc := enc) (C := Try.checked) false ⟨#[], #[], []⟩ 8 (by kernel_rfl) (by kernel_rfl) (by kernel_rfl) (by kernel_rfl)) ?_
  intro W base args ds gs before hval0 hW hcnd hsz0 hsh _
  have hval : ∀ (j : Nat) t v, Try.f7.params[j]? = some t → args[j]? = some v → Value.okWide Try.prog W .any base t v := hval0
  have hW' := hW
  obtain ⟨p, q, hA0, hV, rfl, hfz, hnd⟩ := hW
  have hA : DataW.TrodAll enc Try.prog W 0 (fun _ => true) true Try.f7.params.toList args.toList ds p := hA0
  rw [Try.params7] at hA hval
  obtain ⟨rfl, rfl, rfl⟩ := trodAll_none hA
  obtain ⟨rfl, rfl⟩ := trodVars_none hV
  clear hA0 hval0
  refine (walk W).mono fun e W' ⟨he, bel⟩ => ?_
  subst he
  exact ⟨_, rfl, _, _, _, [], _, [], hW', trodAll_mk1 (shut_bool Try.underlying4 _), trodAll_mk0, rfl, bel.frame _, fun h => by cases h⟩

theorem over : Rows.composeKnownRow.holds Try.pinned (OpenSpec.ofChange Rows.composeKnownSpec) :=
  OpenClaim.holds_of_wide 7 Try.f7 rfl rfl rfl rfl rfl rfl rfl ⟨rfl, rfl, rfl, rfl, rfl⟩ rfl rfl rfl rfl rfl (by kernel_rfl) Try.func7 (by kernel_rfl)
    (of_decide_eq_true (by kernel_rfl)) (by unfold Func.isWrapper; first | (rw [if_pos (by decide +kernel)]; kernel_rfl) | (rw [if_neg (by decide +kernel)]; exact ⟨rfl, rfl⟩))
    (fun os started H enc _ => lifted os started H enc)

theorem proved : Rows.ComposeKnownSaid := over
end Go.Proofs.Ytlmbbpppfghcbaa.composeKnown
