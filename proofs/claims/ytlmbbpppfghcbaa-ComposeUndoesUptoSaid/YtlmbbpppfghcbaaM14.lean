/-
  Joined texts: CmpY, CmpU, CmpV, CmpW, CmpL, CmpFr.
-/
import Derived.Test.YtlmbbpppfghcbaaM10
import Derived.Test.YtlmbbpppfghcbaaM11
import Derived.Test.YtlmbbpppfghcbaaM13
import Derived.Test.YtlmbbpppfghcbaaM8
import Derived.Deep.RegionLaw
import Derived.Deep.DeepCutAuto
import Derived.Deep.Slices
import Derived.Deep.SlicePairs
import Derived.Deep.Fields
import Derived.ChangeSame
import Derived.ChangeArms
import Derived.Shelf.Vars
set_option linter.unusedVariables false
set_option linter.unusedSimpArgs false
set_option maxRecDepth 100000
namespace Go.Proofs.Ytlmbbpppfghcbaa.Cmp
open Go Go.RowKit Go.Proofs.Ytlmbbpppfghcbaa.Kit Go.Proofs.Ytlmbbpppfghcbaa.Utf Go.Proofs.Ytlmbbpppfghcbaa.Rom Go.Proofs.Ytlmbbpppfghcbaa.Aut

theorem def_okL : okL defL = true := (ok_of_check def_check).2
theorem def_shortL : ∀ r ∈ defL, Short r := by
  intro r hr
  have h := ok_of def_okL hr
  have h1 := okR_next h
  have h2 := okR_out h
  exact ⟨by omega, by omega, by omega⟩

/-! ### typing, as a program -/
def keyO (rs : List Rule) (b : Bf) (k : UInt8) : Option Bf :=
  if val b && isKb k then
    match feedO rs 1000 (bs b.p) [k] with
    | some (o, q) => match chars o with
      | some cs => if b.is.length + cs.length > 64 then none else some (insB { b with p := ba q } (itemsL (ba (endsL (bs b.p ++ [k]) q)) cs))
      | none => none
    | none => none
  else none
theorem keyO_sound {rs : List Rule} {b b' : Bf} {k : UInt8} (h : keyO rs b k = some b') : keyB rs b k = (b', 0) := by
  unfold keyO at h
  unfold keyB
  split at h
  · rename_i hv
    rw [if_pos hv]
    split at h
    · rename_i o q hf
      rw [(feedO_sound hf).fd]
      split at h
      · rename_i cs hc
        rw [chs_some hc]
        split at h
        · cases h
        · rename_i hl
          rw [if_neg hl]
          cases h; rfl
      · cases h
    · cases h
  · cases h
def typO (rs : List Rule) : Bf → By → Option Bf
  | b, [] => some b
  | b, k :: ks => match keyO rs b k with
    | some b' => typO rs b' ks
    | none => none
theorem typO_sound {rs : List Rule} : ∀ {ks : By} {b b' : Bf}, typO rs b ks = some b' → typL rs b ks = (b', true)
  | [], b, b', h => by cases h; rfl
  | k :: ks, b, b', h => by
    unfold typO at h
    split at h
    · rename_i c hc
      unfold typL
      rw [keyO_sound hc, if_pos rfl]
      exact typO_sound h
    · cases h

/-! ### k, y, o, u, n -/
def b5 : Bf := ⟨[⟨ba [107, 121, 111], ba [227, 129, 141]⟩, ⟨ba [], ba [227, 130, 135]⟩, ⟨ba [117], ba [227, 129, 134]⟩], 3, ba [110]⟩
def b6 : Bf := ⟨[⟨ba [107, 121, 111], ba [227, 129, 141]⟩, ⟨ba [], ba [227, 130, 135]⟩, ⟨ba [117], ba [227, 129, 134]⟩, ⟨ba [110], ba [227, 130, 147]⟩], 4, ba []⟩
theorem typ5 : typO defL noB [107, 121, 111, 117, 110] = some b5 := by decide +kernel
theorem flu5 : flushO defL 10 [110] = some [227, 130, 147] := by decide +kernel
theorem val5 : val b5 = true := by decide +kernel
theorem flub5 : fluB b5 [227, 130, 147] = b6 := by decide +kernel
theorem tex5 : texB b5 = (ba [227, 129, 141, 227, 130, 135, 227, 129, 134], ba [110], ba []) := by decide +kernel
theorem tex6 : texB b6 = (ba [227, 129, 141, 227, 130, 135, 227, 129, 134, 227, 130, 147], ba [], ba []) := by decide +kernel
theorem raw6 : rawB b6 = ba [107, 121, 111, 117, 110] := by decide +kernel

theorem new_def (v : Value) (w : World) (hR : RowR w v defL) : Calls Try.prog 18 #[v] w fun e w' => ∃ a, e = .returned (.tuple #[.pointer (some ⟨a, 0, none⟩), .int .i64 0]) ∧ AutoAt w'.heap.size w' a defL ∧ Below w.heap.size w w' := by
  refine (new_any v defL w hR def_shortL).mono ?_
  rintro e w' ⟨hb, ⟨h, _⟩ | ⟨_, a, rfl, hA, _⟩⟩
  · exact absurd def_check h
  · exact ⟨a, rfl, hA, hb⟩
theorem def_any (w : World) : Calls Try.prog 27 #[] w fun e w' => ∃ v, e = .returned v ∧ RowR w' v defL ∧ Below w.heap.size w w' := by
  refine (default_any w).mono ?_
  rintro e w' ⟨v, rfl, ho, hb⟩
  exact ⟨v, rfl, (row_of_own ho).1, hb⟩
/-- Keys that are typed with the rules of the document. -/
theorem typed_def {ks : By} {b : Bf} (h : typO defL noB ks = some b) (hl : ks.length ≤ 1000) (Q q0 : Nat) (w : World) (hA : AutoAt Q w q0 defL) (hQ : Q ≤ w.heap.size) :
    Calls Try.prog 19 #[.pointer (some ⟨q0, 0, none⟩), .string (ba ks)] w fun e w' => ∃ a m k, e = .returned (.tuple #[.agg #[.slice a m k, .int .i64 b.c, .string b.p], .bool true]) ∧ ItR w' (.slice a m k) b.is ∧ Below w.heap.size w w' ∧ Sh b := by
  have h1 := typed_any def_okL Q q0 (ba ks) w hA hQ (by rw [ba_size]; omega)
  rw [bs_ba, typO_sound h] at h1
  exact h1
theorem sh5 : Sh b5 := by
  refine ⟨?_, by decide, by decide⟩
  intro i hi
  simp only [b5, List.mem_cons, List.not_mem_nil, or_false] at hi
  rcases hi with rfl | rfl | rfl <;> exact ⟨by decide, by decide⟩
theorem sh6 : Sh b6 := by
  refine ⟨?_, by decide, by decide⟩
  intro i hi
  simp only [b6, List.mem_cons, List.not_mem_nil, or_false] at hi
  rcases hi with rfl | rfl | rfl | rfl <;> exact ⟨by decide, by decide⟩

set_option maxHeartbeats 4000000 in
theorem works_any (w : World) : Calls Try.prog 17 #[] w fun e w' => e = .returned (.bool true) ∧ Below w.heap.size w w' := by
  have HDF := Lib.hid def_any
  have HNW := Lib.hid new_def
  have HTY : Hid (∀ (Q q0 : Nat) (W : World), AutoAt Q W q0 defL → Q ≤ W.heap.size → Calls Try.prog 19 #[.pointer (some ⟨q0, 0, none⟩), .string { data := #[107, 121, 111, 117, 110] }] W fun e w' => ∃ a m k, e = .returned (.tuple #[.agg #[.slice a m k, .int .i64 3, .string { data := #[110] }], .bool true]) ∧ ItR w' (.slice a m k) b5.is ∧ Below W.heap.size W w' ∧ Sh b5) := Lib.hid fun Q q0 W h1 h2 => typed_def typ5 (by decide) Q q0 W h1 h2
  have HTX : Hid (∀ (a : Option Addr) (m k : Nat) (W : World), ItR W (.slice a m k) b5.is → Calls Try.prog 11 #[.agg #[.slice a m k, .int .i64 3, .string { data := #[110] }]] W fun e w' => e = .returned (.tuple #[.string { data := #[227, 129, 141, 227, 130, 135, 227, 129, 134] }, .string { data := #[110] }, .string { data := #[] }]) ∧ Below W.heap.size W w') := Lib.hid fun a m k W h => by
    have h1 := text_buf b5 (.agg #[.slice a m k, .int .i64 3, .string { data := #[110] }]) W ⟨_, rfl, h⟩ sh5
    rw [tex5] at h1
    exact h1
  have HFL : Hid (∀ (Q q0 : Nat) (a : Option Addr) (m k : Nat) (W : World), AutoAt Q W q0 defL → Q ≤ W.heap.size → ItR W (.slice a m k) b5.is → Calls Try.prog 28 #[.pointer (some ⟨q0, 0, none⟩), .agg #[.slice a m k, .int .i64 3, .string { data := #[110] }]] W fun e w' => ∃ a' m' k', e = .returned (.agg #[.slice a' m' k', .int .i64 4, .string { data := #[] }]) ∧ w'.ownsRow W.heap.size 65 2 (.slice a' m' k') 4 (ic b6.is) ∧ Below W.heap.size W w') := Lib.hid fun Q q0 a m k W h1 h2 h3 => by
    have h4 := flushbuf_any def_okL Q q0 b5 [227, 130, 147] (.agg #[.slice a m k, .int .i64 3, .string { data := #[110] }]) W h1 h2 ⟨_, rfl, h3⟩ sh5 (fun _ => flushO_sound flu5)
    rw [flub5] at h4
    exact h4
  have HTX6 : Hid (∀ (a : Option Addr) (m k : Nat) (W : World), ItR W (.slice a m k) b6.is → Calls Try.prog 11 #[.agg #[.slice a m k, .int .i64 4, .string { data := #[] }]] W fun e w' => e = .returned (.tuple #[.string { data := #[227, 129, 141, 227, 130, 135, 227, 129, 134, 227, 130, 147] }, .string { data := #[] }, .string { data := #[] }]) ∧ Below W.heap.size W w') := Lib.hid fun a m k W h => by
    have h1 := text_buf b6 (.agg #[.slice a m k, .int .i64 4, .string { data := #[] }]) W ⟨_, rfl, h⟩ sh6
    rw [tex6] at h1
    exact h1
  have HRW : Hid (∀ (a : Option Addr) (m k : Nat) (W : World), ItR W (.slice a m k) b6.is → Calls Try.prog 14 #[.agg #[.slice a m k, .int .i64 4, .string { data := #[] }]] W fun e w' => e = .returned (.string { data := #[107, 121, 111, 117, 110] }) ∧ Below W.heap.size W w') := Lib.hid fun a m k W h => by
    have h1 := raw_buf b6 (.agg #[.slice a m k, .int .i64 4, .string { data := #[] }]) W ⟨_, rfl, h⟩ sh6
    rw [raw6] at h1
    exact h1
  generalize b5.is = I5 at *
  generalize b6.is = I6 at *
  go_enter Try.func17, Try.ntmps17
  go_wp2_with (first
    | (go_at_call 27; (with_reducible refine (HDF.out _).mono ?_); rintro e w1 ⟨v, rfl, hR1, hb1⟩; have HR1 := Lib.hid hR1; clear hR1)
    | (go_at_call 18; (with_reducible refine (HNW.out _ _ HR1.out).mono ?_); rintro e w2 ⟨q0, rfl, hA2, hb2⟩; have HA2 := Lib.hid hA2; have hbw2 := hb1.trans (hb2.mono hb1.size); clear hA2 HR1)
    | (go_at_call 19; (with_reducible refine (HTY.out _ _ _ HA2.out (Nat.le_refl _)).mono ?_); rintro e w3 ⟨a3, m3, k3, rfl, hI3, hb3, _⟩; have HI3 := Lib.hid (fun o => hI3.later ((Below.refl w3.heap.size w3).alloc (Nat.le_refl _) o) (Nat.le_refl _)); have HA3 := Lib.hid (fun o => HA2.out.later (hb3.alloc hb3.size o) (Nat.le_refl _)); have hbw3 := hbw2.trans (hb3.mono hbw2.size); have hbq := hb3.size; clear hI3 HTY)
    | (go_at_call 11; (with_reducible refine (HTX.out _ _ _ _ (HI3.out _)).mono ?_); rintro e w4 ⟨rfl, hb4⟩; have hbx4 := (hb4.block w3.heap.size (by simp)).trans (heap_alloc_new w3 _); obtain ⟨c0, c1, c2, cf⟩ := box_facts hbx4; have HI4 := Lib.hid ((HI3.out _).later hb4 (Nat.le_refl _)); have hs4 := hb4.size; simp at hs4; have HA4 := Lib.hid ((HA3.out _).later hb4 (by simp; omega)); have hbw4 := (hbw3.alloc hbw3.size (Obj.cells #[.slice a3 m3 k3, .int .i64 3, .string { data := #[110] }] 24)).trans (hb4.mono (by have := hbw3.size; simp; omega)); clear HTX)
    | (go_at_call 28; (with_reducible refine (HFL.out _ _ _ _ _ _ HA4.out (by omega) HI4.out).mono ?_); rintro e w5 ⟨a6, m6, k6, rfl, ho6, hb6⟩; have hbx5 := (hb6.block w3.heap.size (by omega)).trans hbx4; clear c0 c1 c2 cf; obtain ⟨c0, c1, c2, cf⟩ := box_facts hbx5; have hbw5 := hbw4.trans (hb6.mono hbw4.size); have HO6 := Lib.hid ho6; have hs6 := hb6.size; clear HFL ho6)
    | (go_at_call 11; obtain ⟨W7, hW7⟩ : ∃ W7, (((w5.setCell ⟨w3.heap.size, 0, none⟩ (.slice a6 m6 k6)).setCell ⟨w3.heap.size, 1, none⟩ (.int .i64 4)).setCell ⟨w3.heap.size, 2, none⟩ (.string { data := #[] })) = W7 := ⟨_, rfl⟩; rw [hW7]; have hbx7 := box_set3 (y0 := .slice a6 m6 k6) (y1 := .int .i64 4) (y2 := .string { data := #[] }) hbx5; have hI7 := (items_of_own (ownsRow_setCell_below (ownsRow_setCell_below (ownsRow_setCell_below HO6.out (a := ⟨w3.heap.size, 0, none⟩) (by show w3.heap.size < _; omega) (.slice a6 m6 k6)) (a := ⟨w3.heap.size, 1, none⟩) (by show w3.heap.size < _; omega) (.int .i64 4)) (a := ⟨w3.heap.size, 2, none⟩) (by show w3.heap.size < _; omega) (.string { data := #[] }))).1; have hbw7 := Below.setCell (Below.setCell (Below.setCell hbw5 (p := ⟨w3.heap.size, 0, none⟩) hbw3.size (.slice a6 m6 k6)) (p := ⟨w3.heap.size, 1, none⟩) hbw3.size (.int .i64 4)) (p := ⟨w3.heap.size, 2, none⟩) hbw3.size (.string { data := #[] }); have hs7 : W7.heap.size = w5.heap.size := (by rw [← hW7]; simp); rw [hW7] at hbx7 hI7 hbw7; clear hW7; (with_reducible refine (HTX6.out _ _ _ _ hI7).mono ?_); rintro e w8 ⟨rfl, hb8⟩; clear c0 c1 c2 cf; obtain ⟨c0, c1, c2, cf⟩ := box_facts ((hb8.block w3.heap.size (by omega)).trans hbx7); have HI8 := Lib.hid (hI7.later hb8 (Nat.le_refl _)); have hbw8 := hbw7.trans (hb8.mono hbw7.size); clear hI7)
    | (go_at_call 14; (with_reducible refine (HRW.out _ _ _ _ HI8.out).mono ?_); rintro e w9 ⟨rfl, hb9⟩))
  go_ret
  exact ⟨rfl, hbw8.trans (hb9.mono hbw8.size)⟩

end Go.Proofs.Ytlmbbpppfghcbaa.Cmp

set_option linter.unusedVariables false
set_option linter.unusedSimpArgs false
set_option maxRecDepth 100000
namespace Go.Proofs.Ytlmbbpppfghcbaa.Cmp
open Go Go.RowKit Go.Proofs.Ytlmbbpppfghcbaa.Kit Go.Proofs.Ytlmbbpppfghcbaa.Utf Go.Proofs.Ytlmbbpppfghcbaa.Rom Go.Proofs.Ytlmbbpppfghcbaa.Aut

theorem load_rbuf {w : World} {g o : Nat} {a : Option Addr} {n k : Nat} {c : Int} {p : ByteArray} (h0 : w.cell? ⟨g, o, none⟩ = some (.slice a n k)) (h1 : w.cell? ⟨g, o + 1, none⟩ = some (.int .i64 c)) (h2 : w.cell? ⟨g, o + 2, none⟩ = some (.string p)) :
    (loadVar 27 ⟨g, o, none⟩).run Try.prog w = .ok (.agg #[.slice a n k, .int .i64 c, .string p]) w := by
  go_simp

end Go.Proofs.Ytlmbbpppfghcbaa.Cmp

set_option linter.unusedVariables false
set_option linter.unusedSimpArgs false
set_option maxRecDepth 100000
namespace Go.Proofs.Ytlmbbpppfghcbaa.Cmp
open Go Go.RowKit Go.Proofs.Ytlmbbpppfghcbaa.Kit Go.Proofs.Ytlmbbpppfghcbaa.Utf Go.Proofs.Ytlmbbpppfghcbaa.Rom Go.Proofs.Ytlmbbpppfghcbaa.Aut

theorem val_long {b : Bf} (h : ¬ b.p.size ≤ 8) : val b = false := by
  cases e : val b
  · rfl
  · exact absurd (val_parts e).2.2.2.2.1 h
theorem val_nokey {b : Bf} (h : fromB 33 (bs b.p) = false) : val b = false := by
  cases e : val b
  · rfl
  · have := (val_parts e).2.2.2.2.2
    rw [h] at this; cases this

set_option maxHeartbeats 4000000 in
theorem rvalid_any (b : Bf) (s : Value) (w : World) (hR : ItR w s b.is) (hsh : Sh b) :
    Calls Try.prog 10 #[.agg #[s, .int .i64 b.c, .string b.p]] w fun e w' => e = .returned (.bool (val b)) ∧ Below w.heap.size w w' := by
  obtain ⟨a, len, cap, rfl, hlen, hcap, hmax, _⟩ := id hR
  obtain ⟨sh1, sh2, sh3⟩ := hsh
  subst hlen
  unfold maxLen at hmax
  by_cases h1 : b.is.length ≤ 64
  rotate_left
  · rw [val_len h1]
    clear hR sh1
    obtain ⟨is, c, p⟩ := b
    simp only at *
    go_enter Try.func10, Try.ntmps10
    go_wp2
    go_ret
    exact ⟨rfl, (Below.refl _ _).alloc (Nat.le_refl _) _⟩
  by_cases h2 : 0 ≤ b.c
  rotate_left
  · rw [val_neg h2]
    clear hR sh1
    obtain ⟨is, c, p⟩ := b
    simp only at *
    go_enter Try.func10, Try.ntmps10
    go_wp2
    go_ret
    exact ⟨rfl, (Below.refl _ _).alloc (Nat.le_refl _) _⟩
  by_cases h3 : b.c ≤ b.is.length
  rotate_left
  · rw [val_gt h3]
    clear hR sh1
    obtain ⟨is, c, p⟩ := b
    simp only at *
    go_enter Try.func10, Try.ntmps10
    go_wp2
    go_ret
    exact ⟨rfl, (Below.refl _ _).alloc (Nat.le_refl _) _⟩
  by_cases h8 : b.p.size ≤ 8
  rotate_left
  · rw [val_long h8]
    clear hR sh1
    obtain ⟨is, c, p⟩ := b
    simp only at *
    go_enter Try.func10, Try.ntmps10
    go_wp2
    go_ret
    exact ⟨rfl, (Below.refl _ _).alloc (Nat.le_refl _) _⟩
  have HP := fun W => rbytes_any 33 b.p W (by omega) (by omega) (by omega)
  cases hFP : fromB 33 (bs b.p)
  · rw [val_nokey hFP]
    rw [hFP] at HP
    have HP := Lib.hid HP
    clear hR sh1 hFP
    obtain ⟨is, c, p⟩ := b
    simp only at *
    go_enter Try.func10, Try.ntmps10
    go_wp2_with (go_at_call 31; (with_reducible refine (HP.out _).mono ?_); rintro e w2 ⟨rfl, hw2⟩; obtain rfl := hw2.symm)
    go_ret
    exact ⟨rfl, (Below.refl _ _).alloc (Nat.le_refl _) _⟩
  rw [hFP] at HP
  obtain ⟨E, hE⟩ : ∃ E, val b = E := ⟨_, rfl⟩
  rw [hE]
  have HBAD := Lib.hid (fun (k : Nat) (hk : k < b.is.length) (h : okI (ii b.is k) = false) => (val_bad hk h).symm.trans hE)
  have HREST := Lib.hid (show (∀ j, j < b.is.length → okI (ii b.is j) = true) → true = E from fun h4 => by
    have h := (val_rest h1 h2 h3 h4).symm.trans hE
    rw [decide_eq_true h8, hFP] at h
    exact h)
  clear hE
  have HS := Lib.hid sh1
  have HR := Lib.hid hR
  obtain ⟨is, c, p⟩ := b
  simp only at *
  have HP := Lib.hid HP
  clear sh1 hR hFP
  go_enter Try.func10, Try.ntmps10
  go_wp2_with (go_at_call 31; (with_reducible refine (HP.out _).mono ?_); rintro e w2 ⟨rfl, hw2⟩; obtain rfl := hw2.symm)
  go_loopw [3] (fun i wr => ∃ k : Nat, i = .int .i64 k ∧ k ≤ is.length ∧ Hid (∀ j, j < k → okI (ii is j) = true) ∧ Below w.heap.size w wr ∧ wr.cell? ⟨w.heap.size, 0, none⟩ = some (.slice a is.length cap) ∧ w.heap.size + 1 ≤ wr.heap.size) (fun i _ => is.length - (intOf i).toNat)
  case atStart => exact ⟨0, rfl, Nat.zero_le _, Lib.hid (fun j hj => by omega), (Below.refl _ _).alloc (Nat.le_refl _) _, by simp, by simp⟩
  case round =>
    obtain ⟨k, rfl, hk, hall, hbw, hc2, hz⟩ := hrel
    by_cases hkl : k < is.length
    · obtain ⟨g, off, rfl, hb, hx⟩ := HR.out.at (by omega)
      obtain ⟨x0, x1⟩ := hx k hkl
      rw [← hbw.cell (p := ⟨g, _, none⟩) hb] at x0 x1
      obtain ⟨z1, z2⟩ := HS.out _ (ii_mem hkl)
      have HB2 := Lib.hid (HBAD.out k hkl)
      have HA2 := Lib.hid (show okI (ii is k) = true → ∀ j, j < k + 1 → okI (ii is j) = true from fun h j hj => by
        rcases Nat.lt_or_ge j k with h' | h'
        · exact hall.out j h'
        · rw [show j = k by omega]; exact h)
      clear hx
      generalize ii is k = r at x0 x1 z1 z2 HB2 HA2
      obtain ⟨rr, ro⟩ := r
      simp only at x0 x1 z1 z2
      unfold okI at HB2 HA2
      simp only at HB2 HA2
      have HC := fun W => rcount_any ro W (by omega)
      have HF := fun W => rbytes_any 32 rr W (by omega) (by omega) (by omega)
      obtain ⟨Z, hZ⟩ : ∃ Z, count (bs ro) = Z := ⟨_, rfl⟩
      obtain ⟨F, hF⟩ : ∃ F, fromB 32 (bs rr) = F := ⟨_, rfl⟩
      rw [hZ] at HC HB2 HA2
      rw [hF] at HF HB2 HA2
      have HC := Lib.hid HC
      have HF := Lib.hid HF
      have k0 : (0 : Int) ≤ k := by omega
      have k1 : (k : Int) < is.length := by omega
      clear hZ hF
      have hws := hbw.size
      have hgs : g < wr.heap.size := by omega
      by_cases hz1 : Z = 1
      · subst hz1
        cases F
        · have HB3 := Lib.hid (HB2.out rfl)
          go_wp2_with (first
            | (go_at_call 29; (with_reducible refine (HC.out _).mono ?_); rintro e w1 ⟨rfl, hb1⟩; have hd2 := (hb1.cell (p := ⟨w.heap.size, 0, none⟩) (by simp; omega)).trans hc2; have hx0 := (hb1.cell (p := ⟨g, _, none⟩) hgs).trans x0)
            | (go_at_call 31; (with_reducible refine (HF.out _).mono ?_); rintro e w2 ⟨rfl, hw2⟩; obtain rfl := hw2.symm))
          go_ret
          exact ⟨ret_bool HB3.out, hbw.trans (hb1.mono hws)⟩
        · have HA3 := Lib.hid (HA2.out rfl)
          go_wp2_with (first
            | (go_at_call 29; (with_reducible refine (HC.out _).mono ?_); rintro e w1 ⟨rfl, hb1⟩; have hd2 := (hb1.cell (p := ⟨w.heap.size, 0, none⟩) (by simp; omega)).trans hc2; have hx0 := (hb1.cell (p := ⟨g, _, none⟩) hgs).trans x0; have hs1 := hb1.size)
            | (go_at_call 31; (with_reducible refine (HF.out _).mono ?_); rintro e w2 ⟨rfl, hw2⟩; obtain rfl := hw2.symm))
          go_roundw
          case rel => exact ⟨k + 1, by go_num, by omega, HA3, hbw.trans (hb1.mono hws), hd2, by omega⟩
          case measure => simp [intOf]; omega
      · have hz2 : (Z != 1) = true := by simpa using hz1
        have HB3 := Lib.hid (HB2.out (by rw [decide_eq_false hz1]; rfl))
        go_wp2_with (go_at_call 29; (with_reducible refine (HC.out _).mono ?_); rintro e w1 ⟨rfl, hb1⟩)
        go_ret
        exact ⟨ret_bool HB3.out, hbw.trans (hb1.mono hws)⟩
    · have HE := Lib.hid (HREST.out (fun j hj => hall.out j (by omega)))
      go_wp2
      go_ret
      exact ⟨ret_bool HE.out, hbw⟩

theorem below_drn {B : Nat} {w w' : World} (h : Below B w w') (n : Nat) : Below B w (w'.drewN n) := h.trans ⟨rfl, rfl, rfl, Nat.le_refl _, fun _ _ => rfl⟩
theorem boxes {w : World} {o1 o2 : Obj} {W : World} (hW : (w.alloc o1).alloc o2 = W) : W.heap[w.heap.size]? = some o1 ∧ W.heap[w.heap.size + 1]? = some o2 ∧ Below w.heap.size w W ∧ W.heap.size = w.heap.size + 2 := by
  subst hW
  have s1 : (w.alloc o1).heap.size = w.heap.size + 1 := by simp
  have e1 := heap_alloc_new w o1
  have e2 := heap_alloc_new (w.alloc o1) o2
  rw [s1] at e2
  rw [← Below.heap_alloc _ o2 _ (by simp)] at e1
  exact ⟨e1, e2, ((Below.refl _ _).alloc (Nat.le_refl _) _).alloc (by simp) _, by simp⟩
theorem bf_ne_len {x y : Bf} (h : ¬ x.is.length = y.is.length) : decide (x = y) = false := decide_eq_false (fun e => h (by rw [e]))
theorem bf_ne_c {x y : Bf} (h : ¬ x.c = y.c) : decide (x = y) = false := decide_eq_false (fun e => h (by rw [e]))
theorem bf_ne_p {x y : Bf} (h : ¬ x.p = y.p) : decide (x = y) = false := decide_eq_false (fun e => h (by rw [e]))
theorem bf_eq {x y : Bf} (h2 : x.c = y.c) (h3 : x.p = y.p) : decide (x = y) = decide (x.is = y.is) := by
  congr 1
  exact propext ⟨fun h => by rw [h], fun h => Bf.ext' h h2 h3⟩

end Go.Proofs.Ytlmbbpppfghcbaa.Cmp

set_option linter.unusedVariables false
set_option linter.unusedSimpArgs false
set_option maxRecDepth 100000
namespace Go.Proofs.Ytlmbbpppfghcbaa.Cmp
open Go Go.RowKit Go.Proofs.Ytlmbbpppfghcbaa.Kit Go.Proofs.Ytlmbbpppfghcbaa.Utf Go.Proofs.Ytlmbbpppfghcbaa.Rom Go.Proofs.Ytlmbbpppfghcbaa.Aut

theorem ba_app (x : By) (s : ByteArray) : ba x ++ s = ba (x ++ bs s) := ba_ext (by simp [ba, bs])
theorem outs_cat (l : List It) : outs l = cat It.o l := rfl
theorem raws_cat (l : List It) : raws l = cat It.r l := rfl
theorem take_drop_succ (is : List It) {k c : Nat} (h : k < is.length) (hc : c ≤ k) : (is.take (k + 1)).drop c = (is.take k).drop c ++ [ii is k] := by
  rw [take_succ_ii is k h, List.drop_append_of_le_length (by rw [List.length_take]; omega)]
theorem take_drop_none (is : List It) {k c : Nat} (hc : k ≤ c) : (is.take k).drop c = [] := List.drop_of_length_le (by rw [List.length_take]; omega)
theorem cat_app (g : It → ByteArray) (a b : List It) : cat g (a ++ b) = cat g a ++ cat g b := by unfold cat; rw [List.flatMap_append]
theorem cat_one (g : It → ByteArray) (i : It) : cat g [i] = bs (g i) := by unfold cat; simp

set_option maxHeartbeats 8000000 in
theorem rtext_buf (b : Bf) (v : Value) (w : World) (hR : BfR w v b) (hsh : Sh b) :
    Calls Try.prog 12 #[v] w fun e w' => e = .returned (.tuple #[.string (texB b).1, .string (texB b).2.1, .string (texB b).2.2]) ∧ Below w.heap.size w w' := by
  obtain ⟨a, len, cap, rfl, hI⟩ := hR.open
  have HV := Lib.hid (fun W (hI : ItR W (.slice a len cap) b.is) => rvalid_any b (.slice a len cap) W hI hsh)
  have HI := Lib.hid (fun (W : World) (h : Below w.heap.size w W) => hI.later h (Nat.le_refl _))
  have hb0 : Below w.heap.size w (w.alloc (Obj.cells #[.slice a len cap, .int .i64 b.c, .string b.p] 27)) := (Below.refl _ _).alloc (Nat.le_refl _) _
  have hvp := @val_parts b
  obtain ⟨hlen, hcap, hmax⟩ := hI.len
  have hS := hsh.1
  unfold texB
  unfold maxLen at hmax
  clear hR hsh
  obtain ⟨is, c, p⟩ := b
  simp only at *
  subst hlen
  cases hv : val ⟨is, c, p⟩
  · rw [hv] at HV
    clear hv hvp hI
    simp only [Bool.false_eq_true, if_false]
    go_enter Try.func12, Try.ntmps12
    go_wp2_with (go_at_call 10; (with_reducible refine (HV.out _ (HI.out _ hb0)).mono ?_); rintro e w1 ⟨rfl, hb1⟩)
    go_ret3
    exact ⟨rfl, hb0.trans (hb1.mono (by simp))⟩
  obtain ⟨v1, v2, v3, _⟩ := hvp hv
  rw [hv] at HV
  obtain ⟨kc, rfl⟩ : ∃ kc : Nat, c = kc := ⟨c.toNat, by omega⟩
  simp only [if_true, Int.toNat_natCast, outs_cat]
  have HS := Lib.hid hS
  clear hv hvp hI hS
  go_enter Try.func12, Try.ntmps12
  go_wp2_with (go_at_call 10; (with_reducible refine (HV.out _ (HI.out _ hb0)).mono ?_); rintro e w1 ⟨rfl, hb1⟩)
  have hbw1 : Below w.heap.size w w1 := hb0.trans (hb1.mono (by simp))
  have hc0 := hb1.cell (p := ⟨w.heap.size, 0, none⟩) (by simp)
  have hc1 := hb1.cell (p := ⟨w.heap.size, 1, none⟩) (by simp)
  have hc2 := hb1.cell (p := ⟨w.heap.size, 2, none⟩) (by simp)
  simp only [World.cell?_alloc_new] at hc0 hc1 hc2
  have HIW := Lib.hid (HI.out w1 hbw1)
  clear hb1 hb0 HI HV
  go_loopw [7, 5, 6] (fun i x y wr => ∃ (k : Nat) (X Y : ByteArray), i = .int .i64 k ∧ x = .string X ∧ y = .string Y ∧ k ≤ is.length ∧ Hid (X = ba (cat It.o (is.take (min k kc)))) ∧ Hid (Y = ba (cat It.o ((is.take k).drop kc))) ∧ X.size ≤ 1048576 * k ∧ Y.size ≤ 1048576 * k ∧ wr = w1) (fun i _ _ _ => is.length - (intOf i).toNat)
  case atStart => exact ⟨0, ⟨#[]⟩, ⟨#[]⟩, rfl, rfl, rfl, Nat.zero_le _, Lib.hid (by rw [Nat.zero_min]; rfl), Lib.hid (by simp [cat]; rfl), Nat.zero_le _, Nat.zero_le _, rfl⟩
  case round =>
    obtain ⟨k, X, Y, rfl, rfl, rfl, hk, hX, hY, hXs, hYs, rfl⟩ := hrel
    by_cases hkl : k < is.length
    · obtain ⟨g, off, rfl, hb, hx⟩ := HIW.out.at (by omega)
      obtain ⟨x0, x1⟩ := hx k hkl
      obtain ⟨_, z2⟩ := HS.out _ (ii_mem hkl)
      have k0 : (0 : Int) ≤ k := by omega
      have k1 : (k : Int) < is.length := by omega
      have HT := Lib.hid (show is.take (k + 1) = is.take k ++ [ii is k] from take_succ_ii is k hkl)
      have HD := Lib.hid (show kc ≤ k → (is.take (k + 1)).drop kc = (is.take k).drop kc ++ [ii is k] from fun h => take_drop_succ is hkl h)
      clear hx
      generalize ii is k = r at x0 x1 z2 HT HD
      obtain ⟨rr, ro⟩ := r
      simp only at x0 x1 z2
      have hsum1 : ¬ 9223372036854775807 < X.size + ro.size := by omega
      have hsum2 : ¬ 9223372036854775807 < Y.size + ro.size := by omega
      by_cases hkc : k < kc
      · have hX2 : Hid (X ++ ro = ba (cat It.o (is.take (min (k + 1) kc)))) := Lib.hid (by
          rw [Nat.min_eq_left (by omega), HT.out, cat_app, cat_one, ← ba_app, hX.out, Nat.min_eq_left (by omega)])
        have hY2 : Hid (Y = ba (cat It.o ((is.take (k + 1)).drop kc))) := Lib.hid (by
          rw [hY.out, take_drop_none is (by omega : k ≤ kc), take_drop_none is (by omega : k + 1 ≤ kc)])
        have hkc2 : (k : Int) < kc := by omega
        go_wp2
        go_roundw
        case rel => exact ⟨k + 1, X ++ ro, Y, by go_num, rfl, rfl, by omega, hX2, hY2, by rw [ByteArray.size_append]; omega, by omega, trivial⟩
        case measure => simp [intOf]; omega
      · have hX2 : Hid (X = ba (cat It.o (is.take (min (k + 1) kc)))) := Lib.hid (by
          rw [hX.out, Nat.min_eq_right (by omega), Nat.min_eq_right (by omega)])
        have hY2 : Hid (Y ++ ro = ba (cat It.o ((is.take (k + 1)).drop kc))) := Lib.hid (by
          rw [HD.out (by omega), cat_app, cat_one, ← ba_app, hY.out])
        have hkc2 : ¬ (k : Int) < kc := by omega
        go_wp2
        go_roundw
        case rel => exact ⟨k + 1, X, Y ++ ro, by go_num, rfl, rfl, by omega, hX2, hY2, by omega, by rw [ByteArray.size_append]; omega, trivial⟩
        case measure => simp [intOf]; omega
    · obtain rfl : k = is.length := by omega
      have HX2 := Lib.hid (show X = ba (cat It.o (is.take kc)) by rw [hX.out, Nat.min_eq_right (by omega)])
      have HY2 := Lib.hid (show Y = ba (cat It.o (is.drop kc)) by rw [hY.out, List.take_length])
      go_wp2
      go_quiet (fail)
      have hb4 := below_drn hbw1 nq
      go_wp2
      go_ret3
      exact ⟨by rw [← HX2.out, ← HY2.out]; rfl, hb4⟩

/-- What Raw has joined when i items are passed. -/
def rawK (b : Bf) (i : Nat) : By := if i ≤ b.c.toNat then cat It.r (b.is.take i) else cat It.r (b.is.take b.c.toNat) ++ bs b.p ++ cat It.r ((b.is.take i).drop b.c.toNat)
theorem rawK_end {b : Bf} (h : b.c ≤ b.is.length) (h0 : 0 ≤ b.c) : rawK b (b.is.length + 1) = raws (b.is.take b.c.toNat) ++ bs b.p ++ raws (b.is.drop b.c.toNat) := by
  unfold rawK
  rw [if_neg (by omega), List.take_of_length_le (l := b.is) (i := b.is.length + 1) (by omega)]
  rfl
/-- Pending keys are joined at the caret. -/
def rawM (b : Bf) (i : Nat) : By := if i = b.c.toNat then rawK b i ++ bs b.p else rawK b i
theorem rawM_step {b : Bf} {i : Nat} (h : i < b.is.length) : rawK b (i + 1) = rawM b i ++ bs (ii b.is i).r := by
  unfold rawM rawK
  by_cases h1 : i < b.c.toNat
  · rw [if_pos (by omega), if_neg (by omega), if_pos (by omega), take_succ_ii _ _ h, cat_app, cat_one]
  · by_cases h2 : i = b.c.toNat
    · rw [if_neg (by omega), if_pos h2, if_pos (by omega), take_drop_succ _ h (by omega), take_drop_none _ (by omega), List.nil_append, cat_one, h2]
    · rw [if_neg (by omega), if_neg h2, if_neg (by omega), take_drop_succ _ h (by omega), cat_app, cat_one]
      simp only [List.append_assoc]
theorem rawM_end {b : Bf} (h : b.c ≤ b.is.length) (h0 : 0 ≤ b.c) : rawK b (b.is.length + 1) = rawM b b.is.length := by
  unfold rawM rawK
  rw [if_neg (by omega), List.take_of_length_le (by omega : b.is.length ≤ b.is.length + 1), List.take_length]
  by_cases h2 : b.is.length = b.c.toNat
  · rw [if_pos h2, if_pos (by omega), ← h2, List.take_length, List.drop_of_length_le (Nat.le_refl _)]
    simp [cat]
  · rw [if_neg h2, if_neg (by omega)]

set_option maxHeartbeats 8000000 in
theorem rraw_buf (b : Bf) (v : Value) (w : World) (hR : BfR w v b) (hsh : Sh b) :
    Calls Try.prog 15 #[v] w fun e w' => e = .returned (.string (rawB b)) ∧ Below w.heap.size w w' := by
  obtain ⟨a, len, cap, rfl, hI⟩ := hR.open
  have HV := Lib.hid (fun W (hI : ItR W (.slice a len cap) b.is) => rvalid_any b (.slice a len cap) W hI hsh)
  have HI := Lib.hid (fun (W : World) (h : Below w.heap.size w W) => hI.later h (Nat.le_refl _))
  have hb0 : Below w.heap.size w (w.alloc (Obj.cells #[.slice a len cap, .int .i64 b.c, .string b.p] 27)) := (Below.refl _ _).alloc (Nat.le_refl _) _
  have hvp := @val_parts b
  obtain ⟨hlen, hcap, hmax⟩ := hI.len
  have hS := hsh.1
  unfold rawB
  unfold maxLen at hmax
  subst hlen
  cases hv : val b
  · rw [hv] at HV
    clear hv hvp hI hR hsh hS
    obtain ⟨is, c, p⟩ := b
    simp only at *
    simp only [Bool.false_eq_true, if_false]
    go_enter Try.func15, Try.ntmps15
    go_wp2_with (go_at_call 10; (with_reducible refine (HV.out _ (HI.out _ hb0)).mono ?_); rintro e w1 ⟨rfl, hb1⟩)
    go_ret
    exact ⟨rfl, hb0.trans (hb1.mono (by simp))⟩
  obtain ⟨v1, v2, v3, _, v5, _⟩ := hvp hv
  rw [hv] at HV
  simp only [if_true]
  have HEND := Lib.hid (rawK_end v3 v2)
  have HSTEP := Lib.hid (fun i h => rawM_step (b := b) (i := i) h)
  have HFIN := Lib.hid (rawM_end v3 v2)
  have HYES := Lib.hid (show ∀ i, i = b.c.toNat → rawM b i = rawK b i ++ bs b.p from fun i h => by unfold rawM; rw [if_pos h])
  have HNO := Lib.hid (show ∀ i, ¬ i = b.c.toNat → rawM b i = rawK b i from fun i h => by unfold rawM; rw [if_neg h])
  have h00 : rawK b 0 = [] := by unfold rawK; rw [if_pos (Nat.zero_le _)]; rfl
  rw [← HEND.out]
  have HS := Lib.hid hS
  clear hv hvp hI hS hR hsh HEND
  generalize rawK b = rk at *
  generalize rawM b = rm at *
  obtain ⟨is, c, p⟩ := b
  simp only at *
  obtain ⟨kc, rfl⟩ : ∃ kc : Nat, c = kc := ⟨c.toNat, by omega⟩
  simp only [Int.toNat_natCast] at *
  go_enter Try.func15, Try.ntmps15
  go_wp2_with (go_at_call 10; (with_reducible refine (HV.out _ (HI.out _ hb0)).mono ?_); rintro e w1 ⟨rfl, hb1⟩)
  have hbw1 : Below w.heap.size w w1 := hb0.trans (hb1.mono (by simp))
  have hc0 := hb1.cell (p := ⟨w.heap.size, 0, none⟩) (by simp)
  have hc1 := hb1.cell (p := ⟨w.heap.size, 1, none⟩) (by simp)
  have hc2 := hb1.cell (p := ⟨w.heap.size, 2, none⟩) (by simp)
  simp only [World.cell?_alloc_new] at hc0 hc1 hc2
  have HIW := Lib.hid (HI.out w1 hbw1)
  clear hb1 hb0 HI HV
  go_loopw [4, 3] (fun i x wr => ∃ (k : Nat) (X : ByteArray), i = .int .i64 k ∧ x = .string X ∧ k ≤ is.length + 1 ∧ Hid (X = ba (rk k)) ∧ X.size ≤ 2097152 * k ∧ wr = w1) (fun i _ _ => is.length + 1 - (intOf i).toNat)
  case atStart => exact ⟨0, ⟨#[]⟩, rfl, rfl, Nat.zero_le _, Lib.hid (by rw [h00]; rfl), Nat.zero_le _, rfl⟩
  case round =>
    obtain ⟨k, X, rfl, rfl, hk, hX, hXs, rfl⟩ := hrel
    by_cases hkn : k ≤ is.length
    · have k0 : (0 : Int) ≤ k := by omega
      have kn : (k : Int) ≤ is.length := by omega
      have hsum1 : ¬ 9223372036854775807 < X.size + p.size := by omega
      have hM : ∀ Y : ByteArray, (k = kc → Y = X ++ p) → (¬ k = kc → Y = X) → Hid (Y = ba (rm k)) ∧ Y.size ≤ 2097152 * k + 8 := fun Y h1 h2 => by
        by_cases hq : k = kc
        · rw [h1 hq, ByteArray.size_append]
          exact ⟨Lib.hid (by rw [HYES.out k hq, ← ba_app, hX.out]), by omega⟩
        · rw [h2 hq]
          exact ⟨Lib.hid (by rw [HNO.out k hq, hX.out]), by omega⟩
      have HM := Lib.hid hM
      clear hM
      by_cases hkl : k < is.length
      · obtain ⟨g, off, rfl, hb, hx⟩ := HIW.out.at (by omega)
        obtain ⟨x0, x1⟩ := hx k hkl
        obtain ⟨z1, _⟩ := HS.out _ (ii_mem hkl)
        have k1 : (k : Int) < is.length := by omega
        have HST := Lib.hid (HSTEP.out k hkl)
        clear hx
        generalize ii is k = r at x0 x1 z1 HST
        obtain ⟨rr, ro⟩ := r
        simp only at x0 x1 z1 HST
        have hsum2 : ¬ 9223372036854775807 < X.size + rr.size := by omega
        have hsum3 : ¬ 9223372036854775807 < (X ++ p).size + rr.size := by rw [ByteArray.size_append]; omega
        by_cases hkc : k = kc
        · obtain ⟨hY, hYs⟩ := HM.out (X ++ p) (fun _ => rfl) (fun h => absurd hkc h)
          subst hkc
          have HY2 := Lib.hid (show (X ++ p) ++ rr = ba (rk (k + 1)) by rw [HST.out, ← ba_app, hY.out])
          clear HM
          go_wp2
          go_roundw
          case rel => exact ⟨k + 1, (X ++ p) ++ rr, by go_num, rfl, by omega, HY2, by rw [ByteArray.size_append]; omega, trivial⟩
          case measure => simp [intOf]; omega
        · obtain ⟨hY, hYs⟩ := HM.out X (fun h => absurd h hkc) (fun _ => rfl)
          have hkc2 : ((k : Int) == kc) = false := by rw [beq_eq_false_iff_ne]; omega
          have HY2 := Lib.hid (show X ++ rr = ba (rk (k + 1)) by rw [HST.out, ← ba_app, hY.out])
          clear HM
          go_wp2
          go_roundw
          case rel => exact ⟨k + 1, X ++ rr, by go_num, rfl, by omega, HY2, by rw [ByteArray.size_append]; omega, trivial⟩
          case measure => simp [intOf]; omega
      · obtain rfl : k = is.length := by omega
        by_cases hkc : is.length = kc
        · obtain ⟨hY, hYs⟩ := HM.out (X ++ p) (fun _ => rfl) (fun h => absurd hkc h)
          subst hkc
          have HY2 := Lib.hid (show (X ++ p) = ba (rk (is.length + 1)) by rw [HFIN.out, hY.out])
          clear HM
          go_wp2
          go_roundw
          case rel => exact ⟨is.length + 1, X ++ p, by go_num, rfl, by omega, HY2, by omega, trivial⟩
          case measure => simp [intOf]
        · obtain ⟨hY, hYs⟩ := HM.out X (fun h => absurd h hkc) (fun _ => rfl)
          have hkc2 : ((is.length : Int) == kc) = false := by rw [beq_eq_false_iff_ne]; omega
          have HY2 := Lib.hid (show X = ba (rk (is.length + 1)) by rw [HFIN.out, hY.out])
          clear HM
          go_wp2
          go_roundw
          case rel => exact ⟨is.length + 1, X, by go_num, rfl, by omega, HY2, by omega, trivial⟩
          case measure => simp [intOf]
    · obtain rfl : k = is.length + 1 := by omega
      have kn : ¬ ((is.length + 1 : Nat) : Int) ≤ is.length := by omega
      go_wp2
      go_ret
      exact ⟨by rw [← hX.out]; rfl, hbw1⟩

end Go.Proofs.Ytlmbbpppfghcbaa.Cmp

set_option linter.unusedVariables false
set_option linter.unusedSimpArgs false
namespace Go.Proofs.Ytlmbbpppfghcbaa.Cmp
open Go Go.RowKit Go.Proofs.Ytlmbbpppfghcbaa Go.Proofs.Ytlmbbpppfghcbaa.Kit Go.Proofs.Ytlmbbpppfghcbaa.Utf Go.Proofs.Ytlmbbpppfghcbaa.Rom Go.Proofs.Ytlmbbpppfghcbaa.Aut

theorem box_lt {w : World} {g : Nat} {o : Obj} (h : w.heap[g]? = some o) : g < w.heap.size := by
  by_cases hg : g < w.heap.size
  · exact hg
  · rw [Array.getElem?_eq_none (by omega)] at h; cases h
theorem box_alloc {w2 W3 : World} {o o1 : Obj} {g : Nat} (h : w2.heap[g]? = some o1) (hW : w2.alloc o = W3) : W3.heap[g]? = some o1 := by
  rw [← hW, heap_alloc_old w2 _ (box_lt h)]; exact h
theorem box_later {w w' : World} {g B : Nat} {o : Obj} (h : w.heap[g]? = some o) (hb : Below B w w') (hg : g < B) : w'.heap[g]? = some o := by
  rw [hb.block _ hg]; exact h
theorem box_new {w2 W3 : World} {o : Obj} (hW : w2.alloc o = W3) : W3.heap[w2.heap.size]? = some o ∧ W3.heap.size = w2.heap.size + 1 ∧ ∀ B, B ≤ w2.heap.size → Below B w2 W3 := by
  subst hW
  exact ⟨heap_alloc_new w2 _, by simp, fun B hB => (Below.refl B w2).alloc hB _⟩

end Go.Proofs.Ytlmbbpppfghcbaa.Cmp

set_option linter.unusedVariables false
set_option linter.unusedSimpArgs false
set_option maxRecDepth 100000
namespace Go.Proofs.Ytlmbbpppfghcbaa.Cmp
open Go Go.RowKit Go.ChangeShapes Go.WideShapes Go.Deep Go.Proofs.Ytlmbbpppfghcbaa Go.Proofs.Ytlmbbpppfghcbaa.Kit Go.Proofs.Ytlmbbpppfghcbaa.Utf Go.Proofs.Ytlmbbpppfghcbaa.Rom Go.Proofs.Ytlmbbpppfghcbaa.Aut

theorem bulk_pos {H : Type} (d : DataW H) : 1 ≤ Rows.uptoBulk d := by
  cases d with
  | lit l => cases l <;> simp [Rows.uptoBulk]
  | _ => simp [Rows.uptoBulk]
theorem bulk_mem {H : Type} {d : DataW H} {l : List (DataW H)} (h : d ∈ l) : Rows.uptoBulk d ≤ Rows.uptoBulkAll l := by
  induction l with
  | nil => cases h
  | cons x r ih =>
    simp only [Rows.uptoBulkAll]
    rcases List.mem_cons.1 h with rfl | h
    · omega
    · have := ih h; omega
theorem bulk_len {H : Type} (l : List (DataW H)) : l.length ≤ Rows.uptoBulkAll l := by
  induction l with
  | nil => simp
  | cons x r ih =>
    simp only [Rows.uptoBulkAll, List.length_cons]
    have := bulk_pos x
    omega
theorem bulk_string {H : Type} (s : ByteArray) : Rows.uptoBulk (H := H) (.lit (.string s.data.toList)) = s.size + 1 := by
  have e : s.data.toList.length = s.size := by rw [Array.length_toList]; rfl
  simp only [Rows.uptoBulk, e]

theorem items_open {H : Type} {enc : TypeId × Value → H} {w : World} {base : Nat} {spare : Nat → Bool} {held : Bool} {fuel : Nat} {cs : List Value} {x : DataW H × List MemPlace}
    (h : DataW.trod enc Try.prog w base spare held fuel 22 cs = some x) : ∃ a len cap is, cs = [.slice a len cap] ∧ ItR w (.slice a len cap) is ∧ ∀ i ∈ is, i.r.size + i.o.size + is.length ≤ Rows.uptoBulk x.1 := by
  have hF : ∃ f0 f1, Try.prog.underlying 65 = some (.struct #[f0, f1]) ∧ f0.offset = 0 ∧ f1.offset = 1 ∧ f0.type = 9 ∧ f1.type = 9 := ⟨_, _, Try.underlying65, rfl, rfl, rfl, rfl⟩
  obtain ⟨f0, f1, hu, o0, o1, t0, t1⟩ := hF
  have cS : Try.prog.cellsOf 9 = 1 := by kernel_rfl
  rcases open_slice_pairs Try.underlying22 hu (by kernel_rfl) o0 o1 (by rw [t0]; exact cS) (by rw [t1]; exact cS) h with ⟨rfl, _⟩ | ⟨a', len, cap, m, n, V0, V1, D0, D1, P0, P1, rfl, hb, hl, hm, hmm, hx, hi⟩
  · exact ⟨none, 0, 0, [], rfl, ItR.nil w, fun i hi => by cases hi⟩
  · have hlm : len ≤ m := by rw [hmm]; split <;> omega
    rw [t0, t1] at hi
    have key : ∀ i, ∃ r : It, i < len → w.cell? (a'.add (i * 2)) = some (.string r.r) ∧ w.cell? (a'.add (i * 2 + 1)) = some (.string r.o) ∧ D0 i = .lit (.string r.r.data.toList) ∧ D1 i = .lit (.string r.o.data.toList) := by
      intro i
      by_cases hil : i < len
      · obtain ⟨c0, c1, h0, h1⟩ := hi i (by omega)
        obtain ⟨s0, e0, d0, _⟩ := DataW.trod_string Try.underlying9 h0
        obtain ⟨s1, e1, d1, _⟩ := DataW.trod_string Try.underlying9 h1
        simp at e0 e1
        rw [e0] at c0
        rw [e1] at c1
        exact ⟨⟨s0, s1⟩, fun _ => ⟨c0, c1, by injection d0, by injection d1⟩⟩
      · exact ⟨default, fun h => absurd h hil⟩
    obtain ⟨f, hf⟩ := Classical.axiomOfChoice key
    have hget : ∀ i, i < len → ii ((List.range len).map f) i = f i := fun i hi2 => by
      unfold ii
      rw [List.getD_eq_getElem?_getD, List.getElem?_map, List.getElem?_range hi2]; rfl
    obtain ⟨b, off, spot⟩ := a'
    refine ⟨_, len, cap, (List.range len).map f, rfl, ⟨_, len, cap, rfl, by simp, hl, hm, ?_⟩, ?_⟩
    · by_cases h0 : len = 0
      · exact .inr (.inl ⟨_, rfl, h0⟩)
      · have hsp := (hf 0 (by omega)).1
        have hspot : spot = none := by simpa [Addr.add] using World.cell?_spot hsp
        subst hspot
        refine .inr (.inr ⟨b, off, rfl, World.block_lt_of_cell? w _ hsp, fun i hi2 => ?_⟩)
        simp only [List.length_map, List.length_range] at hi2
        rw [hget i hi2]
        have := hf i hi2
        simp only [Addr.add_lit] at this
        exact ⟨this.1, this.2.1⟩
    · intro i hi2
      obtain ⟨j, hj, rfl⟩ := List.mem_map.1 hi2
      rw [List.mem_range] at hj
      obtain ⟨_, _, q0, q1⟩ := hf j hj
      rw [hx]
      simp only [Rows.uptoBulk, List.length_map, List.length_range]
      have h1 : Rows.uptoBulk (.agg [D0 j, D1 j]) ≤ Rows.uptoBulkAll ((List.range len).map fun i => .agg [D0 i, D1 i]) := bulk_mem (List.mem_map.2 ⟨j, List.mem_range.2 hj, rfl⟩)
      have h2 : ∀ l : List Nat, j ∈ l → l.Nodup → Rows.uptoBulk (.agg [D0 j, D1 j]) + (l.length - 1) ≤ Rows.uptoBulkAll (l.map fun i => .agg [D0 i, D1 i]) := by
        intro l
        induction l with
        | nil => intro h; cases h
        | cons y r ih =>
          intro hm hnd
          rw [List.nodup_cons] at hnd
          simp only [List.map_cons, Rows.uptoBulkAll, List.length_cons]
          rcases List.mem_cons.1 hm with rfl | hm
          · have := bulk_len (r.map fun i => DataW.agg [D0 i, D1 i])
            rw [List.length_map] at this
            omega
          · have := ih hm hnd.2
            have h3 := bulk_pos (DataW.agg [D0 y, D1 y])
            have h4 : 0 < r.length := List.length_pos_of_mem hm
            omega
      have h3 := h2 (List.range len) (List.mem_range.2 hj) List.nodup_range
      simp only [Rows.uptoBulk, Rows.uptoBulkAll] at h3
      rw [q0, q1, bulk_string, bulk_string, List.length_range] at h3
      omega
theorem three_long2 (l : List Value) (h : l.length = 3) : ∃ a b c, l = [a, b, c] := by
  match l, h with
  | [a, b, c], _ => exact ⟨a, b, c, rfl⟩
theorem buf_open {H : Type} {enc : TypeId × Value → H} {w : World} {base : Nat} {spare : Nat → Bool} {held : Bool} {cs : Array Value} {d : DataW H} {p : List MemPlace} (hcs : cs.size = Try.prog.cellsOf 24)
    (h : DataW.Trod enc Try.prog w base spare held 24 (.agg cs) d p) : ∃ a len cap b, cs = #[.slice a len cap, .int .i64 b.c, .string b.p] ∧ ItR w (.slice a len cap) b.is ∧ (Lit.int .i64 b.c).wf = true ∧ (Rows.uptoBulk d ≤ 1048576 → Sh b) := by
  obtain ⟨fuel, h⟩ := h
  obtain ⟨ys, n', hn', hy, hlen, hyl, hf⟩ := DataW.trod_struct Try.underlying24 h
  have hC : Try.prog.cellsOf 24 = 3 := by kernel_rfl
  rw [hC] at hcs
  have hx : (Value.agg cs).cells.toList = cs.toList := rfl
  rw [hx] at hf
  obtain ⟨v0, v1, v2, hv⟩ := three_long2 cs.toList (by simpa using hcs)
  rw [hv] at hf
  have c0 : Try.prog.cellsOf 22 = 1 := by kernel_rfl
  have c1 : Try.prog.cellsOf 3 = 1 := by kernel_rfl
  have c2 : Try.prog.cellsOf 9 = 1 := by kernel_rfl
  have h0 : DataW.trod enc Try.prog w base spare held n' 22 (([v0, v1, v2].drop 0).take (Try.prog.cellsOf 22)) = ys[0]? := hf 0 _ rfl
  have h1 : DataW.trod enc Try.prog w base spare held n' 3 (([v0, v1, v2].drop 1).take (Try.prog.cellsOf 3)) = ys[1]? := hf 1 _ rfl
  have h2 : DataW.trod enc Try.prog w base spare held n' 9 (([v0, v1, v2].drop 2).take (Try.prog.cellsOf 9)) = ys[2]? := hf 2 _ rfl
  rw [c0] at h0
  rw [c1] at h1
  rw [c2] at h2
  have hys : ys.length = 3 := hyl
  rw [List.getElem?_eq_getElem (by omega)] at h0 h1 h2
  obtain ⟨a, len, cap, is, e0, hI, hbk⟩ := items_open h0
  obtain ⟨c, e1, d1, hwf⟩ := DataW.trod_int Try.underlying3 h1
  obtain ⟨s, e2, d2, _⟩ := DataW.trod_string Try.underlying9 h2
  simp at e0 e1 e2
  refine ⟨a, len, cap, ⟨is, c, s⟩, ?_, hI, hwf, fun hb => ?_⟩
  · apply Array.toList_inj.1
    rw [hv, e0, e1, e2]
  · have hd : d = .agg (ys.map (·.1)) := by injection hy
    have hb0 : Rows.uptoBulk ys[0].1 ≤ Rows.uptoBulkAll (ys.map (·.1)) := bulk_mem (List.mem_map.2 ⟨_, List.getElem_mem (by omega), rfl⟩)
    have hb2 : Rows.uptoBulk ys[2].1 ≤ Rows.uptoBulkAll (ys.map (·.1)) := bulk_mem (List.mem_map.2 ⟨_, List.getElem_mem (by omega), rfl⟩)
    rw [hd] at hb
    simp only [Rows.uptoBulk] at hb
    rw [d2, bulk_string] at hb2
    refine ⟨fun i hi => ?_, by show s.size ≤ _; omega, ?_⟩
    · have := hbk i hi
      exact ⟨by omega, by omega⟩
    · show is.length ≤ _
      by_cases hz : is.length = 0
      · omega
      · have := hbk _ (List.getElem_mem (l := is) (n := 0) (by omega))
        omega

theorem rules_bulk {H : Type} {enc : TypeId × Value → H} {w : World} {base : Nat} {spare : Nat → Bool} {held : Bool} {fuel : Nat} {a : Option Addr} {len cap : Nat} {x : DataW H × List MemPlace}
    (h : DataW.trod enc Try.prog w base spare held fuel 40 [.slice a len cap] = some x) : ∃ rs, RowR w (.slice a len cap) rs ∧ (Rows.uptoBulk x.1 ≤ 1048576 → ∀ r ∈ rs, Short r) := by
  rcases open_slice Try.underlying40 h with ⟨hcs, _⟩ | ⟨a', len', cap', m, n, D, Pl, hcs, hb, hl, hm, hmm, hx, hi⟩
  · simp at hcs
    obtain ⟨rfl, rfl, rfl⟩ := hcs
    exact ⟨[], RowR.nil w, fun _ r hr => by cases hr⟩
  · simp at hcs
    obtain ⟨rfl, rfl, rfl⟩ := hcs
    have hlm : len ≤ m := by rw [hmm]; split <;> omega
    have hC : Try.prog.cellsOf 80 = 3 := by kernel_rfl
    have hS : Try.prog.cellsOf 9 = 1 := by kernel_rfl
    rw [hC] at hi
    obtain ⟨b, off, spot⟩ := a'
    have key : ∀ i, ∃ r : Rule, i < len → w.cell? ((⟨b, off, spot⟩ : Addr).add (i * 3)) = some (.string r.k) ∧ w.cell? ((⟨b, off, spot⟩ : Addr).add (i * 3 + 1)) = some (.string r.o) ∧ w.cell? ((⟨b, off, spot⟩ : Addr).add (i * 3 + 2)) = some (.string r.n) ∧ D i = .agg [.lit (.string r.k.data.toList), .lit (.string r.o.data.toList), .lit (.string r.n.data.toList)] := by
      intro i
      by_cases hil : i < len
      · obtain ⟨cs', hc, ht'⟩ := hi i (by omega)
        obtain ⟨ys, n', hn', hy, hlen, hyl, hf⟩ := DataW.trod_struct Try.underlying80 ht'
        obtain ⟨_, hcl, hat⟩ := World.cells?_some hc
        obtain ⟨v0, v1, v2, rfl⟩ := three_long2 cs' hcl
        have h0 : DataW.trod enc Try.prog w base spare held n' 9 (([v0, v1, v2].drop 0).take (Try.prog.cellsOf 9)) = ys[0]? := hf 0 _ rfl
        have h1 : DataW.trod enc Try.prog w base spare held n' 9 (([v0, v1, v2].drop 1).take (Try.prog.cellsOf 9)) = ys[1]? := hf 1 _ rfl
        have h2 : DataW.trod enc Try.prog w base spare held n' 9 (([v0, v1, v2].drop 2).take (Try.prog.cellsOf 9)) = ys[2]? := hf 2 _ rfl
        rw [hS] at h0 h1 h2
        have hys : ys.length = 3 := hyl
        rw [List.getElem?_eq_getElem (by omega)] at h0 h1 h2
        obtain ⟨s0, e0, g0, _⟩ := DataW.trod_string Try.underlying9 h0
        obtain ⟨s1, e1, g1, _⟩ := DataW.trod_string Try.underlying9 h1
        obtain ⟨s2, e2, g2, _⟩ := DataW.trod_string Try.underlying9 h2
        have hD : D i = .agg (ys.map (·.1)) := by injection hy
        have hys3 : ys = [ys[0], ys[1], ys[2]] := by
          apply List.ext_getElem
          · simp; omega
          · intro k hk _
            have : k = 0 ∨ k = 1 ∨ k = 2 := by omega
            rcases this with rfl | rfl | rfl <;> rfl
        have hD2 : D i = .agg [.lit (.string s0.data.toList), .lit (.string s1.data.toList), .lit (.string s2.data.toList)] := by
          rw [hD, hys3, g0, g1, g2]; rfl
        simp at e0 e1 e2
        have c0 := hat 0 (by omega)
        have c1 := hat 1 (by omega)
        have c2 := hat 2 (by omega)
        rw [Go.Deep.add_add] at c0 c1 c2
        refine ⟨⟨s0, s1, s2⟩, fun _ => ⟨?_, ?_, ?_, hD2⟩⟩
        · rw [Nat.add_zero] at c0; rw [c0]; simp [e0]
        · rw [c1]; simp [e1]
        · rw [c2]; simp [e2]
      · exact ⟨default, fun h => absurd h hil⟩
    obtain ⟨f, hf⟩ := Classical.axiomOfChoice key
    refine ⟨(List.range len).map f, ⟨_, len, cap, rfl, by simp, hl, hm, ?_⟩, ?_⟩
    rotate_left
    · intro hbk r hr
      obtain ⟨j, hj, rfl⟩ := List.mem_map.1 hr
      rw [List.mem_range] at hj
      obtain ⟨_, _, _, q⟩ := hf j hj
      rw [hx] at hbk
      simp only [Rows.uptoBulk] at hbk
      have h1 : Rows.uptoBulk (D j) ≤ Rows.uptoBulkAll ((List.range len).map D) := bulk_mem (List.mem_map.2 ⟨j, List.mem_range.2 hj, rfl⟩)
      rw [q] at h1
      simp only [Rows.uptoBulk, Rows.uptoBulkAll] at h1
      simp only [Array.length_toList] at h1
      exact ⟨by show (f j).k.data.size ≤ _; omega, by show (f j).o.data.size ≤ _; omega, by show (f j).n.data.size ≤ _; omega⟩
    by_cases h0 : len = 0
    · exact .inr (.inl ⟨_, rfl, h0⟩)
    · have hsp := (hf 0 (by omega)).1
      have hspot : spot = none := by simpa [Addr.add] using World.cell?_spot hsp
      subst hspot
      refine .inr (.inr ⟨b, off, rfl, World.block_lt_of_cell? w _ hsp, fun i hi2 => ?_⟩)
      simp only [List.length_map, List.length_range] at hi2
      have e : ri ((List.range len).map f) i = f i := by
        unfold ri
        rw [List.getD_eq_getElem?_getD, List.getElem?_map, List.getElem?_range hi2]; rfl
      rw [e]
      have := hf i hi2
      simp only [Addr.add_lit] at this
      exact ⟨this.1, this.2.1, this.2.2.1⟩


end Go.Proofs.Ytlmbbpppfghcbaa.Cmp
