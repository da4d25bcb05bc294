/-
  Contract of caldate.join, whatever the function that writes the fields.
-/
import Derived.Test.YteelmjmiankflaaDoorCalQ
import Derived.Deep.MidRow
set_option linter.unusedVariables false
set_option linter.unusedSimpArgs false
namespace Go.Proofs.YteelmjmiankflaaDoor.Cal
open Go Go.RowKit Go.Proofs.YteelmjmiankflaaDoor.Kit Go.Proofs.YteelmjmiankflaaDoor.Utf
open Go.Proofs.YteelmjmiankflaaDoor.Num

abbrev Fld := Nat × Nat × List Int
def Fld.cells (f : Fld) : List Value := [.int .i64 f.1, .int .i64 f.2.1, .string (tx f.2.2)]
def joinC (out : Nat → Nat → List Int → List Int) (fs : List Fld) : List Int := fs.flatMap fun f => out f.1 f.2.1 f.2.2
/-- Fields lie in memory. -/
def FRow (fb : Nat) (fs : List Fld) (w : World) : Prop := ∀ i f, fs[i]? = some f → w.rangeAt fb (i * 3) (Fld.cells f)
def FOk (f : Fld) : Prop := f.1 ≤ 9999 ∧ f.2.1 ≤ 4 ∧ f.2.2 ∈ unitL

theorem info_field : (Tryd.prog.info? 47).map (·.size) = some 3 := by kernel_rfl
theorem FRow.below {B fb : Nat} {fs : List Fld} {w w' : World} (h : FRow fb fs w) (hb : Below B w w') (hB : fb < B) : FRow fb fs w' := by
  intro i f hf j v hv
  rw [hb.cell (p := ⟨fb, i * 3 + j, none⟩) hB]
  exact h i f hf j v hv

set_option maxHeartbeats 4000000 in
theorem join_at (F : FuncId) (caps : Array Value) (out : Nat → Nat → List Int → List Int) (Inv : World → Prop) (hF : FieldFn F caps out Inv) (eF : ∀ args w, (callFunc F args).run Tryd.prog w = .ok (.enter F args) w)
    (hlen : ∀ n k u, n ≤ 9999 → k ≤ 4 → u ∈ unitL → (encs (out n k u)).length ≤ 400) (fs : List Fld) (hfs : ∀ f ∈ fs, FOk f) (n : Nat) (hn : fs.length = n) (h3 : n ≤ 3) (fb : Nat) (w : World) (hrow : FRow fb fs w) (hfb : fb < w.heap.size)
    (hL : FLaid w) (hI : Inv w) (hst : ∀ W W', Inv W → Below w.heap.size W W' → w.heap.size ≤ W.heap.size → Inv W') :
    Calls Tryd.prog 26 #[.func (.func F) #[] caps, .slice (some ⟨fb, 0, none⟩) n n] w fun e w' => e = .returned (.string (tx (joinC out fs))) ∧ Below w.heap.size w w' := by
  obtain ⟨b, hbd⟩ : ∃ b, w.heap.size = b := ⟨_, rfl⟩
  have hb0 : Below w.heap.size w (w.alloc (.cells #[.pointer none, .slice none 0 0] 59)) := (Below.refl _ w).alloc (Nat.le_refl _) _
  have hB0 : Lib.IsBuilderF 59 5 b b (Lib.byteCells (encs [])) (w.alloc (.cells #[.pointer none, .slice none 0 0] 59)) := builder_new 59 5 w b hbd.symm
  have hs0 : b + 1 ≤ (w.alloc (.cells #[.pointer none, .slice none 0 0] 59)).heap.size := by rw [size_alloc, hbd]; exact Nat.le_refl _
  have HF := Lib.hid hF; clear hF
  have HLEN := Lib.hid hlen; clear hlen
  have HFS := Lib.hid hfs; clear hfs
  have HN := Lib.hid hn; clear hn
  have HROW := Lib.hid hrow; clear hrow
  have HST := Lib.hid hst; clear hst
  have HI := Lib.hid hI; clear hI
  go_enter Tryd.func26, Tryd.ntmps26
  go_wp2
  obtain ⟨W, hW⟩ : ∃ W, w.alloc (.cells #[.pointer none, .slice none 0 0] 59) = W := ⟨_, rfl⟩
  rw [hW] at hb0 hB0 hs0 ⊢
  clear hW
  go_loopw [10] (fun i wr => ∃ (k : Nat) (acc : List Int), i = .int .i64 k ∧ k ≤ n ∧ Lib.IsBuilderF 59 5 b b (Lib.byteCells (encs acc)) wr ∧ Below w.heap.size w wr ∧ Hid (acc ++ joinC out (fs.drop k) = joinC out fs) ∧ (encs acc).length ≤ 400 * k ∧ b + 1 ≤ wr.heap.size) (fun i _ => n - (intOf i).toNat)
  case atStart => exact ⟨0, [], rfl, Nat.zero_le _, hB0, hb0, Lib.hid (by rw [List.drop_zero, List.nil_append]), by simp [encs], hs0⟩
  case round =>
    obtain ⟨k, acc, rfl, hk, hBl, hb, heq, hacc, hsw⟩ := hrel
    by_cases hkn : k < n
    · have hkf : k < fs.length := by rw [HN.out]; exact hkn
      have hget : fs[k]? = some fs[k] := List.getElem?_eq_getElem hkf
      have hcons : fs.drop k = fs[k] :: fs.drop (k + 1) := List.drop_eq_getElem_cons hkf
      have hok := HFS.out fs[k] (List.getElem_mem hkf)
      have hr := (HROW.out.below hb hfb) k _ hget
      obtain ⟨f, hf⟩ : ∃ f, fs[k] = f := ⟨_, rfl⟩
      rw [hf] at hcons hok hr
      obtain ⟨m, q, u⟩ := f
      obtain ⟨o1, o2, o3⟩ := hok
      have heq2 : (acc ++ out m q u) ++ joinC out (fs.drop (k + 1)) = joinC out fs := by
        rw [← heq.out, hcons, List.append_assoc]; rfl
      have hol := HLEN.out m q u o1 o2 o3
      have HR := Lib.hid hr
      have HQ := Lib.hid heq2
      clear hr hget hcons hf heq2 heq
      have hk0 : (0 : Int) ≤ k := by omega
      have hk1 : (k : Int) < n := by omega
      have hb4' : Below wr.heap.size wr (wr.alloc (.cells #[.int .i64 m, .int .i64 q, .string (tx u)] 47)) := (Below.refl _ wr).alloc (Nat.le_refl _) _
      have hs4 := size_alloc wr (.cells #[.int .i64 m, .int .i64 q, .string (tx u)] 47)
      have hb4 : Below w.heap.size w (wr.alloc (.cells #[.int .i64 m, .int .i64 q, .string (tx u)] 47)) := hb.trans (hb4'.mono hb.size)
      have hBl4 := hBl.alloc (.cells #[.int .i64 m, .int .i64 q, .string (tx u)] 47)
      have hI4 := HST.out w _ HI.out hb4 (Nat.le_refl _)
      have HC := Lib.hid (HF.out m q u _ o1 o2 o3 (hL.next hb4) hI4)
      have hs4' : b + 1 ≤ (wr.alloc (.cells #[.int .i64 m, .int .i64 q, .string (tx u)] 47)).heap.size := by omega
      obtain ⟨o, ho⟩ : ∃ o, out m q u = o := ⟨_, rfl⟩
      rw [ho] at HC HQ hol
      have HB4 := Lib.hid hb4
      have HBl4 := Lib.hid hBl4
      have HS4 := Lib.hid hs4'
      clear hb4' hs4 hb4 hBl4 hI4 hs4' ho hBl
      go_wp2_with (first
        | (refine wpList_load_mid rfl 47 (.tmp 12) rfl fb (k * 3) rfl [.int .i64 m, .int .i64 q, .string (tx u)] _ HR.out Tryd.underlying47 rfl info_field ?_)
        | (go_at_call 33; refine (Tryd.writeString b b (Lib.byteCells (encs acc)) (tx o) _ hBl5 (by rw [Lib.byteCells_length, tx_size]; omega) (by omega)).mono ?_; rintro e w6 ⟨rfl, hA6, hb6, ho6⟩)
        | (refine HC.out.mono ?_
           rintro e w5 ⟨rfl, hb5⟩
           have hBl5 := builder_kept HBl4.out (fun j h1 h2 => hb5.block j h2)
           have hs5 : b + 1 ≤ w5.heap.size := Nat.le_trans HS4.out hb5.size
           have hb5' := HB4.out.trans (hb5.mono HB4.out.size)
           clear hb5))
      have hBl6 : Lib.IsBuilderF 59 5 b b (Lib.byteCells (encs (acc ++ o))) w6 := by
        rw [encs_append, byteCells_append, ← tx_cells]; exact .inr hA6
      have hsz6 : b + 1 ≤ w6.heap.size := by have := hb6.size; omega
      have hb7 := hb5'.trans (hb6.mono (by omega))
      go_roundw
      case rel => exact ⟨k + 1, acc ++ o, by go_num, by omega, hBl6, hb7, HQ, by rw [encs_append, List.length_append]; omega, hsz6⟩
      case measure => simp [intOf]; omega
    · obtain rfl : k = n := by omega
      have hall : acc = joinC out fs := by
        rw [← heq.out, List.drop_of_length_le (by rw [HN.out]; omega)]
        show acc = acc ++ []
        rw [List.append_nil]
      have HA := Lib.hid hall
      clear hall heq hkn
      go_wp2_with (go_at_call 34; refine (Tryd.Builder_String_any_k b b (encs acc) _ hBl (by omega)).mono ?_; rintro e w8 ⟨rfl, _, hb8, _⟩)
      go_ret
      exact ⟨by rw [← HA.out]; rfl, hb.trans (hb8.mono (by omega))⟩

end Go.Proofs.YteelmjmiankflaaDoor.Cal
