/-
  Joined texts: CmpRf, AutT, AutK, AutV, AutW, AutX, AutY, AutZ, AutL, AutP, AutFr, AutQ.
-/
import Derived.Test.YtamdlbefiggkfaaGreatM15
import Derived.Test.YtamdlbefiggkfaaGreatM9
import Derived.Laws.ResultCell
import Derived.Test.YtamdlbefiggkfaaGreatM13
import Derived.Deep.AppendLies
import Derived.DeepKeys4
import Derived.BigRegion
import Derived.Test.YtamdlbefiggkfaaGreatM11
import Derived.Laws.StructEq
import Derived.Maps.AppendAt
import Derived.Test.YtamdlbefiggkfaaGreatM2
import Derived.Deep.QuietTactic
import Derived.BigQuiet
import Derived.Test.YtamdlbefiggkfaaGreatM6
import Derived.Deep.Slices
import Derived.Deep.Fields
import Derived.ChangeSame
import Derived.Shelf.Vars
set_option linter.unusedVariables false
set_option linter.unusedSimpArgs false
set_option maxRecDepth 100000
namespace Go.Proofs.YtamdlbefiggkfaaGreat.Cmp
open Go Go.RowKit Go.Proofs.YtamdlbefiggkfaaGreat.Kit Go.Proofs.YtamdlbefiggkfaaGreat.Utf Go.Proofs.YtamdlbefiggkfaaGreat.Rom Go.Proofs.YtamdlbefiggkfaaGreat.Aut

/-- What a call of the reference hands back that returns a buffer and an error. -/
def RBE (r : Bf × Int) (w : World) (e : Ending) (w' : World) : Prop := ∃ v, e = .returned (.tuple #[v, .int .i64 r.2]) ∧ BfR w' v r.1 ∧ Below w.heap.size w w'
abbrev zeroR : Obj := Obj.cells #[.slice none 0 0, .int .i64 0, .string { data := #[] }] 33
structure Sr (w W : World) (s : Value) (c : Int) (p : ByteArray) : Prop where
  box : W.heap[w.heap.size]? = some (Obj.cells #[s, .int .i64 c, .string p] 33)
  res : W.heap[w.heap.size + 1]? = some zeroR
  bel : Below w.heap.size w W
  siz : w.heap.size + 2 ≤ W.heap.size
theorem Sr.start {w W : World} {s : Value} {c : Int} {p : ByteArray} (hW : (w.alloc (Obj.cells #[s, .int .i64 c, .string p] 33)).alloc zeroR = W) : Sr w W s c p :=
  have ⟨h1, h2, h3, h4⟩ := boxes hW
  ⟨h1, h2, h3, by omega⟩
theorem Sr.later {w W W' : World} {s : Value} {c : Int} {p : ByteArray} (h : Sr w W s c p) {B : Nat} (hb : Below B W W') (hB : w.heap.size + 2 ≤ B) : Sr w W' s c p :=
  have hs := h.siz
  ⟨by rw [hb.block _ (by omega)]; exact h.box, by rw [hb.block _ (by omega)]; exact h.res, h.bel.trans (hb.mono (by omega)), Nat.le_trans hs hb.size⟩
theorem Sr.facts {w W : World} {s : Value} {c : Int} {p : ByteArray} (h : Sr w W s c p) :
    W.cell? ⟨w.heap.size, 0, none⟩ = some s ∧ W.cell? ⟨w.heap.size, 1, none⟩ = some (.int .i64 c) ∧ W.cell? ⟨w.heap.size, 2, none⟩ = some (.string p) ∧ (∀ j, W.frozen? ⟨w.heap.size, j, none⟩ = false) ∧
    W.cell? ⟨w.heap.size + 1, 0, none⟩ = some (.slice none 0 0) ∧ W.cell? ⟨w.heap.size + 1, 1, none⟩ = some (.int .i64 0) ∧ W.cell? ⟨w.heap.size + 1, 2, none⟩ = some (.string { data := #[] }) ∧ (∀ j, W.frozen? ⟨w.heap.size + 1, j, none⟩ = false) := by
  obtain ⟨a, b, c, d⟩ := box_facts h.box
  obtain ⟨a', b', c', d'⟩ := box_facts h.res
  exact ⟨a, b, c, d, a', b', c', d'⟩
theorem Sr.pend {w W : World} {s : Value} {c : Int} {p : ByteArray} (h : Sr w W s c p) (q : ByteArray) : Sr w (W.setCell ⟨w.heap.size, 2, none⟩ (.string q)) s c q :=
  have hs := h.siz
  ⟨(box_set (y0 := .int .i64 0) (y1 := .int .i64 0) h.box).2.2, by rw [heap_setCell_other _ _ _ _ (by show w.heap.size + 1 ≠ w.heap.size; omega)]; exact h.res, Below.setCell h.bel (Nat.le_refl _) _, by simp; exact hs⟩
/-- The end: a buffer stored in the result's box. -/
theorem Sr.fin {w W : World} {s : Value} {c : Int} {p : ByteArray} (h : Sr w W s c p) {a : Option Addr} {m k : Nat} {c' : Int} {p' : ByteArray} {is : List It} (hI : ItR W (.slice a m k) is) :
    (loadVar 33 ⟨w.heap.size + 1, 0, none⟩).run Tryz.prog (((W.setCell ⟨w.heap.size + 1, 0, none⟩ (.slice a m k)).setCell ⟨w.heap.size + 1, 1, none⟩ (.int .i64 c')).setCell ⟨w.heap.size + 1, 2, none⟩ (.string p')) = .ok (.agg #[.slice a m k, .int .i64 c', .string p']) (((W.setCell ⟨w.heap.size + 1, 0, none⟩ (.slice a m k)).setCell ⟨w.heap.size + 1, 1, none⟩ (.int .i64 c')).setCell ⟨w.heap.size + 1, 2, none⟩ (.string p')) ∧
    RB ⟨is, c', p'⟩ w (.returned (.agg #[.slice a m k, .int .i64 c', .string p'])) (((W.setCell ⟨w.heap.size + 1, 0, none⟩ (.slice a m k)).setCell ⟨w.heap.size + 1, 1, none⟩ (.int .i64 c')).setCell ⟨w.heap.size + 1, 2, none⟩ (.string p')) :=
  rb_set (w := w) (W := W) (g := w.heap.size + 1) (a := a) (m := m) (k := k) (c := c') (p := p') h.res (by omega) hI (sep_box hI h.res) h.bel
theorem RB.err {b : Bf} {w W : World} {v : Value} {E : Int} (h : RB b w (.returned v) W) : RBE (b, E) w (.returned (.tuple #[v, .int .i64 E])) W := by
  obtain ⟨v', e, h1, h2⟩ := h
  cases e
  exact ⟨_, rfl, h1, h2⟩
/-- A box of one's own is laid: nothing older changes. -/
theorem laid2 {w : World} {x y z : Value} : Below w.heap.size w (w.alloc (Obj.cells #[x, y, z] 33)) := (Below.refl _ w).alloc (Nat.le_refl _) _
theorem rinsert_at (is : List It) (c : Int) (p raw out : ByteArray) (cs : List Int) (v : Value) (w : World) (hR : BfR w v ⟨is, c, p⟩) (h0 : 0 ≤ c) (hc : c ≤ is.length) (hs : out.size ≤ 1099511627776) (hcs : chars (bs out) = some cs) (hl : is.length + cs.length ≤ 64) :
    Calls Tryz.prog 41 #[v, .string raw, .string out] w fun e w' => ∃ a m k, e = .returned (.tuple #[.agg #[.slice a m k, .int .i64 (c + (cs.length : Int)), .string p], .bool true]) ∧ ItR w' (.slice a m k) (insB ⟨is, c, p⟩ (itemsL raw cs)).is ∧ Below w.heap.size w w' := by
  refine (rinsert_fits is c p raw out cs v w hR h0 hc hs hcs hl).mono ?_
  rintro e w' ⟨v', rfl, h1, h2⟩
  obtain ⟨a, m, k, rfl, h3⟩ := h1.open
  exact ⟨a, m, k, by rw [show (c + (cs.length : Int)) = (insB ⟨is, c, p⟩ (itemsL raw cs)).c by unfold insB; rw [itemsL_len]]; rfl, h3, h2⟩

set_option maxHeartbeats 8000000 in
theorem rput_any (b : Bf) (raw out : ByteArray) (v : Value) (w : World) (hR : BfR w v b) (hsh : Sh b) (hr : raw.size ≤ 1048576) (ho : out.size ≤ 1048576) :
    Calls Tryz.prog 14 #[v, .string raw, .string out] w (RBE (putB b raw out) w) := by
  obtain ⟨a, len, cap, rfl, hI⟩ := hR.open
  have HV := Lib.hid (fun s W (hI : ItR W s b.is) => rvalid_any b s W hI hsh)
  have HI := Lib.hid (fun (W : World) (h : Below w.heap.size w W) => hI.later h (Nat.le_refl _))
  have hil := hI.len.1
  have hvp := @val_parts b
  have HBY : Hid (∀ W, Calls Tryz.prog 43 #[.string raw, .int .u8 32] W fun e w' => e = .returned (.bool (fromB 32 (bs raw))) ∧ W = w') := Lib.hid (fun W => (rbytes_any 32 raw W (by omega) (by decide) (by decide)).mono fun e w' h => ⟨h.1, h.2.symm⟩)
  have HCN := Lib.hid (fun W => rcount_any out W (by omega))
  have hcb : 1 ≤ count (bs out) → ∃ cs, chars (bs out) = some cs := fun h => by
    cases hc : chars (bs out) with
    | none => rw [count_none hc] at h; omega
    | some cs => exact ⟨cs, rfl⟩
  unfold putB
  clear hR hsh hI
  obtain ⟨is, c, p⟩ := b
  simp only at *
  subst hil
  obtain ⟨W, hW⟩ : ∃ W, (w.alloc (Obj.cells #[.slice a is.length cap, .int .i64 c, .string p] 33)).alloc (Obj.cells #[.slice none 0 0, .int .i64 0, .string { data := #[] }] 33) = W := ⟨_, rfl⟩
  have HST := Lib.hid (Sr.start hW)
  have HWW := Lib.hid hW
  have he := empty_str p
  clear hW
  cases hv : val ⟨is, c, p⟩
  · rw [hv] at HV
    clear hv hvp hcb he
    simp only [Bool.false_and, Bool.false_eq_true, if_false]
    go_enter Tryz.func14, Tryz.ntmps14
    go_wp2_with (first
      | (go_at_call 37; rw [HWW.out]; (with_reducible refine (HV.out _ W (HI.out W HST.out.bel)).mono ?_); rintro e w3 ⟨rfl, hb3⟩; have S3 := Lib.hid (HST.out.later hb3 HST.out.siz); obtain ⟨b0, b1, b2, bf, r0, r1, r2, rf⟩ := S3.out.facts; clear hb3))
    have HF := S3.out.fin (c' := 0) (p' := { data := #[] }) (ItR.nil _)
    refine bodyPost_ret (v := .tuple #[.agg #[.slice none 0 0, .int .i64 0, .string { data := #[] }], .int .i64 1]) ?_ rfl HF.2.err
    rw [results_cell_tmp rfl]
    show ((loadVar 33 ⟨w.heap.size + 1, 0, none⟩).run Tryz.prog _).andThen _ = _
    rw [HF.1]
    rfl
  obtain ⟨hl, hc0, hcl, _, hp8, _⟩ := hvp hv
  rw [hv] at HV
  cases hf : fromB 32 (bs raw)
  · rw [hf] at HBY
    clear hv hvp hcb he hf
    simp only [Bool.and_false, Bool.false_and, Bool.false_eq_true, if_false]
    go_enter Tryz.func14, Tryz.ntmps14
    go_wp2_with (first
      | (go_at_call 37; rw [HWW.out]; (with_reducible refine (HV.out _ W (HI.out W HST.out.bel)).mono ?_); rintro e w3 ⟨rfl, hb3⟩; have S3 := Lib.hid (HST.out.later hb3 HST.out.siz); obtain ⟨b0, b1, b2, bf, r0, r1, r2, rf⟩ := S3.out.facts; clear hb3)
      | (go_at_call 43; (with_reducible refine (HBY.out _).mono ?_); rintro e w4 ⟨rfl, rfl⟩))
    have HF := S3.out.fin (c' := 0) (p' := { data := #[] }) (ItR.nil _)
    refine bodyPost_ret (v := .tuple #[.agg #[.slice none 0 0, .int .i64 0, .string { data := #[] }], .int .i64 1]) ?_ rfl HF.2.err
    rw [results_cell_tmp rfl]
    show ((loadVar 33 ⟨w.heap.size + 1, 0, none⟩).run Tryz.prog _).andThen _ = _
    rw [HF.1]
    rfl
  rw [hf] at HBY
  by_cases hct : 1 ≤ count (bs out)
  rotate_left
  · rw [decide_eq_false hct]
    have hcz : count (bs out) < 1 := by omega
    clear hv hvp hcb he hf hct
    simp only [Bool.and_false, Bool.false_and, Bool.false_eq_true, if_false]
    generalize count (bs out) = N at HCN hcz
    go_enter Tryz.func14, Tryz.ntmps14
    go_wp2_with (first
      | (go_at_call 37; rw [HWW.out]; (with_reducible refine (HV.out _ W (HI.out W HST.out.bel)).mono ?_); rintro e w3 ⟨rfl, hb3⟩; have S3 := Lib.hid (HST.out.later hb3 HST.out.siz); obtain ⟨b0, b1, b2, bf, r0, r1, r2, rf⟩ := S3.out.facts; clear hb3)
      | (go_at_call 43; (with_reducible refine (HBY.out _).mono ?_); rintro e w4 ⟨rfl, rfl⟩)
      | (go_at_call 40; (with_reducible refine (HCN.out _).mono ?_); rintro e w5 ⟨rfl, hb5⟩; have S5 := Lib.hid (S3.out.later hb5 S3.out.siz); clear b0 b1 b2 bf r0 r1 r2 rf; obtain ⟨b0, b1, b2, bf, r0, r1, r2, rf⟩ := S5.out.facts; clear hb5))
    have HF := S5.out.fin (c' := 0) (p' := { data := #[] }) (ItR.nil _)
    refine bodyPost_ret (v := .tuple #[.agg #[.slice none 0 0, .int .i64 0, .string { data := #[] }], .int .i64 1]) ?_ rfl HF.2.err
    rw [results_cell_tmp rfl]
    show ((loadVar 33 ⟨w.heap.size + 1, 0, none⟩).run Tryz.prog _).andThen _ = _
    rw [HF.1]
    rfl
  obtain ⟨cs, hcs⟩ := hcb hct
  rw [decide_eq_true hct]
  have hchs := chs_some hcs
  simp only [Bool.and_true, if_true]
  by_cases hp : p.size ≠ 0
  · rw [if_pos hp]
    rw [decide_eq_false hp] at he
    clear hv hvp hcb hf hcs hchs
    generalize count (bs out) = N at HCN hct
    go_enter Tryz.func14, Tryz.ntmps14
    go_wp2_with (first
      | (go_at_call 37; rw [HWW.out]; (with_reducible refine (HV.out _ W (HI.out W HST.out.bel)).mono ?_); rintro e w3 ⟨rfl, hb3⟩; have S3 := Lib.hid (HST.out.later hb3 HST.out.siz); obtain ⟨b0, b1, b2, bf, r0, r1, r2, rf⟩ := S3.out.facts; clear hb3)
      | (go_at_call 43; (with_reducible refine (HBY.out _).mono ?_); rintro e w4 ⟨rfl, rfl⟩)
      | (go_at_call 40; (with_reducible refine (HCN.out _).mono ?_); rintro e w5 ⟨rfl, hb5⟩; have S5 := Lib.hid (S3.out.later hb5 S3.out.siz); clear b0 b1 b2 bf r0 r1 r2 rf; obtain ⟨b0, b1, b2, bf, r0, r1, r2, rf⟩ := S5.out.facts; clear hb5))
    have HF := S5.out.fin (c' := 0) (p' := { data := #[] }) (ItR.nil _)
    refine bodyPost_ret (v := .tuple #[.agg #[.slice none 0 0, .int .i64 0, .string { data := #[] }], .int .i64 8]) ?_ rfl HF.2.err
    rw [results_cell_tmp rfl]
    show ((loadVar 33 ⟨w.heap.size + 1, 0, none⟩).run Tryz.prog _).andThen _ = _
    rw [HF.1]
    rfl
  rw [if_neg hp, hchs]
  have hp0 : p.size = 0 := by omega
  rw [decide_eq_true hp0] at he
  by_cases hfu : is.length + cs.length > 64
  · rw [if_pos hfu]
    have HFU := Lib.hid (fun (W : World) (h : Below w.heap.size w W) => rinsert_full is c p raw out cs (.agg #[.slice a is.length cap, .int .i64 c, .string p]) W ⟨_, rfl, HI.out W h⟩ (by omega) (by omega) hcs hfu (by have := chars_le hcs; rw [bs_len] at this; omega))
    clear hv hvp hcb hf hcs hchs hfu
    generalize count (bs out) = N at HCN hct
    go_enter Tryz.func14, Tryz.ntmps14
    go_wp2_with (first
      | (go_at_call 37; rw [HWW.out]; (with_reducible refine (HV.out _ W (HI.out W HST.out.bel)).mono ?_); rintro e w3 ⟨rfl, hb3⟩; have S3 := Lib.hid (HST.out.later hb3 HST.out.siz); obtain ⟨b0, b1, b2, bf, r0, r1, r2, rf⟩ := S3.out.facts; clear hb3)
      | (go_at_call 43; (with_reducible refine (HBY.out _).mono ?_); rintro e w4 ⟨rfl, rfl⟩)
      | (go_at_call 40; (with_reducible refine (HCN.out _).mono ?_); rintro e w5 ⟨rfl, hb5⟩; have S5 := Lib.hid (S3.out.later hb5 S3.out.siz); clear b0 b1 b2 bf r0 r1 r2 rf; obtain ⟨b0, b1, b2, bf, r0, r1, r2, rf⟩ := S5.out.facts; clear hb5)
      | (go_at_call 41; (with_reducible refine (HFU.out _ S5.out.bel).mono ?_); rintro e w6 ⟨rfl, hb6⟩; have S6 := Lib.hid (S5.out.later hb6 S5.out.siz); clear b0 b1 b2 bf r0 r1 r2 rf; obtain ⟨b0, b1, b2, bf, r0, r1, r2, rf⟩ := S6.out.facts; have S7 := Lib.hid (S6.out.later (laid2 (x := .slice none 0 0) (y := .int .i64 0) (z := .string { data := #[] })) S6.out.siz); obtain ⟨g0, g1, g2, gf, t0, t1, t2, tf⟩ := S7.out.facts; clear hb6 b0 b1 b2 bf r0 r1 r2 rf))
    have HF := S7.out.fin (c' := 0) (p' := { data := #[] }) (ItR.nil _)
    refine bodyPost_ret (v := .tuple #[.agg #[.slice none 0 0, .int .i64 0, .string { data := #[] }], .int .i64 7]) ?_ rfl HF.2.err
    rw [results_cell_tmp rfl]
    show ((loadVar 33 ⟨w.heap.size + 1, 0, none⟩).run Tryz.prog _).andThen _ = _
    rw [HF.1]
    rfl
  · rw [if_neg hfu]
    have HFI := Lib.hid (fun (W : World) (h : Below w.heap.size w W) => rinsert_at is c p raw out cs (.agg #[.slice a is.length cap, .int .i64 c, .string p]) W ⟨_, rfl, HI.out W h⟩ hc0 hcl (by omega) hcs (by omega))
    have hic : (insB ⟨is, c, p⟩ (itemsL raw cs)) = ⟨(insB ⟨is, c, p⟩ (itemsL raw cs)).is, c + (cs.length : Int), p⟩ := by unfold insB; rw [itemsL_len]
    rw [hic]
    generalize (insB ⟨is, c, p⟩ (itemsL raw cs)).is = is2 at HFI
    clear hv hvp hcb hf hcs hchs hic
    generalize count (bs out) = N at HCN hct
    go_enter Tryz.func14, Tryz.ntmps14
    go_wp2_with (first
      | (go_at_call 37; rw [HWW.out]; (with_reducible refine (HV.out _ W (HI.out W HST.out.bel)).mono ?_); rintro e w3 ⟨rfl, hb3⟩; have S3 := Lib.hid (HST.out.later hb3 HST.out.siz); obtain ⟨b0, b1, b2, bf, r0, r1, r2, rf⟩ := S3.out.facts; clear hb3)
      | (go_at_call 43; (with_reducible refine (HBY.out _).mono ?_); rintro e w4 ⟨rfl, rfl⟩)
      | (go_at_call 40; (with_reducible refine (HCN.out _).mono ?_); rintro e w5 ⟨rfl, hb5⟩; have S5 := Lib.hid (S3.out.later hb5 S3.out.siz); clear b0 b1 b2 bf r0 r1 r2 rf; obtain ⟨b0, b1, b2, bf, r0, r1, r2, rf⟩ := S5.out.facts; clear hb5)
      | (go_at_call 41; (with_reducible refine (HFI.out _ S5.out.bel).mono ?_); rintro e w6 ⟨a6, m6, k6, rfl, hI6, hb6⟩; have HI6 := Lib.hid hI6; have S6 := Lib.hid (S5.out.later hb6 S5.out.siz); clear b0 b1 b2 bf r0 r1 r2 rf; obtain ⟨b0, b1, b2, bf, r0, r1, r2, rf⟩ := S6.out.facts; have S7 := Lib.hid (S6.out.later (laid2 (x := .slice a6 m6 k6) (y := .int .i64 (c + (cs.length : Int))) (z := .string p)) S6.out.siz); obtain ⟨g0, g1, g2, gf, t0, t1, t2, tf⟩ := S7.out.facts; obtain ⟨u0, u1, u2, uf⟩ := box_facts (heap_alloc_new w6 (Obj.cells #[.slice a6 m6 k6, .int .i64 (c + (cs.length : Int)), .string p] 33)); clear hb6 hI6 b0 b1 b2 bf r0 r1 r2 rf))
    have HF := S7.out.fin (c' := c + (cs.length : Int)) (p' := p) (HI6.out.later laid2 (Nat.le_refl _))
    refine bodyPost_ret (v := .tuple #[.agg #[.slice a6 m6 k6, .int .i64 (c + (cs.length : Int)), .string p], .int .i64 0]) ?_ rfl HF.2.err
    rw [results_cell_tmp rfl]
    show ((loadVar 33 ⟨w.heap.size + 1, 0, none⟩).run Tryz.prog _).andThen _ = _
    rw [HF.1]
    rfl
end Go.Proofs.YtamdlbefiggkfaaGreat.Cmp

set_option linter.unusedVariables false
set_option linter.unusedSimpArgs false
set_option maxRecDepth 100000
namespace Go.Proofs.YtamdlbefiggkfaaGreat.Aut
open Go Go.RowKit Go.Proofs.YtamdlbefiggkfaaGreat.Kit Go.Proofs.YtamdlbefiggkfaaGreat.Utf Go.Proofs.YtamdlbefiggkfaaGreat.Rom

/-- The slice v has n elements of sz cells each: xs. -/
def RowG (w : World) (v : Value) (sz n : Nat) (xs : List Value) : Prop :=
  ∃ a cap, v = .slice a n cap ∧ n ≤ cap ∧ cap ≤ maxLen ∧ xs.length = n * sz ∧ (n = 0 ∨ ∃ b off, a = some ⟨b, off, none⟩ ∧ b < w.heap.size ∧ ∀ i x, xs[i]? = some x → w.cell? ⟨b, off + i, none⟩ = some x)
theorem RowG.later {w w' : World} {v : Value} {sz n : Nat} {xs : List Value} (h : RowG w v sz n xs) {B : Nat} (hb : Below B w w') (hB : w.heap.size ≤ B) : RowG w' v sz n xs := by
  obtain ⟨a, cap, rfl, h1, h2, h3, h4⟩ := h
  refine ⟨a, cap, rfl, h1, h2, h3, h4.imp id ?_⟩
  rintro ⟨b, off, rfl, hlt, hx⟩
  exact ⟨b, off, rfl, Nat.lt_of_lt_of_le hlt hb.size, fun i x hi => by rw [hb.cell (p := ⟨b, _, none⟩) (by show b < B; omega)]; exact hx i x hi⟩
theorem RowG.of_own {w : World} {base : Nat} {e : TypeId} {sz n : Nat} {v : Value} {xs : List Value} (h : w.ownsRow base e sz v n xs) : RowG w v sz n xs := by
  rcases h.2 with ⟨rfl, h0⟩ | ⟨g, cap, cur, rfl, hb, hg, hnc, hcm, hcs, htake⟩
  · subst h0; exact ⟨none, 0, rfl, Nat.le_refl _, Nat.zero_le _, h.1, .inl rfl⟩
  · refine ⟨_, cap, rfl, hnc, hcm, h.1, .inr ⟨g, 0, rfl, (Array.getElem?_eq_some_iff.1 hg).1, fun j x hx => ?_⟩⟩
    rw [Nat.zero_add, cell_of_row w g j cur e (0, 0) hg]
    rw [← htake, List.getElem?_take] at hx
    split at hx
    · simpa using hx
    · cases hx
/-- Where there is an element, there is a block. -/
theorem RowG.at {w : World} {a : Option Addr} {sz n cap : Nat} {xs : List Value} (h : RowG w (.slice a n cap) sz n xs) (h0 : 0 < n) : ∃ b off, a = some ⟨b, off, none⟩ ∧ b < w.heap.size ∧ ∀ i x, xs[i]? = some x → w.cell? ⟨b, off + i, none⟩ = some x := by
  obtain ⟨a, cap, e, h1, h2, h3, h4⟩ := h
  cases e
  rcases h4 with h4 | h4
  · omega
  · exact h4

/-! ### moves -/
def mcells (m : Mv) : List Value := [.int .u8 m.c.toNat, .string (ba m.o), .string (ba m.q)]
def mc (ms : List Mv) : List Value := ms.flatMap mcells
theorem mc_append (a b : List Mv) : mc (a ++ b) = mc a ++ mc b := by simp [mc]
theorem mc_len (ms : List Mv) : (mc ms).length = ms.length * 3 := by
  induction ms with
  | nil => rfl
  | cons m ms ih => show (mcells m ++ mc ms).length = _; rw [List.length_append, ih]; simp [mcells]; omega
theorem mc_at : ∀ (ms : List Mv) (i : Nat) (m : Mv), ms[i]? = some m → (mc ms)[i * 3]? = some (.int .u8 m.c.toNat) ∧ (mc ms)[i * 3 + 1]? = some (.string (ba m.o)) ∧ (mc ms)[i * 3 + 2]? = some (.string (ba m.q))
  | [], i, m, h => by simp at h
  | x :: ms, 0, m, h => by
    simp only [List.getElem?_cons_zero, Option.some.injEq] at h
    subst h
    exact ⟨rfl, rfl, rfl⟩
  | x :: ms, i + 1, m, h => by
    have := mc_at ms i m (by simpa using h)
    show (mcells x ++ mc ms)[(i + 1) * 3]? = _ ∧ (mcells x ++ mc ms)[(i + 1) * 3 + 1]? = _ ∧ (mcells x ++ mc ms)[(i + 1) * 3 + 2]? = _
    rw [show (i + 1) * 3 = i * 3 + 3 by omega]
    exact this

/-- The library's variable holds some number. -/
def MaxL (w : World) : Prop := ∃ m, w.cell? ⟨0, 0, none⟩ = some (.int .i64 m)
theorem MaxL.later {w w' : World} {B : Nat} (h : MaxL w) (hb : Below B w w') (hB : 0 < B) : MaxL w' := by
  obtain ⟨m, h⟩ := h
  exact ⟨m, by rw [hb.cell (by exact hB)]; exact h⟩

end Go.Proofs.YtamdlbefiggkfaaGreat.Aut

set_option linter.unusedVariables false
set_option linter.unusedSimpArgs false
set_option maxRecDepth 100000
namespace Go.Proofs.YtamdlbefiggkfaaGreat.Aut
open Go Go.RowKit Go.Proofs.YtamdlbefiggkfaaGreat.Kit Go.Proofs.YtamdlbefiggkfaaGreat.Utf Go.Proofs.YtamdlbefiggkfaaGreat.Rom Go.Maps Go.ChangeMaps Go.WideMaps

/-- A state: how much is written, and what is pending. -/
def eSt (x : Nat × ByteArray) : Value := .agg #[.int .i64 x.1, .string x.2]
theorem eSt_inj : ∀ x y, eSt x = eSt y → x = y := by
  rintro ⟨a, b⟩ ⟨c, d⟩ h
  unfold eSt at h
  injection h with h
  have h1 := congrArg Array.toList h
  simp only [List.cons.injEq, Value.int.injEq, Value.string.injEq, and_true, true_and] at h1
  obtain ⟨h1, h2⟩ := h1
  subst h2
  have : a = c := by omega
  subst this; rfl
/-- An arrival: the state before, and the key. -/
def eAr (n : Nat) (p : ByteArray) (c : Int) : Value := .agg #[.int .i64 n, .string p, .int .u8 c]
/-- How a state was reached. -/
def arr (Q : List Nd) (x : Nat × ByteArray) : Option Value :=
  (Q.find? fun y => decide (y.n = x.1 ∧ y.p = bs x.2)).map fun y => eAr y.bn (ba y.bp) y.c.toNat

theorem arr_none {Q : List Nd} {n : Nat} {q : By} (h : ∀ y ∈ Q, ¬ (y.n = n ∧ y.p = q)) : arr Q (n, ba q) = none := by
  unfold arr
  rw [Option.map_eq_none_iff, List.find?_eq_none]
  intro y hy
  simp only [bs_ba]
  simpa using h y hy
theorem arr_some {Q : List Nd} {n : Nat} {q : By} (h : ∃ y ∈ Q, y.n = n ∧ y.p = q) : (arr Q (n, ba q)).isSome = true := by
  obtain ⟨y, hy, h1, h2⟩ := h
  unfold arr
  rw [Option.isSome_map, List.find?_isSome]
  exact ⟨y, hy, by simp only [bs_ba]; simpa using ⟨h1, h2⟩⟩
/-- .. of a state of the list. -/
theorem arr_at {rs : List Rule} {s : By} {Q : List Nd} {i : Nat} {cs : By} (h : Inv rs s Q i cs) {x : Nd} (hx : x ∈ Q) : arr Q (x.n, ba x.p) = some (eAr x.bn (ba x.bp) x.c.toNat) := by
  have h1 : (Q.find? fun y => decide (y.n = x.n ∧ y.p = bs (ba x.p))).isSome = true := by
    rw [List.find?_isSome]; exact ⟨x, hx, by simp [bs_ba]⟩
  obtain ⟨y, hy⟩ := Option.isSome_iff_exists.1 h1
  have h2 := List.find?_some hy
  have h3 := List.mem_of_find?_eq_some hy
  simp only [decide_eq_true_eq, bs_ba] at h2
  obtain ⟨j, hj⟩ := mem_at hx
  obtain ⟨k, hk⟩ := mem_at h3
  have e := h.same hk hj h2.1 h2.2
  subst e
  rw [hj] at hk; cases hk
  unfold arr
  rw [hy]
  rfl
theorem arr_new {Q : List Nd} {z : Nd} (hnew : ∀ y ∈ Q, ¬ (y.n = z.n ∧ y.p = z.p)) : upd (arr Q) (z.n, ba z.p) (eAr z.bn (ba z.bp) z.c.toNat) = arr (Q ++ [z]) := by
  funext x
  unfold upd arr
  rw [List.find?_append]
  by_cases e : x = (z.n, ba z.p)
  · subst e
    rw [if_pos rfl]
    have : (Q.find? fun y => decide (y.n = (z.n, ba z.p).1 ∧ y.p = bs (z.n, ba z.p).2)) = none := by
      rw [List.find?_eq_none]
      intro y hy
      simp only [bs_ba]
      simpa using hnew y hy
    rw [this]
    simp [bs_ba]
  · rw [if_neg e]
    have : ([z].find? fun y => decide (y.n = x.1 ∧ y.p = bs x.2)) = none := by
      rw [List.find?_eq_none]
      intro y hy
      rw [List.mem_singleton] at hy; subst hy
      simp only [decide_eq_true_eq]
      rintro ⟨h1, h2⟩
      exact e (Prod.ext h1.symm (by show x.2 = ba y.p; rw [h2, ba_bs]))
    rw [this, Option.or_none]

end Go.Proofs.YtamdlbefiggkfaaGreat.Aut

set_option linter.unusedVariables false
set_option linter.unusedSimpArgs false
set_option maxRecDepth 100000
namespace Go.Proofs.YtamdlbefiggkfaaGreat.Aut
open Go Go.RowKit Go.Proofs.YtamdlbefiggkfaaGreat.Kit Go.Proofs.YtamdlbefiggkfaaGreat.Utf Go.Proofs.YtamdlbefiggkfaaGreat.Rom

/-- The first k and the last k of a list exchanged. -/
def rv (xs : By) (k : Nat) : By := (List.range xs.length).map fun t => if t < k ∨ xs.length - k ≤ t then xs.getD (xs.length - 1 - t) 0 else xs.getD t 0
theorem rv_len (xs : By) (k : Nat) : (rv xs k).length = xs.length := by simp [rv]
theorem rv_at (xs : By) (k : Nat) {t : Nat} (h : t < xs.length) : (rv xs k)[t]? = some (if t < k ∨ xs.length - k ≤ t then xs.getD (xs.length - 1 - t) 0 else xs.getD t 0) := by
  unfold rv
  rw [List.getElem?_map, List.getElem?_range h]
  rfl
theorem rv_zero (xs : By) : rv xs 0 = xs := by
  apply List.ext_getElem?
  intro t
  by_cases h : t < xs.length
  · rw [rv_at xs 0 h, if_neg (by omega), List.getD_eq_getElem?_getD, List.getElem?_eq_getElem h]; rfl
  · rw [List.getElem?_eq_none (by rw [rv_len]; omega), List.getElem?_eq_none (by omega)]
theorem rv_end (xs : By) {k : Nat} (h : xs.length ≤ 2 * k + 1) (h2 : 2 * k ≤ xs.length) : rv xs k = xs.reverse := by
  apply List.ext_getElem?
  intro t
  by_cases ht : t < xs.length
  · rw [rv_at xs k ht, List.getElem?_reverse ht]
    have e : (if t < k ∨ xs.length - k ≤ t then xs.getD (xs.length - 1 - t) 0 else xs.getD t 0) = xs.getD (xs.length - 1 - t) 0 := by
      split
      · rfl
      · rename_i hn
        have : t = xs.length - 1 - t := by omega
        rw [← this]
    rw [e, List.getD_eq_getElem?_getD, List.getElem?_eq_getElem (by omega)]; rfl
  · rw [List.getElem?_eq_none (by rw [rv_len]; omega), List.getElem?_eq_none (by rw [List.length_reverse]; omega)]
theorem rv_step (xs : By) {k : Nat} (h : 2 * k + 1 < xs.length) : ((rv xs k).set k (xs.getD (xs.length - 1 - k) 0)).set (xs.length - 1 - k) (xs.getD k 0) = rv xs (k + 1) := by
  apply List.ext_getElem?
  intro t
  rw [List.getElem?_set, List.getElem?_set]
  simp only [List.length_set, rv_len]
  by_cases ht : t < xs.length
  · rw [rv_at xs (k + 1) ht]
    by_cases e1 : xs.length - 1 - k = t
    · rw [if_pos e1, if_pos (by omega), if_pos (by omega)]
      congr 2
      omega
    · rw [if_neg e1]
      by_cases e2 : k = t
      · subst e2
        rw [if_pos rfl, if_pos ht, if_pos (by omega)]
      · rw [if_neg e2, rv_at xs k ht]
        congr 1
        by_cases e3 : t < k ∨ xs.length - k ≤ t
        · rw [if_pos e3, if_pos (by omega)]
        · rw [if_neg e3, if_neg (by omega)]
  · rw [List.getElem?_eq_none (l := rv xs (k + 1)) (by rw [rv_len]; omega), List.getElem?_eq_none (l := rv xs k) (by rw [rv_len]; omega)]
    split <;> rename_i h1
    · omega
    · split
      · omega
      · rfl
theorem u8s_set (l : By) (i : Nat) (c : UInt8) : (u8s l).set i (.int .u8 c.toNat) = u8s (l.set i c) := by simp [u8s, List.map_set]
theorem u8s_at {l : By} {i : Nat} {c : UInt8} (h : l[i]? = some c) : (u8s l)[i]? = some (.int .u8 c.toNat) := by simp [u8s, h]

end Go.Proofs.YtamdlbefiggkfaaGreat.Aut

set_option linter.unusedVariables false
set_option linter.unusedSimpArgs false
set_option maxRecDepth 100000
namespace Go.Proofs.YtamdlbefiggkfaaGreat.Aut
open Go Go.RowKit Go.Proofs.YtamdlbefiggkfaaGreat.Kit Go.Proofs.YtamdlbefiggkfaaGreat.Utf Go.Proofs.YtamdlbefiggkfaaGreat.Rom

theorem pend_len {rs : List Rule} (hok : okL rs = true) {p : By} (h : Pend rs p) : p.length ≤ 4 := by
  rcases h with rfl | h
  · simp
  · unfold longL at h
    rw [List.any_eq_true] at h
    obtain ⟨r, hr, h⟩ := h
    unfold longR at h
    rw [Bool.and_eq_true, decide_eq_true_eq, ba_size] at h
    have := (okR_next (ok_of hok hr)).2.1
    omega
theorem Inv.pend {rs : List Rule} {s : By} (hok : okL rs = true) {Q : List Nd} {i : Nat} {cs : By} (h : Inv rs s Q i cs) {x : Nd} (hx : x ∈ Q) : Pend rs x.p ∧ x.p.length ≤ 4 ∧ AllK x.p ∧ x.n ≤ s.length := by
  obtain ⟨h1, h2, h3⟩ := h.good x hx
  have := h3.pend (.inl rfl)
  exact ⟨this, pend_len hok this, h3.keys hok AllK.nil h1, h2⟩
/-- The state before. -/
theorem Inv.before {rs : List Rule} {s : By} {Q : List Nd} {i : Nat} {cs : By} (h : Inv rs s Q i cs) {y : Nd} (hy : y ∈ Q) : (y.n = 0 ∧ y.p = [] ∧ y.w = []) ∨ (¬ (y.n = 0 ∧ y.p = []) ∧ ∃ x ∈ Q, y.w = x.w ++ [y.c] ∧ y.bn = x.n ∧ y.bp = x.p) := by
  obtain ⟨T, hQ, hT⟩ := h.first
  have h0 : Q[0]? = some nd0 := by rw [hQ]; rfl
  by_cases e : y = nd0
  · subst e; exact .inl ⟨rfl, rfl, rfl⟩
  · refine .inr ⟨fun ⟨h1, h2⟩ => e ?_, ?_⟩
    · obtain ⟨j, hj⟩ := mem_at hy
      have := h.same hj h0 h1 h2
      subst this
      rw [h0] at hj; cases hj; rfl
    · rw [hQ] at hy
      rcases List.mem_cons.1 hy with rfl | hy
      · exact absurd rfl e
      · obtain ⟨_, j, x, hj, _, h1, h2, h3⟩ := hT y hy
        exact ⟨x, List.mem_of_getElem? hj, h1, h2, h3⟩

def sliceLen (v : Value) : Nat := match v with
  | .slice _ n _ => n
  | _ => 0
theorem sliceLen_own {w : World} {base : Nat} {e : TypeId} {sz n : Nat} {v : Value} {xs : List Value} (h : w.ownsRow base e sz v n xs) : sliceLen v = n := by
  rcases h.2 with ⟨rfl, h0⟩ | ⟨g, cap, cur, rfl, _⟩
  · exact h0.symm
  · rfl

end Go.Proofs.YtamdlbefiggkfaaGreat.Aut

set_option linter.unusedVariables false
set_option linter.unusedSimpArgs false
set_option maxRecDepth 100000
namespace Go.Proofs.YtamdlbefiggkfaaGreat.Aut
open Go Go.RowKit Go.Proofs.YtamdlbefiggkfaaGreat.Kit Go.Proofs.YtamdlbefiggkfaaGreat.Utf Go.Proofs.YtamdlbefiggkfaaGreat.Rom

/-- What a block of another kind does leaves a row as it is. -/
theorem own_kind {w w' : World} {base n : Nat} {e : TypeId} {sz : Nat} {v : Value} {xs : List Value} {row : Option Nat} (h : w.ownsRow base e sz v n xs) (hg : w.grownBy w' row) (hk : ∀ g, row = some g → ∀ c fz, w.heap[g]? ≠ some (.cells c e fz)) : w'.ownsRow base e sz v n xs := by
  refine h.kept hg ?_
  rcases h.2 with ⟨rfl, h0⟩ | ⟨g, cap, cur, rfl, hb, hg', _⟩
  · exact .inl rfl
  · refine .inr fun e => hk g ?_ _ _ hg'
    exact e.symm

end Go.Proofs.YtamdlbefiggkfaaGreat.Aut

set_option linter.unusedVariables false
set_option linter.unusedSimpArgs false
set_option maxRecDepth 100000
namespace Go.Proofs.YtamdlbefiggkfaaGreat.Aut
open Go Go.RowKit Go.Proofs.YtamdlbefiggkfaaGreat.Kit Go.Proofs.YtamdlbefiggkfaaGreat.Utf Go.Proofs.YtamdlbefiggkfaaGreat.Rom Go.Maps Go.ChangeMaps Go.WideMaps

section
variable {κ : Type} {kt : TypeId} {ek : κ → Value} (w : World) {ops : Array Oper} {rest : List Oper} {o : Oper} {a : Act} {Q : Exit → Act → World → Prop}
/-- 'v, ok := m[k]' at the operation. -/
theorem wpList_look_F (hg : o.guard = none) (m x : Operand) (t : TypeId) (hop : o.op = Op.lookup t m x true) (e : TypeId) (K : Keyed Tryz.prog kt) (ht : Tryz.prog.underlying t = some (.map kt e)) (b : Nat) (k : κ) (z : Value) (hz : ∀ w, (zeroValue e).run Tryz.prog w = .ok z w)
    (hm : a.eval m = .map (some b)) (hx : a.eval x = ek k) (n : Nat) (f : κ → Option Value) (hM : MapF kt ek w b n f) (hk : ∃ l, keyOf Tryz.prog kt (ek k) = some l)
    (hK : wpList Tryz.prog ops Q rest (a.put o.dst (.tuple #[(f k).getD z, .bool (f k).isSome])) w) : wpList Tryz.prog ops Q (o :: rest) a w := by
  refine wpList_plain hg fun K' hK' => ?_
  obtain ⟨l, hl⟩ := hk
  have hrun := hM.look K ht (hz w) hl
  unfold Oper.wp
  simp [execOp, hop, hm, hx, hrun, Result.andThen]
  exact hK' _ _ hK
/-- 'm[k] = v' at the operation. -/
theorem wpList_put_F [DecidableEq κ] (hg : o.guard = none) (m x v : Operand) (t : TypeId) (hop : o.op = Op.mapUpdate t m x v) (e : TypeId) (K : Keyed Tryz.prog kt) (hinj : ∀ x y, ek x = ek y → x = y) (ht : Tryz.prog.underlying t = some (.map kt e)) (b : Nat) (k : κ) (u : Value)
    (hm : a.eval m = .map (some b)) (hx : a.eval x = ek k) (hv : a.eval v = u) (n : Nat) (f : κ → Option Value) (hM : MapF kt ek w b n f) (hn : n < maxLen) (hk : ∃ l, keyOf Tryz.prog kt (ek k) = some l)
    (hK : ∀ w', MapF kt ek w' b (n + 1) (upd f k u) → w.grownBy w' (some b) → wpList Tryz.prog ops Q rest (a.put o.dst undef) w') : wpList Tryz.prog ops Q (o :: rest) a w := by
  refine wpList_plain hg fun K' hK' => ?_
  obtain ⟨l, hl⟩ := hk
  obtain ⟨w', hrun, r1, r2⟩ := hM.put K hinj ht hn hl u
  unfold Oper.wp
  simp [execOp, hop, hm, hx, hv, hrun, Result.andThen]
  exact hK' _ _ (hK w' r1 r2)
end

/-! ### how the search stands -/
def scells (y : Nd) : List Value := [.int .i64 y.n, .string (ba y.p)]
def qc (Q : List Nd) : List Value := Q.flatMap scells
theorem qc_append (a b : List Nd) : qc (a ++ b) = qc a ++ qc b := by simp [qc]
theorem qc_len (Q : List Nd) : (qc Q).length = Q.length * 2 := by
  induction Q with
  | nil => rfl
  | cons m ms ih => show (scells m ++ qc ms).length = _; rw [List.length_append, ih]; simp [scells]; omega
theorem qc_at : ∀ (Q : List Nd) (i : Nat) (y : Nd), Q[i]? = some y → (qc Q)[i * 2]? = some (.int .i64 y.n) ∧ (qc Q)[i * 2 + 1]? = some (.string (ba y.p))
  | [], i, m, h => by simp at h
  | x :: ms, 0, m, h => by
    simp only [List.getElem?_cons_zero, Option.some.injEq] at h
    subst h
    exact ⟨rfl, rfl⟩
  | x :: ms, i + 1, m, h => by
    have := qc_at ms i m (by simpa using h)
    show (scells x ++ qc ms)[(i + 1) * 2]? = _ ∧ (scells x ++ qc ms)[(i + 1) * 2 + 1]? = _
    rw [show (i + 1) * 2 = i * 2 + 2 by omega]
    exact this
/-- The words of the states are no longer than the list. -/
theorem Inv.wlen {rs : List Rule} {s : By} {Q : List Nd} {i : Nat} {cs : By} (h : Inv rs s Q i cs) : ∀ (j : Nat) (x : Nd), Q[j]? = some x → x.w.length ≤ j := by
  intro j
  induction j using Nat.strongRecOn with
  | _ j ih =>
    intro x hx
    rcases h.before (List.mem_of_getElem? hx) with ⟨_, _, h3⟩ | ⟨_, x', hx', hw, _⟩
    · rw [h3]; simp
    · obtain ⟨k, hk⟩ := mem_at hx'
      have hlt : k < j := by
        rcases Nat.lt_trichotomy k j with h1 | h1 | h1
        · exact h1
        · subst h1; rw [hk] at hx; cases hx
          have := congrArg List.length hw
          simp at this
        · have h2 := pw_lt h.ord hx hk h1
          rcases h2 with h2 | ⟨h2, _⟩
          · rw [hw] at h2; simp at h2; omega
          · rw [hw] at h2; simp at h2
      have := ih k hlt x' hk
      rw [hw]; simp; omega

end Go.Proofs.YtamdlbefiggkfaaGreat.Aut

set_option linter.unusedVariables false
set_option linter.unusedSimpArgs false
set_option maxRecDepth 100000
namespace Go.Proofs.YtamdlbefiggkfaaGreat.Aut
open Go Go.RowKit Go.Proofs.YtamdlbefiggkfaaGreat.Kit Go.Proofs.YtamdlbefiggkfaaGreat.Utf Go.Proofs.YtamdlbefiggkfaaGreat.Rom

/-- What Type answers. -/
def TypeIs (rs : List Rule) (s k : By) (ok : Bool) : Prop :=
  ((count s < 0 ∨ 64 < count s) ∧ k = [] ∧ ok = false) ∨ ((0 ≤ count s ∧ count s ≤ 64) ∧ Least rs s k ok)
theorem TypeIs.det {rs : List Rule} {s k k' : By} {ok ok' : Bool} (h : TypeIs rs s k ok) (h' : TypeIs rs s k' ok') : k = k' ∧ ok = ok' := by
  rcases h with ⟨h1, rfl, rfl⟩ | ⟨h1, h2⟩ <;> rcases h' with ⟨h1', rfl, rfl⟩ | ⟨h1', h2'⟩
  · exact ⟨rfl, rfl⟩
  · omega
  · omega
  · exact h2.det h2'
theorem count_len {s : By} (h : 0 ≤ count s) (h2 : count s ≤ 64) : s.length ≤ 256 := by
  unfold count at h h2
  cases hc : chars s with
  | none => rw [hc] at h; simp at h
  | some cs =>
    rw [hc] at h2
    obtain ⟨hv, he⟩ := chars_some hc
    have := encs_length_le hv
    rw [← he] at this
    simp at h2
    omega

theorem ax1 {xn ol N2 s pl : Nat} (h : xn + ol = N2) (hx : xn ≤ s) (ho : ol ≤ 16 * (pl + 1)) (hp : pl ≤ 4) (hs : s ≤ 256) : N2 ≤ 1000000 := by omega
theorem ax2 {ql pl : Nat} (h : ql ≤ pl + 1) (hp : pl ≤ 4) : ql ≤ 1000000 := by omega
theorem ax3 {xn ol N2 z : Nat} (h : xn + ol = N2) (hz : z = ol) : (xn : Int) + (z : Int) = N2 := by omega
theorem ax4 {s : Nat} (h : s ≤ 256) : s + 1 ≤ 257 := by omega
theorem ax5 {s : Nat} (h : s ≤ 500) : 1 + 4 * s ≤ 2001 := by omega
theorem ax6 {q : Nat} (h : q ≤ 600000) : q < maxLen := by unfold maxLen; omega
theorem ax7 {j M : Nat} (h : j < M) : M - (intOf (.int .i64 ((j : Int) + 1))).toNat < M - (intOf (.int .i64 (j : Int))).toNat := by simp [intOf]; omega
theorem ax10 {q : Nat} (h : q ≤ 600000) : (q + 1) * 24 ≤ 140737488355328 := by omega
theorem ax6' {q : Nat} (h : q ≤ 600000) : q + 1 ≤ maxLen := by unfold maxLen; omega
theorem ax11 {n : Int} {s : ByteArray} : ∀ u ∈ [Value.int .i64 n, Value.string s], u.oneCell' = true := by
  intro u hu
  simp only [List.mem_cons, List.not_mem_nil, or_false] at hu
  rcases hu with rfl | rfl <;> rfl
theorem ax12 {a b c : Nat} (h : a < b) (h2 : b + 2 ≤ c) : a < c + 1 := by omega
theorem ax13 {a b c : Nat} (h : a < b) (h2 : b + 2 ≤ c) : a < c := by omega
theorem ax14 {a b c g : Nat} (h : g = c + 1) (h1 : a < b) (h2 : b + 2 ≤ c) : g ≠ a := by omega
theorem World.heap_alloc_lt (W : World) (o : Obj) (k : Nat) (h : k < W.heap.size) : (W.alloc o).heap[k]? = W.heap[k]? := ((Below.refl W.heap.size W).alloc (Nat.le_refl _) o).block k h
theorem ax9 {n : Nat} (h : n ≤ 1000000) : (n : Int) ≤ 1000000 := by omega
theorem ax8 {a b : Nat} (h : a = b) (h2 : b < a) : False := by omega
end Go.Proofs.YtamdlbefiggkfaaGreat.Aut

set_option linter.unusedVariables false
set_option linter.unusedSimpArgs false
namespace Go.Proofs.YtamdlbefiggkfaaGreat.Aut
open Go Go.Proofs.YtamdlbefiggkfaaGreat.Utf Go.Proofs.YtamdlbefiggkfaaGreat.Rom

def tryKey (rs : List Rule) (s : By) (x : Nd) (Q : List Nd) (i : Nat) : List Nd :=
  match feedO rs 1000 x.p [keyB i] with
  | none => Q
  | some (o, q) => if o.isPrefixOf (s.drop x.n) then
      (if Q.any (fun y => decide (y.n = x.n + o.length ∧ y.p = q)) then Q else Q ++ [⟨x.n + o.length, q, x.w ++ [keyB i], x.n, x.p, keyB i⟩]) else Q
def expand (rs : List Rule) (s : By) (x : Nd) (k : Nat) (Q : List Nd) : List Nd := (List.range k).foldl (tryKey rs s x) Q
def allSome (rs : List Rule) (p : By) : Bool := (List.range 94).all fun i => (feedO rs 1000 p [keyB i]).isSome
def bfs (rs : List Rule) (s : By) : Nat → Nat → List Nd → Option (Option By)
  | 0, _, _ => none
  | f + 1, i, Q => match Q[i]? with
    | none => some none
    | some x => if x.n = s.length ∧ x.p = [] then some (some x.w) else if allSome rs x.p then bfs rs s f (i + 1) (expand rs s x 94 Q) else none

variable {rs : List Rule} {s : By}
theorem keyB_lt {i k : Nat} (h : i < k) (hk : k < 94) : keyB i < keyB k := by
  rw [UInt8.lt_iff_toNat_lt, (keyB_is (by omega)).1, (keyB_is hk).1]; omega
theorem expand_inv (hok : okL rs = true) {x : Nd} {i : Nat} (hall : allSome rs x.p = true) : ∀ (k : Nat) {Q : List Nd}, k ≤ 94 → Inv rs s Q i [] → Q[i]? = some x →
    Inv rs s (expand rs s x k Q) i ((List.range k).map keyB) ∧ (expand rs s x k Q)[i]? = some x ∧ ∀ j, j ≤ i → (expand rs s x k Q)[j]? = Q[j]?
  | 0, Q, _, hI, hx => ⟨hI, hx, fun _ _ => rfl⟩
  | k + 1, Q, hk, hI, hx => by
    obtain ⟨h1, h2, h3⟩ := expand_inv hok hall k (by omega) hI hx
    have e : expand rs s x (k + 1) Q = tryKey rs s x (expand rs s x k Q) k := by unfold expand; rw [List.range_succ, List.foldl_append]; rfl
    have ek : (List.range (k + 1)).map keyB = (List.range k).map keyB ++ [keyB k] := by rw [List.range_succ, List.map_append]; rfl
    rw [e, ek]
    generalize expand rs s x k Q = Q2 at *
    have hs : (feedO rs 1000 x.p [keyB k]).isSome = true := by
      unfold allSome at hall
      rw [List.all_eq_true] at hall
      exact hall k (List.mem_range.2 (by omega))
    obtain ⟨⟨o, q⟩, hf⟩ := Option.isSome_iff_exists.1 hs
    have hst := feedO_sound hf
    have hlt : ∀ d ∈ (List.range k).map keyB, d < keyB k := fun d hd => by
      rw [List.mem_map] at hd
      obtain ⟨i, hi, rfl⟩ := hd
      exact keyB_lt (List.mem_range.1 hi) (by omega)
    unfold tryKey
    rw [hf]
    dsimp only
    split
    · rename_i hp
      have hp' := List.isPrefixOf_iff_prefix.1 hp
      split
      · rename_i ha
        rw [List.any_eq_true] at ha
        obtain ⟨y, hy, ha⟩ := ha
        rw [decide_eq_true_eq] at ha
        exact ⟨h1.old hok h2 hlt hst hy ha.1 ha.2, h2, h3⟩
      · rename_i ha
        have hl := (List.getElem?_eq_some_iff.1 h2).1
        refine ⟨h1.new hok h2 (keyB_is (by omega)).2 hlt hst hp' (fun y hy h => ha (List.any_eq_true.2 ⟨y, hy, by rw [decide_eq_true_eq]; exact h⟩)), by rw [List.getElem?_append_left hl]; exact h2, fun j hj => ?_⟩
        rw [List.getElem?_append_left (by omega)]
        exact h3 j hj
    · rename_i hp
      exact ⟨h1.skip hok h2 hst (fun h => hp (List.isPrefixOf_iff_prefix.2 h)), h2, h3⟩
theorem bfs_sound (hok : okL rs = true) : ∀ (f i : Nat) (Q : List Nd) (r : Option By), Inv rs s Q i [] → i ≤ Q.length → (∀ j x, j < i → Q[j]? = some x → ¬ (x.n = s.length ∧ x.p = [])) → bfs rs s f i Q = some r → Least rs s (r.getD []) r.isSome
  | 0, _, _, _, _, _, _, h => by cases h
  | f + 1, i, Q, r, hI, hi, hno, h => by
    unfold bfs at h
    split at h
    · rename_i hx
      cases h
      have : i = Q.length := by rw [List.getElem?_eq_none_iff] at hx; omega
      subst this
      exact hI.none hok (fun j x hj => hno j x (List.getElem?_eq_some_iff.1 hj).1 hj)
    · rename_i x hx
      split at h
      · rename_i he
        cases h
        exact hI.found hok hx he.1 he.2
      · rename_i he
        split at h
        · rename_i hall
          obtain ⟨h1, h2, h3⟩ := expand_inv (s := s) hok hall 94 (Nat.le_refl _) hI hx
          have h4 := h1.next hok h2 (fun c hc hn o q _ => by
            obtain ⟨k, hk, rfl⟩ := keyB_of hc
            exact absurd (List.mem_map.2 ⟨k, List.mem_range.2 hk, rfl⟩) hn)
          refine bfs_sound hok f (i + 1) _ r h4 (List.getElem?_eq_some_iff.1 h2).1 (fun j y hj hy => ?_) h
          rw [h3 j (by omega)] at hy
          by_cases e : j = i
          · subst e; rw [hx] at hy; cases hy; exact he
          · exact hno j y (by omega) hy
        · cases h
theorem bfs_least (hok : okL rs = true) {f : Nat} {r : Option By} (h : bfs rs s f 0 [nd0] = some r) : Least rs s (r.getD []) r.isSome :=
  bfs_sound hok f 0 [nd0] r (inv_start rs s) (Nat.zero_le _) (fun j x hj => by omega) h

/-! ### the second table of examples -/
def smallR : List Rule := [⟨ba [97], ba [227, 129, 130], ba []⟩, ⟨ba [110], ba [227, 130, 147], ba []⟩, ⟨ba [110, 97], ba [227, 129, 170], ba []⟩, ⟨ba [110, 110], ba [227, 130, 147], ba []⟩, ⟨ba [120, 121], ba [], ba [97]⟩]
theorem small_ok : okL smallR = true := by decide +kernel
theorem small_check : checkL smallR = 0 := by decide +kernel
theorem small_na : Least smallR [227, 129, 170] [110, 97] true := bfs_least (f := 30) (r := some [110, 97]) small_ok (by decide +kernel)
theorem small_run1 : Feeds smallR [] [110, 110, 97] [227, 130, 147, 227, 129, 130] [] := feedO_sound (f := 100) (by decide +kernel)
theorem small_run2 : Feeds smallR [] [120, 121, 97] [227, 129, 130, 227, 129, 130] [] := feedO_sound (f := 100) (by decide +kernel)
theorem small_flush : Flushes smallR [110] [227, 130, 147] := flushO_sound (f := 100) (by decide +kernel)

end Go.Proofs.YtamdlbefiggkfaaGreat.Aut

set_option linter.unusedVariables false
set_option linter.unusedSimpArgs false
set_option maxRecDepth 100000
namespace Go.Proofs.YtamdlbefiggkfaaGreat.Aut
open Go Go.RowKit Go.Proofs.YtamdlbefiggkfaaGreat.Kit Go.Proofs.YtamdlbefiggkfaaGreat.Utf Go.Proofs.YtamdlbefiggkfaaGreat.Rom

theorem small_short : ∀ r ∈ smallR, Short r := by
  intro r hr
  have h := ok_of small_ok hr
  have h1 := okR_next h
  have h2 := okR_out h
  exact ⟨by omega, by omega, by omega⟩
theorem new_small (v : Value) (w : World) (hR : RowR w v smallR) : Calls Tryz.prog 6 #[v] w fun e w' => ∃ a, e = .returned (.tuple #[.pointer (some ⟨a, 0, none⟩), .int .i64 0]) ∧ AutoAt w'.heap.size w' a smallR ∧ Below w.heap.size w w' := by
  refine (new_any v smallR w hR small_short).mono ?_
  rintro e w' ⟨hb, ⟨h, _⟩ | ⟨_, a, rfl, hA, _⟩⟩
  · exact absurd small_check h
  · exact ⟨a, rfl, hA, hb⟩
theorem flush_small {p F : By} (hF : Flushes smallR p F) (hk : AllK p) (hl : p.length ≤ 1000) (B a : Nat) (w : World) (hA : AutoAt B w a smallR) (hB : B ≤ w.heap.size) :
    Calls Tryz.prog 45 #[.pointer (some ⟨a, 0, none⟩), .string (ba p)] w fun e w' => e = .returned (.string (ba F)) ∧ Below w.heap.size w w' := by
  refine (flush_any small_ok B a (ba p) w hA hB (by rw [ba_size]; omega)).mono ?_
  rintro e w' ⟨F', rfl, hF', hb⟩
  rw [bs_ba, keysOf_id hk] at hF'
  rw [hF'.det hF]
  exact ⟨rfl, hb⟩
theorem allK_dec {l : By} (h : l.all isKb = true) : AllK l := by rw [List.all_eq_true] at h; exact h

end Go.Proofs.YtamdlbefiggkfaaGreat.Aut

set_option linter.unusedVariables false
set_option linter.unusedSimpArgs false
set_option maxRecDepth 100000
namespace Go.Proofs.YtamdlbefiggkfaaGreat.Aut
open Go Go.RowKit Go.ChangeShapes Go.WideShapes Go.Deep Go.Proofs.YtamdlbefiggkfaaGreat.Kit Go.Proofs.YtamdlbefiggkfaaGreat.Utf Go.Proofs.YtamdlbefiggkfaaGreat.Rom

theorem three_long (l : List Value) (h : l.length = 3) : ∃ a b c, l = [a, b, c] := by
  cases l with
  | nil => simp at h
  | cons a l =>
    cases l with
    | nil => simp at h
    | cons b l =>
      cases l with
      | nil => simp at h
      | cons c l =>
        cases l with
        | nil => exact ⟨a, b, c, rfl⟩
        | cons d l => simp at h
theorem rules_open {H : Type} {enc : TypeId × Value → H} {w : World} {base : Nat} {spare : Nat → Bool} {held : Bool} {fuel : Nat} {a : Option Addr} {len cap : Nat} {x : DataW H × List MemPlace}
    (h : DataW.trod enc Tryz.prog w base spare held fuel 22 [.slice a len cap] = some x) : ∃ rs, RowR w (.slice a len cap) rs := by
  rcases open_slice Tryz.underlying22 h with ⟨hcs, _⟩ | ⟨a', len', cap', m, n, D, Pl, hcs, hb, hl, hm, hmm, hx, hi⟩
  · simp at hcs
    obtain ⟨rfl, rfl, rfl⟩ := hcs
    exact ⟨[], RowR.nil w⟩
  · simp at hcs
    obtain ⟨rfl, rfl, rfl⟩ := hcs
    have hlm : len ≤ m := by rw [hmm]; split <;> omega
    have hC : Tryz.prog.cellsOf 64 = 3 := by kernel_rfl
    have hS : Tryz.prog.cellsOf 9 = 1 := by kernel_rfl
    rw [hC] at hi
    obtain ⟨b, off, spot⟩ := a'
    have key : ∀ i, ∃ r : Rule, i < len → w.cell? ((⟨b, off, spot⟩ : Addr).add (i * 3)) = some (.string r.k) ∧ w.cell? ((⟨b, off, spot⟩ : Addr).add (i * 3 + 1)) = some (.string r.o) ∧ w.cell? ((⟨b, off, spot⟩ : Addr).add (i * 3 + 2)) = some (.string r.n) := by
      intro i
      by_cases hil : i < len
      · obtain ⟨cs', hc, ht'⟩ := hi i (by omega)
        obtain ⟨ys, n', hn', hy, hlen, hyl, hf⟩ := DataW.trod_struct Tryz.underlying64 ht'
        obtain ⟨_, hcl, hat⟩ := World.cells?_some hc
        obtain ⟨v0, v1, v2, rfl⟩ := three_long cs' hcl
        have h0 : DataW.trod enc Tryz.prog w base spare held n' 9 (([v0, v1, v2].drop 0).take (Tryz.prog.cellsOf 9)) = ys[0]? := hf 0 _ rfl
        have h1 : DataW.trod enc Tryz.prog w base spare held n' 9 (([v0, v1, v2].drop 1).take (Tryz.prog.cellsOf 9)) = ys[1]? := hf 1 _ rfl
        have h2 : DataW.trod enc Tryz.prog w base spare held n' 9 (([v0, v1, v2].drop 2).take (Tryz.prog.cellsOf 9)) = ys[2]? := hf 2 _ rfl
        rw [hS] at h0 h1 h2
        have hys : ys.length = 3 := hyl
        rw [List.getElem?_eq_getElem (by omega)] at h0 h1 h2
        obtain ⟨s0, e0, _, _⟩ := DataW.trod_string Tryz.underlying9 h0
        obtain ⟨s1, e1, _, _⟩ := DataW.trod_string Tryz.underlying9 h1
        obtain ⟨s2, e2, _, _⟩ := DataW.trod_string Tryz.underlying9 h2
        simp at e0 e1 e2
        have c0 := hat 0 (by omega)
        have c1 := hat 1 (by omega)
        have c2 := hat 2 (by omega)
        rw [Go.Deep.add_add] at c0 c1 c2
        refine ⟨⟨s0, s1, s2⟩, fun _ => ⟨?_, ?_, ?_⟩⟩
        · rw [Nat.add_zero] at c0; rw [c0]; simp [e0]
        · rw [c1]; simp [e1]
        · rw [c2]; simp [e2]
      · exact ⟨default, fun h => absurd h hil⟩
    obtain ⟨f, hf⟩ := Classical.axiomOfChoice key
    refine ⟨(List.range len).map f, _, len, cap, rfl, by simp, hl, hm, ?_⟩
    by_cases h0 : len = 0
    · exact .inr (.inl ⟨_, rfl, h0⟩)
    · have hsp := (hf 0 (by omega)).1
      have hspot : spot = none := by simpa [Addr.add] using World.cell?_spot hsp
      subst hspot
      refine .inr (.inr ⟨b, off, rfl, World.block_lt_of_cell? w _ hsp, fun i hi2 => ?_⟩)
      simp only [List.length_map, List.length_range] at hi2
      have e : ri ((List.range len).map f) i = f i := by
        unfold ri
        rw [List.getD_eq_getElem?_getD, List.getElem?_map, List.getElem?_range hi2]; rfl
      rw [e]
      have := hf i hi2
      simp only [Addr.add_lit] at this
      exact this

theorem maxL_of {W : World} (h : W.ShapedOpen Tryz.prog) : MaxL W ∧ 0 < W.heap.size := by
  obtain ⟨m, hm⟩ := cell_of_shapedOpen_int (P := Tryz.prog) (w := W) (g := 0) (t := 3) (zero := #[.int .i64 0]) (k := .i64) h (of_decide_eq_true (by kernel_rfl)) (by kernel_rfl) rfl (by kernel_rfl) (by kernel_rfl) Tryz.underlying3
  refine ⟨⟨m, hm⟩, ?_⟩
  unfold World.cell? at hm
  cases hh : W.heap[0]? with
  | none => simp [hh] at hm
  | some o => exact (Array.getElem?_eq_some_iff.1 hh).1

end Go.Proofs.YtamdlbefiggkfaaGreat.Aut

set_option linter.unusedVariables false
set_option linter.unusedSimpArgs false
set_option maxRecDepth 100000
namespace Go.Proofs.YtamdlbefiggkfaaGreat.Aut
open Go Go.RowKit Go.Proofs.YtamdlbefiggkfaaGreat.Kit Go.Proofs.YtamdlbefiggkfaaGreat.Utf Go.Proofs.YtamdlbefiggkfaaGreat.Rom

set_option maxHeartbeats 2000000 in
theorem rkeys_any (s : ByteArray) (w : World) (hs : s.size ≤ 1000000) :
    Calls Tryz.prog 69 #[.string s] w fun e w' => e = .returned (.string (ba (keysOf (bs s)))) ∧ Below w.heap.size w w' := by
  go_enter Tryz.func69, Tryz.ntmps69
  go_wp2
  go_loopw [4, 3] (fun i v wr => ∃ k : Nat, i = .int .i64 k ∧ k ≤ s.size ∧ v = .string (ba (keysOf ((bs s).take k))) ∧ wr = w) (fun i _ _ => s.size - (intOf i).toNat)
  case atStart => exact ⟨0, rfl, Nat.zero_le _, rfl, rfl⟩
  case round =>
    obtain ⟨k, rfl, hk, rfl, rfl⟩ := hrel
    by_cases hkl : k < s.size
    · have hrun := run_byte s k hkl
      have hbz := bz_bound s k
      have hsu := Lib.hid (keysOf_succ s k hkl)
      have hln : (keysOf ((bs s).take k)).length ≤ k := by
        have := keysOf_le ((bs s).take k)
        rw [List.length_take] at this; omega
      have hone := Lib.hid (one_more (keysOf ((bs s).take k)) s k hkl)
      have hbt := Lib.hid (bz_bt8 s k)
      have hes : (s.extract k (k + 1)).size = 1 := by rw [ByteArray.size_extract]; omega
      generalize keysOf ((bs s).take k) = xs at hsu hln hone
      have hxs : (ba xs).size = xs.length := ba_size _
      have hb2 : ¬ 9223372036854775807 < (ba xs).size + (s.extract k (k + 1)).size := by omega
      generalize bz s k = x at hrun hbz hbt
      generalize bt8 s k = c at hsu hbt hone
      obtain ⟨hb0, hb1⟩ := hbz
      have k0 : (0 : Int) ≤ k := by omega
      have k1 : (k : Int) + 1 ≤ s.size := by omega
      by_cases h1 : (33 : Int) ≤ x ∧ x ≤ 126
      · obtain ⟨h1, h2⟩ := h1
        have hK : isKb c = true := by unfold isKb; rw [decide_eq_true_eq]; have := hbt.out; omega
        have hs2 := hsu.out
        rw [hK, if_pos rfl] at hs2
        have HS := Lib.hid hs2
        clear hs2 hsu hK hxs
        go_wp2
        go_roundw
        case rel => exact ⟨k + 1, by go_num, by omega, by rw [HS.out, hone.out], trivial⟩
        case measure => simp [intOf]; omega
      · have hK : isKb c = false := by unfold isKb; rw [decide_eq_false_iff_not]; have := hbt.out; omega
        have hs2 := hsu.out
        rw [hK] at hs2
        simp only [Bool.false_eq_true, if_false, List.append_nil] at hs2
        have HS := Lib.hid hs2
        clear hs2 hsu hK hxs
        by_cases h2 : (33 : Int) ≤ x
        · have h3 : ¬ x ≤ 126 := by omega
          clear h1
          go_wp2
          go_roundw
          case rel => exact ⟨k + 1, by go_num, by omega, by rw [HS.out], trivial⟩
          case measure => simp [intOf]; omega
        · clear h1
          go_wp2
          go_roundw
          case rel => exact ⟨k + 1, by go_num, by omega, by rw [HS.out], trivial⟩
          case measure => simp [intOf]; omega
    · have e1 : (bs s).take k = bs s := List.take_of_length_le (by rw [bs_len]; omega)
      rw [e1]
      clear e1
      go_wp2
      go_ret
      exact ⟨rfl, Below.refl _ _⟩

/-- Rules and keys that are looked at. -/
def Lt (rs : List Rule) (s : ByteArray) : Prop := rs.length ≤ 600 ∧ s.size ≤ 200 ∧ ∀ r ∈ rs, r.k.size ≤ 40 ∧ r.o.size ≤ 40 ∧ r.n.size ≤ 40
theorem Lt.short {rs : List Rule} {s : ByteArray} (h : Lt rs s) : ∀ r ∈ rs, Short r := fun r hr => by
  have := h.2.2 r hr
  exact ⟨by omega, by omega, by omega⟩
def LightPost (rs : List Rule) (s : ByteArray) (w : World) (e : Ending) (w' : World) : Prop := ∃ x, e = .returned (.bool x) ∧ w' = w ∧ (x = true ↔ Lt rs s)
/-! ### New, by cases -/
theorem new_no {v : Value} {rs : List Rule} {w : World} (hR : RowR w v rs) (hs : ∀ r ∈ rs, Short r) (hc : checkL rs ≠ 0) :
    Calls Tryz.prog 6 #[v] w fun e w' => e = .returned (.tuple #[.pointer none, .int .i64 (checkL rs)]) ∧ Below w.heap.size w w' := by
  refine (new_any v rs w hR hs).mono ?_
  rintro e w' ⟨hb, ⟨_, h⟩ | ⟨h, _⟩⟩
  · exact ⟨h, hb⟩
  · exact absurd h hc
theorem new_yes {v : Value} {rs : List Rule} {w : World} (hR : RowR w v rs) (hs : ∀ r ∈ rs, Short r) (hc : checkL rs = 0) :
    Calls Tryz.prog 6 #[v] w fun e w' => ∃ a, e = .returned (.tuple #[.pointer (some ⟨a, 0, none⟩), .int .i64 0]) ∧ AutoAt w'.heap.size w' a rs ∧ Below w.heap.size w w' := by
  refine (new_any v rs w hR hs).mono ?_
  rintro e w' ⟨hb, ⟨h, _⟩ | ⟨_, a, rfl, hA, _⟩⟩
  · exact absurd hc h
  · exact ⟨a, rfl, hA, hb⟩
theorem ba_app (a b : By) : ba (a ++ b) = ba a ++ ba b := ba_ext (by rw [ByteArray.data_append, Array.toList_append]; rfl)
theorem bs_app2 (a b : ByteArray) : bs (a ++ b) = bs a ++ bs b := by unfold bs; rw [ByteArray.data_append, Array.toList_append]
theorem u8_bounds {x : Int} (h : (Lit.int .u8 x).wf = true) : 0 ≤ x ∧ x < 256 := by
  simp only [Lit.wf, Bool.and_eq_true, decide_eq_true_eq] at h
  have h1 : IntKind.u8.min = 0 := rfl
  have h2 : IntKind.u8.max = 255 := rfl
  omega
theorem u8_of {x : Int} (h : (Lit.int .u8 x).wf = true) : ∃ c : UInt8, x = (c.toNat : Int) := by
  obtain ⟨h0, h1⟩ := u8_bounds h
  exact ⟨UInt8.ofNat x.toNat, by rw [toNat_ofNat _ (by omega)]; omega⟩

end Go.Proofs.YtamdlbefiggkfaaGreat.Aut
