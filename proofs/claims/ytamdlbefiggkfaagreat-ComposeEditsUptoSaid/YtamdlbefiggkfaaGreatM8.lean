/-
  Joined texts: CmpH, AutR, CmpI.
-/
import Derived.Test.YtamdlbefiggkfaaGreatM7
import Derived.Test.YtamdlbefiggkfaaGreatM6
import Derived.Deep.RegionHeld3
set_option linter.unusedVariables false
set_option linter.unusedSimpArgs false
set_option maxRecDepth 100000
namespace Go.Proofs.YtamdlbefiggkfaaGreat.Cmp
open Go Go.RowKit Go.Proofs.YtamdlbefiggkfaaGreat.Kit Go.Proofs.YtamdlbefiggkfaaGreat.Utf Go.Proofs.YtamdlbefiggkfaaGreat.Rom Go.Proofs.YtamdlbefiggkfaaGreat.Aut

abbrev zeroBuf : Obj := Obj.cells #[.slice none 0 0, .int .i64 0, .string { data := #[] }] 25
/-- The box of a buffer in block B, the result in block B + 1, the items in a row of the call's own behind them. -/
structure Work (w W : World) (a : Option Addr) (m k : Nat) (b : Bf) : Prop where
  box : W.heap[w.heap.size]? = some (Obj.cells #[.slice a m k, .int .i64 b.c, .string b.p] 25)
  res : W.heap[w.heap.size + 1]? = some zeroBuf
  own : W.ownsRow (w.heap.size + 2) 72 2 (.slice a m k) m (ic b.is)
  bel : Below w.heap.size w W
  siz : w.heap.size + 2 ≤ W.heap.size
theorem Work.len {w W : World} {a : Option Addr} {m k : Nat} {b : Bf} (h : Work w W a m k b) : m = b.is.length := (items_of_own h.own).2
theorem Work.items {w W : World} {a : Option Addr} {m k : Nat} {b : Bf} (h : Work w W a m k b) : ItR W (.slice a m k) b.is := (items_of_own h.own).1
theorem Work.later {w W W' : World} {a : Option Addr} {m k : Nat} {b : Bf} (h : Work w W a m k b) (hb : Below W.heap.size W W') : Work w W' a m k b :=
  have hs := h.siz
  ⟨by rw [hb.block _ (by omega)]; exact h.box, by rw [hb.block _ (by omega)]; exact h.res, own_later h.own hb, h.bel.trans (hb.mono (by omega)), Nat.le_trans hs hb.size⟩
theorem Work.facts {w W : World} {a : Option Addr} {m k : Nat} {b : Bf} (h : Work w W a m k b) :
    W.cell? ⟨w.heap.size, 0, none⟩ = some (.slice a m k) ∧ W.cell? ⟨w.heap.size, 1, none⟩ = some (.int .i64 b.c) ∧ W.cell? ⟨w.heap.size, 2, none⟩ = some (.string b.p) ∧ (∀ j, W.frozen? ⟨w.heap.size, j, none⟩ = false) ∧
    W.cell? ⟨w.heap.size + 1, 0, none⟩ = some (.slice none 0 0) ∧ W.cell? ⟨w.heap.size + 1, 1, none⟩ = some (.int .i64 0) ∧ W.cell? ⟨w.heap.size + 1, 2, none⟩ = some (.string { data := #[] }) ∧ (∀ j, W.frozen? ⟨w.heap.size + 1, j, none⟩ = false) := by
  refine ⟨?_, ?_, ?_, fun j => frozen_of_row _ _ j _ _ h.box, ?_, ?_, ?_, fun j => frozen_of_row _ _ j _ _ h.res⟩
  · rw [cell_of_row _ _ 0 _ _ _ h.box]; rfl
  · rw [cell_of_row _ _ 1 _ _ _ h.box]; rfl
  · rw [cell_of_row _ _ 2 _ _ _ h.box]; rfl
  · rw [cell_of_row _ _ 0 _ _ _ h.res]; rfl
  · rw [cell_of_row _ _ 1 _ _ _ h.res]; rfl
  · rw [cell_of_row _ _ 2 _ _ _ h.res]; rfl
theorem box_set {W : World} {g : Nat} {x0 x1 x2 y0 y1 y2 : Value} {t : TypeId} (h : W.heap[g]? = some (Obj.cells #[x0, x1, x2] t)) :
    (W.setCell ⟨g, 0, none⟩ y0).heap[g]? = some (Obj.cells #[y0, x1, x2] t) ∧ (W.setCell ⟨g, 1, none⟩ y1).heap[g]? = some (Obj.cells #[x0, y1, x2] t) ∧ (W.setCell ⟨g, 2, none⟩ y2).heap[g]? = some (Obj.cells #[x0, x1, y2] t) :=
  ⟨heap_setCell_same W g 0 _ _ _ h, heap_setCell_same W g 1 _ _ _ h, heap_setCell_same W g 2 _ _ _ h⟩
theorem box_set3 {W : World} {g : Nat} {x0 x1 x2 y0 y1 y2 : Value} {t : TypeId} (h : W.heap[g]? = some (Obj.cells #[x0, x1, x2] t)) :
    (((W.setCell ⟨g, 0, none⟩ y0).setCell ⟨g, 1, none⟩ y1).setCell ⟨g, 2, none⟩ y2).heap[g]? = some (Obj.cells #[y0, y1, y2] t) :=
  (box_set (y0 := y0) (y1 := y1) (y2 := y2) (box_set (y0 := y0) (y1 := y1) (y2 := y2) (box_set (y0 := y0) (y1 := y1) (y2 := y2) h).1).2.1).2.2
theorem Work.caret {w W : World} {a : Option Addr} {m k : Nat} {b : Bf} (h : Work w W a m k b) (c : Int) : Work w (W.setCell ⟨w.heap.size, 1, none⟩ (.int .i64 c)) a m k { b with c := c } :=
  have hs := h.siz
  ⟨(box_set (y0 := .int .i64 0) (y2 := .int .i64 0) h.box).2.1, by rw [heap_setCell_other _ _ _ _ (by show w.heap.size + 1 ≠ w.heap.size; omega)]; exact h.res, ownsRow_setCell_below h.own (by show w.heap.size < _; omega) _, Below.setCell h.bel (Nat.le_refl _) _, by simp; exact hs⟩
theorem Work.pend {w W : World} {a : Option Addr} {m k : Nat} {b : Bf} (h : Work w W a m k b) (p : ByteArray) : Work w (W.setCell ⟨w.heap.size, 2, none⟩ (.string p)) a m k { b with p := p } :=
  have hs := h.siz
  ⟨(box_set (y0 := .int .i64 0) (y1 := .int .i64 0) h.box).2.2, by rw [heap_setCell_other _ _ _ _ (by show w.heap.size + 1 ≠ w.heap.size; omega)]; exact h.res, ownsRow_setCell_below h.own (by show w.heap.size < _; omega) _, Below.setCell h.bel (Nat.le_refl _) _, by simp; exact hs⟩
/-- New items of the call's own in the box. -/
theorem Work.put {w W W' : World} {a a' : Option Addr} {m k m' k' : Nat} {b : Bf} {is : List It} (h : Work w W a m k b) (hb : Below (w.heap.size + 2) W W') (ho : W'.ownsRow (w.heap.size + 2) 72 2 (.slice a' m' k') m' (ic is)) : Work w (W'.setCell ⟨w.heap.size, 0, none⟩ (.slice a' m' k')) a' m' k' { b with is := is } :=
  have hs := h.siz
  have hs' := hb.size
  ⟨(box_set (y1 := .int .i64 0) (y2 := .int .i64 0) ((hb.block w.heap.size (by omega)).trans h.box)).1, by rw [heap_setCell_other _ _ _ _ (by show w.heap.size + 1 ≠ w.heap.size; omega), hb.block _ (by omega)]; exact h.res, ownsRow_setCell_below ho (by show w.heap.size < _; omega) _, Below.setCell (h.bel.trans (hb.mono (by omega))) (Nat.le_refl _) _, by simp; omega⟩
/-- The result is written and loaded. -/
theorem Work.fin {w W : World} {a : Option Addr} {m k : Nat} {b : Bf} (h : Work w W a m k b) :
    ∃ W', W' = (((W.setCell ⟨w.heap.size + 1, 0, none⟩ (.slice a m k)).setCell ⟨w.heap.size + 1, 1, none⟩ (.int .i64 b.c)).setCell ⟨w.heap.size + 1, 2, none⟩ (.string b.p)) ∧ (loadVar 25 ⟨w.heap.size + 1, 0, none⟩).run Tryz.prog W' = .ok (.agg #[.slice a m k, .int .i64 b.c, .string b.p]) W' ∧
      W'.ownsRow w.heap.size 72 2 (.slice a m k) b.is.length (ic b.is) ∧ Below w.heap.size w W' := by
  obtain ⟨e0, e1, e2, ef, r0, r1, r2, rf⟩ := h.facts
  obtain ⟨q0, q1, q2⟩ := three_set (w := W) (g := w.heap.size + 1) (x := .slice a m k) (y := .int .i64 b.c) (z := .string b.p) (by rw [r0]; rfl) (by rw [r1]; rfl) (by rw [r2]; rfl)
  refine ⟨_, rfl, load_buf q0 q1 q2, ?_, ?_⟩
  · have ho := h.own
    rw [← h.len]
    exact own_base (ownsRow_setCell_below (ownsRow_setCell_below (ownsRow_setCell_below ho (by show w.heap.size + 1 < _; omega) _) (by show w.heap.size + 1 < _; omega) _) (by show w.heap.size + 1 < _; omega) _) (by omega)
  · exact Below.setCell (Below.setCell (Below.setCell h.bel (by show _ ≤ w.heap.size + 1; omega) _) (by show _ ≤ w.heap.size + 1; omega) _) (by show _ ≤ w.heap.size + 1; omega) _

/-- The box and the result, just laid. -/
theorem start_work {w : World} {s : Value} {c : Int} {p : ByteArray} {W : World} (hW : (w.alloc (Obj.cells #[s, .int .i64 c, .string p] 25)).alloc zeroBuf = W) :
    W.heap[w.heap.size]? = some (Obj.cells #[s, .int .i64 c, .string p] 25) ∧ W.heap[w.heap.size + 1]? = some zeroBuf ∧ Below w.heap.size w W ∧ W.heap.size = w.heap.size + 2 := by
  subst hW
  have e1 := heap_alloc_new w (Obj.cells #[s, .int .i64 c, .string p] 25)
  have s1 : (w.alloc (Obj.cells #[s, .int .i64 c, .string p] 25)).heap.size = w.heap.size + 1 := by simp
  have e2 := heap_alloc_new (w.alloc (Obj.cells #[s, .int .i64 c, .string p] 25)) zeroBuf
  rw [s1] at e2
  rw [← Below.heap_alloc _ zeroBuf _ (by simp)] at e1
  exact ⟨e1, e2, ((Below.refl _ _).alloc (Nat.le_refl _) _).alloc (by simp) _, by simp⟩
/-- The copy of a buffer is laid into the box. -/
theorem copy_work {w W W5 : World} {s : Value} {a : Option Addr} {m k : Nat} {b : Bf} (h1 : W.heap[w.heap.size]? = some (Obj.cells #[s, .int .i64 b.c, .string b.p] 25)) (h2 : W.heap[w.heap.size + 1]? = some zeroBuf) (h3 : Below w.heap.size w W) (h4 : W.heap.size = w.heap.size + 2)
    (ho : W5.ownsRow W.heap.size 72 2 (.slice a m k) b.is.length (ic b.is)) (hb : Below W.heap.size W W5) :
    Work w (((W5.setCell ⟨w.heap.size, 0, none⟩ (.slice a m k)).setCell ⟨w.heap.size, 1, none⟩ (.int .i64 b.c)).setCell ⟨w.heap.size, 2, none⟩ (.string b.p)) a m k b := by
  have hm : m = b.is.length := by
    rcases ho.2 with ⟨e, e0⟩ | ⟨g, c, cur, e, _⟩
    · cases e; exact e0.symm
    · cases e; rfl
  rw [h4] at ho
  have hs := hb.size
  refine ⟨box_set3 ((hb.block w.heap.size (by omega)).trans h1), ?_, ?_, ?_, ?_⟩
  · rw [heap_setCell_other _ _ _ _ (by show w.heap.size + 1 ≠ w.heap.size; omega), heap_setCell_other _ _ _ _ (by show w.heap.size + 1 ≠ w.heap.size; omega), heap_setCell_other _ _ _ _ (by show w.heap.size + 1 ≠ w.heap.size; omega)]
    exact (hb.block _ (by omega)).trans h2
  · rw [hm]
    exact ownsRow_setCell_below (ownsRow_setCell_below (ownsRow_setCell_below (hm ▸ ho) (by show w.heap.size < _; omega) _) (by show w.heap.size < _; omega) _) (by show w.heap.size < _; omega) _
  · exact Below.setCell (Below.setCell (Below.setCell (h3.trans (hb.mono (by omega))) (Nat.le_refl _) _) (Nat.le_refl _) _) (Nat.le_refl _) _
  · simp; omega

/-- What Check answers. -/
def chkB (b : Bf) : Int := if val b then 0 else 1
theorem check_any (b : Bf) (v : Value) (w : World) (hR : BfR w v b) (hsh : Sh b) :
    Calls Tryz.prog 24 #[v] w fun e w' => e = .returned (.int .i64 (chkB b)) ∧ Below w.heap.size w w' := by
  obtain ⟨a, len, cap, rfl, hI⟩ := hR.open
  have HV := Lib.hid (fun W (hI : ItR W (.slice a len cap) b.is) => valid_any b (.slice a len cap) W hI hsh)
  have HI := Lib.hid (hI.later ((Below.refl w.heap.size w).alloc (Nat.le_refl _) (Obj.cells #[.slice a len cap, .int .i64 b.c, .string b.p] 25)) (Nat.le_refl _))
  unfold chkB
  clear hR hI hsh
  obtain ⟨is, c, p⟩ := b
  simp only at *
  cases hv : val ⟨is, c, p⟩
  · rw [hv] at HV
    clear hv
    go_enter Tryz.func24, Tryz.ntmps24
    go_wp2_with (go_at_call 30; (with_reducible refine (HV.out _ HI.out).mono ?_); rintro e w1 ⟨rfl, hb1⟩)
    go_ret
    exact ⟨rfl, ((Below.refl _ _).alloc (Nat.le_refl _) _).trans (hb1.mono (by simp))⟩
  · rw [hv] at HV
    clear hv
    go_enter Tryz.func24, Tryz.ntmps24
    go_wp2_with (go_at_call 30; (with_reducible refine (HV.out _ HI.out).mono ?_); rintro e w1 ⟨rfl, hb1⟩)
    go_ret
    exact ⟨rfl, ((Below.refl _ _).alloc (Nat.le_refl _) _).trans (hb1.mono (by simp))⟩

end Go.Proofs.YtamdlbefiggkfaaGreat.Cmp

set_option linter.unusedVariables false
set_option linter.unusedSimpArgs false
set_option maxRecDepth 100000
namespace Go.Proofs.YtamdlbefiggkfaaGreat.Aut
open Go Go.RowKit Go.Proofs.YtamdlbefiggkfaaGreat.Kit Go.Proofs.YtamdlbefiggkfaaGreat.Utf Go.Proofs.YtamdlbefiggkfaaGreat.Rom

theorem ext_take (s : ByteArray) (n : Nat) : s.extract 0 n = ba ((bs s).take n) := ba_ext (by simp [bs, ba, ByteArray.data_extract])
theorem ext_drop (s : ByteArray) (n : Nat) : s.extract n s.size = ba ((bs s).drop n) := ba_ext (by
  simp only [bs, ba, ByteArray.data_extract, Array.toList_extract]
  rw [List.extract_eq_take_drop, List.take_of_length_le]
  rw [List.length_drop, Array.length_toList]; exact Nat.le_refl _)
theorem best_stop {rs : List Rule} {s : By} {n : Nat} (h : longL rs (ba (s.take n)) = false) : ∀ (m : Nat), n ≤ m → m ≤ s.length → bestN rs s m = bestN rs s n := by
  intro m
  induction m with
  | zero => intro h1 _; obtain rfl : n = 0 := by omega
            rfl
  | succ m ih =>
    intro h1 h2
    by_cases e : n = m + 1
    · rw [e]
    · rw [← ih (by omega) (by omega)]
      conv => lhs; unfold bestN
      rw [if_neg]
      intro hf
      obtain ⟨h3, h4⟩ := findL_yes hf
      unfold longL at h
      rw [List.any_eq_false] at h
      apply h _ h3
      unfold longR
      rw [Bool.and_eq_true, decide_eq_true_eq, List.isPrefixOf_iff_prefix, h4, ba_size, ba_size, bs_ba, bs_ba]
      refine ⟨by simp only [List.length_take]; omega, ?_⟩
      exact List.take_prefix_take_left (by omega)

/-- The rule that is applied, if need be the one that writes the first key. -/
def ruleX (rs : List Rule) (s : ByteArray) (n : Nat) : Rule := (bestN rs (bs s) n).getD ⟨s.extract 0 1, s.extract 0 1, ⟨#[]⟩⟩

set_option maxHeartbeats 4000000 in
theorem rule_any (B a : Nat) (rs : List Rule) (s : ByteArray) (w : World) (hA : AutoAt B w a rs) (hB : B ≤ w.heap.size) (h0 : 0 < s.size) (hs : s.size ≤ 70368744177664) :
    Calls Tryz.prog 86 #[.pointer (some ⟨a, 0, none⟩), .string s] w fun e w' => e = .returned (ragg (ruleX rs s s.size)) ∧ Below w.heap.size w w' := by
  have HA := Lib.hid hA
  have k1 : (1 : Int) ≤ s.size := by omega
  clear hA
  go_enter Tryz.func86, Tryz.ntmps86
  go_wp2
  go_region
  obtain ⟨W, hW⟩ : ∃ W, ((w.alloc (Obj.cells #[Value.string { data := #[] }, Value.string { data := #[] }, Value.string { data := #[] }] 64)).alloc (Obj.cells #[Value.string (s.extract 0 1), Value.string (s.extract 0 1), Value.string { data := #[] }] 64)).drew = W := ⟨_, rfl⟩
  have hb0 : Below w.heap.size w W := by rw [← hW]; exact (((Below.refl _ _).alloc (Nat.le_refl _) _).alloc (by simp) _).drew
  have hWs : W.heap.size = w.heap.size + 2 := by rw [← hW]; simp
  have e1 : W.heap[w.heap.size]? = some (Obj.cells #[Value.string { data := #[] }, Value.string { data := #[] }, Value.string { data := #[] }] 64) := by
    rw [← hW]; exact (heap_two w _ _).1
  have e2 : W.heap[w.heap.size + 1]? = some (Obj.cells #[Value.string (s.extract 0 1), Value.string (s.extract 0 1), Value.string { data := #[] }] 64) := by
    rw [← hW]; exact (heap_two w _ _).2
  rw [hW]
  have HV := Lib.hid (Var3.of e1)
  have f0 : W.cell? ⟨w.heap.size + 1, 0, none⟩ = some (.string (ruleX rs s 0).k) := by rw [cell_of_row W _ 0 _ _ _ e2]; rfl
  have f1 : W.cell? ⟨w.heap.size + 1, 1, none⟩ = some (.string (ruleX rs s 0).o) := by rw [cell_of_row W _ 1 _ _ _ e2]; rfl
  have f2 : W.cell? ⟨w.heap.size + 1, 2, none⟩ = some (.string (ruleX rs s 0).n) := by rw [cell_of_row W _ 2 _ _ _ e2]; rfl
  have f3 : ∀ j, W.frozen? ⟨w.heap.size + 1, j, none⟩ = false := fun j => by unfold World.frozen?; rw [show W.heap[(⟨w.heap.size + 1, j, none⟩ : Addr).block]? = _ from e2]; simp
  obtain ⟨g, hg⟩ : ∃ g, w.heap.size = g := ⟨_, rfl⟩
  rw [hg] at hb0 hWs HV f0 f1 f2 f3 hB ⊢
  have HAW := Lib.hid (HA.out.later hb0 hB)
  clear hW e1 e2
  go_wp2
  go_loopw [6] (fun i wr => ∃ n : Nat, i = .int .i64 n ∧ 1 ≤ n ∧ n ≤ s.size + 1 ∧ Below (g + 1) W wr ∧ g + 2 ≤ wr.heap.size ∧ wr.cell? ⟨g + 1, 0, none⟩ = some (.string (ruleX rs s (n - 1)).k) ∧ wr.cell? ⟨g + 1, 1, none⟩ = some (.string (ruleX rs s (n - 1)).o) ∧ wr.cell? ⟨g + 1, 2, none⟩ = some (.string (ruleX rs s (n - 1)).n) ∧ ∀ j, wr.frozen? ⟨g + 1, j, none⟩ = false) (fun i _ => s.size + 1 - (intOf i).toNat)
  case atStart => exact ⟨1, rfl, Nat.le_refl _, by omega, Below.refl _ _, by omega, f0, f1, f2, f3⟩
  case round =>
    obtain ⟨n, rfl, hn1, hn2, hbw, hws, c0, c1, c2, c3⟩ := hrel
    by_cases hnl : n ≤ s.size
    · have hAr := HAW.out.later (B' := g + 1) hbw (by omega)
      obtain ⟨br, bl, ca0, ca1, haB, hq1, hq2⟩ := hAr.use
      have hml : (s.extract 0 n).size ≤ maxLen := by rw [ByteArray.size_extract]; unfold maxLen; omega
      have hbB : ∀ o, Below B wr ((wr.alloc o).drew) := fun o => ((Below.refl _ _).alloc (by omega) o).drew
      obtain ⟨F, hF⟩ : ∃ F, (if (findL rs (s.extract 0 n)).2 then (findL rs (s.extract 0 n)).1 else noRule) = F := ⟨_, rfl⟩
      obtain ⟨ok, hok⟩ : ∃ ok, (findL rs (s.extract 0 n)).2 = ok := ⟨_, rfl⟩
      obtain ⟨lg, hlg⟩ : ∃ lg, longL rs (s.extract 0 n) = lg := ⟨_, rfl⟩
      have hl0 := fun o => hq1.out (s.extract 0 n) hml _ (hbB o)
      have hl1 := hq1.out (s.extract 0 n) hml _ (Below.refl B wr).drew
      rw [hF, hok] at hl0 hl1
      unfold ragg at hl0 hl1
      have cb0 := fun o => (hbB o).cell (p := ⟨a, 0, none⟩) haB
      rw [ca0] at cb0
      have n0 : (0 : Int) ≤ n := by omega
      have n1 : (n : Int) ≤ s.size := by omega
      have hx0 : (s.extract 0 n).size ≠ 0 := by rw [ByteArray.size_extract]; omega
      have hstep : ruleX rs s n = if ok then F else ruleX rs s (n - 1) := by
        obtain ⟨m, rfl⟩ : ∃ m, n = m + 1 := ⟨n - 1, by omega⟩
        unfold ruleX
        conv => lhs; unfold bestN
        rw [← ext_take, hok]
        cases ok
        · rfl
        · rw [if_pos rfl, if_pos rfl, ← hF, hok]; rfl
      have hstop : lg = false → ruleX rs s s.size = ruleX rs s n := fun h => by
        unfold ruleX
        rw [best_stop (n := n) (by rw [← ext_take, hlg, h]) s.size hnl (by rw [bs_len]; exact Nat.le_refl _)]
      have HST := Lib.hid hstep
      have HSP := Lib.hid hstop
      have HQ2 := Lib.hid (hq2.out (s.extract 0 n) hml hx0)
      rw [hlg] at HQ2
      clear hbB hF hok hlg hstep hstop hx0 hq1 hq2
      generalize ruleX rs s (n - 1) = X at *
      obtain ⟨fk, fo, fn⟩ := F
      go_wp2
      go_region
      obtain ⟨V, hV⟩ : ∃ V, (wr.alloc (Obj.cells #[Value.string fk, Value.string fo, Value.string fn] 64)).drew = V := ⟨_, rfl⟩
      have hVb : Below wr.heap.size wr V := by rw [← hV]; exact ((Below.refl _ _).alloc (Nat.le_refl _) _).drew
      have hVs : V.heap.size = wr.heap.size + 1 := by rw [← hV]; simp
      have e3 : V.heap[wr.heap.size]? = some (Obj.cells #[Value.string fk, Value.string fo, Value.string fn] 64) := by rw [← hV]; exact heap_alloc_new wr _
      have d0 : V.cell? ⟨wr.heap.size, 0, none⟩ = some (.string fk) := by rw [cell_of_row V _ 0 _ _ _ e3]; rfl
      have d1 : V.cell? ⟨wr.heap.size, 1, none⟩ = some (.string fo) := by rw [cell_of_row V _ 1 _ _ _ e3]; rfl
      have d2 : V.cell? ⟨wr.heap.size, 2, none⟩ = some (.string fn) := by rw [cell_of_row V _ 2 _ _ _ e3]; rfl
      rw [hV]
      rw [← hVb.cell (p := ⟨g + 1, 0, none⟩) (by show g + 1 < _; omega)] at c0
      rw [← hVb.cell (p := ⟨g + 1, 1, none⟩) (by show g + 1 < _; omega)] at c1
      rw [← hVb.cell (p := ⟨g + 1, 2, none⟩) (by show g + 1 < _; omega)] at c2
      rw [← hVb.cell (p := ⟨a, 1, none⟩) (by show a < _; omega)] at ca1
      have c3 : ∀ j, V.frozen? ⟨g + 1, j, none⟩ = false := fun j => by rw [hVb.frozen (by show g + 1 < _; omega)]; exact c3 j
      have hbV : Below (g + 1) W V := hbw.trans (hVb.mono (by omega))
      have HQ3 : Hid (∀ W, Below (g + 1) V W → (Instr.lookup 60 (.map (some bl)) (.string (s.extract 0 n)) false).run Tryz.prog W = .ok (.bool lg) W) := Lib.hid fun W h => HQ2.out W ((hVb.mono (by omega)).trans (h.mono (by omega)))
      clear hV e3 hl0 hl1 cb0 HQ2 ca0 hVb hbw f0 f1 f2 f3
      have HST := Lib.hid HST.out.symm
      have tail : ∀ (V3 : World) (Y : Rule), Below (g + 1) V V3 → V3.cell? ⟨g + 1, 0, none⟩ = some (.string Y.k) → V3.cell? ⟨g + 1, 1, none⟩ = some (.string Y.o) → V3.cell? ⟨g + 1, 2, none⟩ = some (.string Y.n) → V3.cell? ⟨a, 1, none⟩ = some (.map (some bl)) ∧ (Instr.lookup 60 (.map (some bl)) (.string (s.extract 0 n)) false).run Tryz.prog V3.drew = .ok (.bool lg) V3.drew := fun V3 Y h1 _ _ _ => ⟨by rw [h1.cell (by show a < _; omega)]; exact ca1, HQ3.out _ h1.drew⟩
      cases ok
      · have hq4 := HQ3.out _ (Below.refl _ V).drew
        have HY := Lib.hid (show ruleX rs s n = X from HST.out.symm)
        cases lg
        · have hv := HV.out.later (B := g + 1) (w' := V.drew) hbV.drew (by omega)
          have hw := HV.out.later (B := g + 1) (w' := V) hbV (by omega)
          have v0 := hw.z0
          have v1 := hw.z1
          have v2 := hw.z2
          have v3 := hw.y
          go_wp2
          go_region
          go_wp2
          (try simp only [Exit.inBlock, Exit.then])
          have HE : ruleX rs s s.size = X := by rw [HSP.out (by first | rfl | trivial), HY.out]
          rw [HE]
          refine bodyPost_ret (v := ragg X) ?_ rfl ⟨rfl, by rw [hg]; exact (below_set3 (hb0.trans (hbV.mono (by omega))) (Nat.le_refl _) _ _ _).drew⟩
          rw [results_cell1 rfl]
          obtain ⟨q0, q1, q2⟩ := hw.set X
          show ((loadVar 64 ⟨g, 0, none⟩).run Tryz.prog _) = _
          refine load_rule (r := X) ?_ ?_ ?_
          · exact q0
          · exact q1
          · exact q2
        · go_wp2
          go_region
          go_wp2
          go_roundw
          case rel => exact ⟨n + 1, by go_num, by omega, by omega, hbV.drew, by show g + 2 ≤ V.heap.size; omega, by rw [Nat.add_sub_cancel, HY.out]; exact c0, by rw [Nat.add_sub_cancel, HY.out]; exact c1, by rw [Nat.add_sub_cancel, HY.out]; exact c2, c3⟩
          case measure => simp [intOf]; omega
      · have HY := Lib.hid (show ruleX rs s n = ⟨fk, fo, fn⟩ from HST.out.symm)
        obtain ⟨p0, p1, p2⟩ := three_set (w := V) (g := g + 1) (x := .string fk) (y := .string fo) (z := .string fn) (by rw [c0]; rfl) (by rw [c1]; rfl) (by rw [c2]; rfl)
        have hb3 : Below (g + 1) V (((V.setCell ⟨g + 1, 0, none⟩ (.string fk)).setCell ⟨g + 1, 1, none⟩ (.string fo)).setCell ⟨g + 1, 2, none⟩ (.string fn)) := below_set3 (Below.refl _ _) (Nat.le_refl _) _ _ _
        have y3 : ∀ j, (((V.setCell ⟨g + 1, 0, none⟩ (.string fk)).setCell ⟨g + 1, 1, none⟩ (.string fo)).setCell ⟨g + 1, 2, none⟩ (.string fn)).frozen? ⟨g + 1, j, none⟩ = false := fun j => by simp [c3]
        have s3 : V.heap.size ≤ (((V.setCell ⟨g + 1, 0, none⟩ (.string fk)).setCell ⟨g + 1, 1, none⟩ (.string fo)).setCell ⟨g + 1, 2, none⟩ (.string fn)).heap.size := by simp
        have hq4 := HQ3.out _ hb3.drew
        have ca3 := (hb3.cell (p := ⟨a, 1, none⟩) (by show a < _; omega)).trans ca1
        have HP := Lib.hid (And.intro p0 (And.intro p1 p2))
        have HB3 := Lib.hid hb3
        have Y3 := Lib.hid y3
        have S3 := Lib.hid s3
        clear hb3 y3 s3 p0 p1 p2
        generalize hV3 : (((V.setCell ⟨g + 1, 0, none⟩ (.string fk)).setCell ⟨g + 1, 1, none⟩ (.string fo)).setCell ⟨g + 1, 2, none⟩ (.string fn)) = V3 at hq4 ca3 HP HB3 Y3 S3
        have HV3 := Lib.hid hV3
        clear hV3
        go_wp2
        rw [HV3.out]
        obtain ⟨p0, p1, p2⟩ := HP.out
        have b3 := HB3.out
        have y3 := Y3.out
        have s3 := S3.out
        cases lg
        · have hv := HV.out.later (B := g + 1) (w' := V3.drew) (hbV.trans b3).drew (by omega)
          have hw := HV.out.later (B := g + 1) (w' := V3) (hbV.trans b3) (by omega)
          have v0 := hw.z0
          have v1 := hw.z1
          have v2 := hw.z2
          have v3 := hw.y
          go_wp2
          go_region
          go_wp2
          (try simp only [Exit.inBlock, Exit.then])
          have HE : ruleX rs s s.size = ⟨fk, fo, fn⟩ := by rw [HSP.out (by first | rfl | trivial), HY.out]
          rw [HE]
          refine bodyPost_ret (v := ragg ⟨fk, fo, fn⟩) ?_ rfl ⟨rfl, by rw [hg]; exact (below_set3 (hb0.trans ((hbV.trans b3).mono (by omega))) (Nat.le_refl _) _ _ _).drew⟩
          rw [results_cell1 rfl]
          obtain ⟨q0, q1, q2⟩ := hw.set ⟨fk, fo, fn⟩
          show ((loadVar 64 ⟨g, 0, none⟩).run Tryz.prog _) = _
          refine load_rule (r := ⟨fk, fo, fn⟩) ?_ ?_ ?_
          · exact q0
          · exact q1
          · exact q2
        · go_region
          go_wp2
          go_roundw
          case rel => exact ⟨n + 1, by go_num, by omega, by omega, (hbV.trans b3).drew, by show g + 2 ≤ V3.heap.size; omega, by rw [Nat.add_sub_cancel, HY.out]; exact p0, by rw [Nat.add_sub_cancel, HY.out]; exact p1, by rw [Nat.add_sub_cancel, HY.out]; exact p2, y3⟩
          case measure => simp [intOf]; omega
    · obtain rfl : n = s.size + 1 := by omega
      rw [Nat.add_sub_cancel] at c0 c1 c2
      have hv := HV.out.later (B := g + 1) hbw (by omega)
      have v0 := hv.z0
      have v1 := hv.z1
      have v2 := hv.z2
      have v3 := hv.y
      have HE := Lib.hid (show ruleX rs s s.size = ruleX rs s s.size from rfl)
      obtain ⟨Y, hY⟩ : ∃ Y, ruleX rs s s.size = Y := ⟨_, rfl⟩
      rw [hY] at c0 c1 c2
      have HY := Lib.hid hY
      clear f0 f1 f2 f3 hY
      go_wp2
      (try simp only [Exit.inBlock, Exit.then])
      rw [HY.out]
      refine bodyPost_ret (v := ragg Y) ?_ rfl ⟨rfl, (below_set3 (hb0.trans (hbw.mono (by omega))) (Nat.le_refl _) _ _ _)⟩
      rw [results_cell1 rfl]
      obtain ⟨q0, q1, q2⟩ := hv.set Y
      show ((loadVar 64 ⟨g, 0, none⟩).run Tryz.prog _) = _
      refine load_rule (r := Y) ?_ ?_ ?_
      · exact q0
      · exact q1
      · exact q2

end Go.Proofs.YtamdlbefiggkfaaGreat.Aut

set_option linter.unusedVariables false
set_option linter.unusedSimpArgs false
set_option maxRecDepth 100000
namespace Go.Proofs.YtamdlbefiggkfaaGreat.Cmp
open Go Go.RowKit Go.Proofs.YtamdlbefiggkfaaGreat.Kit Go.Proofs.YtamdlbefiggkfaaGreat.Utf Go.Proofs.YtamdlbefiggkfaaGreat.Rom Go.Proofs.YtamdlbefiggkfaaGreat.Aut

/-- What a call hands back that returns a buffer in new memory. -/
def NewB (b : Bf) (w : World) (e : Ending) (w' : World) : Prop :=
  ∃ a m k, e = .returned (.agg #[.slice a m k, .int .i64 b.c, .string b.p]) ∧ w'.ownsRow w.heap.size 72 2 (.slice a m k) b.is.length (ic b.is) ∧ Below w.heap.size w w'
theorem newB_read {b : Bf} {w : World} {e : Ending} {w' : World} (h : NewB b w e w') : ∃ v, e = .returned v ∧ BfR w' v b ∧ Below w.heap.size w w' := by
  obtain ⟨a, m, k, rfl, ho, hb⟩ := h
  exact ⟨_, rfl, ⟨_, rfl, (items_of_own ho).1⟩, hb⟩
theorem copied_new (b : Bf) (s : Value) (w : World) (hR : ItR w s b.is) (hsh : Sh b) :
    Calls Tryz.prog 44 #[.agg #[s, .int .i64 b.c, .string b.p]] w (NewB b w) := by
  refine (copied_any b s w hR hsh).mono ?_
  rintro e w' ⟨v, rfl, ho, hb⟩
  obtain ⟨a, m, k, rfl⟩ := slice_of_own ho
  exact ⟨a, m, k, rfl, ho, hb⟩

theorem box_facts {W : World} {g : Nat} {x0 x1 x2 : Value} {t : TypeId} (h : W.heap[g]? = some (Obj.cells #[x0, x1, x2] t)) :
    W.cell? ⟨g, 0, none⟩ = some x0 ∧ W.cell? ⟨g, 1, none⟩ = some x1 ∧ W.cell? ⟨g, 2, none⟩ = some x2 ∧ ∀ j, W.frozen? ⟨g, j, none⟩ = false := by
  refine ⟨?_, ?_, ?_, fun j => frozen_of_row _ _ j _ _ h⟩
  · rw [cell_of_row _ _ 0 _ _ _ h]; rfl
  · rw [cell_of_row _ _ 1 _ _ _ h]; rfl
  · rw [cell_of_row _ _ 2 _ _ _ h]; rfl

set_option maxHeartbeats 4000000 in
theorem move_any (b : Bf) (n : Int) (v : Value) (w : World) (hR : BfR w v b) (hsh : Sh b) (hn : (Lit.int .i64 n).wf = true) :
    Calls Tryz.prog 21 #[v, .int .i64 n] w (NewB (movB b n) w) := by
  obtain ⟨a, len, cap, rfl, hI⟩ := hR.open
  have HV := Lib.hid (fun s W (hI : ItR W s b.is) => valid_any b s W hI hsh)
  have HC := Lib.hid (fun s W (hI : ItR W s b.is) => copied_new b s W hI hsh)
  have HI := Lib.hid (fun (W : World) (h : Below w.heap.size w W) => hI.later h (Nat.le_refl _))
  have hvp := @val_parts b
  unfold movB
  clear hR hI hsh
  obtain ⟨is, c, p⟩ := b
  simp only at *
  cases hv : val ⟨is, c, p⟩
  · rw [hv] at HV
    clear hv hvp
    simp only [Bool.false_and, Bool.false_eq_true, if_false]
    go_enter Tryz.func21, Tryz.ntmps21
    go_wp2_with (first
      | (go_at_call 44; obtain ⟨W, hW⟩ : ∃ W, (w.alloc (Obj.cells #[.slice a len cap, .int .i64 c, .string p] 25)).alloc zeroBuf = W := ⟨_, rfl⟩; rw [hW]; obtain ⟨h1, h2, h3, h4⟩ := start_work hW; clear hW; (with_reducible refine (HC.out _ W (HI.out W h3)).mono ?_); rintro e w5 ⟨a5, m5, k5, rfl, ho5, hb5⟩; have wk5 := Lib.hid (copy_work (b := ⟨is, c, p⟩) h1 h2 h3 h4 ho5 hb5); obtain ⟨g0, g1, g2, g3⟩ := box_facts ((hb5.block w.heap.size (by omega)).trans h1); clear ho5 hb5 h1 h2 h3 h4)
      | (go_at_call 30; obtain ⟨W6, hW6⟩ : ∃ W6, (((w5.setCell ⟨w.heap.size, 0, none⟩ (.slice a5 m5 k5)).setCell ⟨w.heap.size, 1, none⟩ (.int .i64 c)).setCell ⟨w.heap.size, 2, none⟩ (.string p)) = W6 := ⟨_, rfl⟩; rw [hW6]; have wk6 := wk5.out; rw [hW6] at wk6; (with_reducible refine (HV.out _ W6 wk6.items).mono ?_); rintro e w7 ⟨rfl, hb7⟩; have wk7 := wk6.later hb7; clear hW6 wk5 g0 g1 g2 g3; obtain ⟨c0, c1, c2, cf, r0, r1, r2, rf⟩ := wk7.facts; dsimp only at c1 c2; have HWK := Lib.hid wk7; clear wk6 wk7 hb7))
    obtain ⟨W9, hW9, hld, how, hbw⟩ := HWK.out.fin
    dsimp only at hW9 hld how
    rw [← hW9]
    refine bodyPost_ret (v := .agg #[.slice a5 m5 k5, .int .i64 c, .string p]) ?_ rfl ⟨a5, m5, k5, rfl, how, hbw⟩
    rw [results_cell1 rfl]
    exact hld
  obtain ⟨v1, v2, v3, _, v5, _⟩ := hvp hv
  rw [hv] at HV
  by_cases hp : p.size = 0
  rotate_left
  · have he := empty_str p
    rw [decide_eq_false hp] at he
    rw [decide_eq_false hp]
    clear hv hvp
    simp only [Bool.and_false, Bool.false_eq_true, if_false]
    go_enter Tryz.func21, Tryz.ntmps21
    go_wp2_with (first
      | (go_at_call 44; obtain ⟨W, hW⟩ : ∃ W, (w.alloc (Obj.cells #[.slice a len cap, .int .i64 c, .string p] 25)).alloc zeroBuf = W := ⟨_, rfl⟩; rw [hW]; obtain ⟨h1, h2, h3, h4⟩ := start_work hW; clear hW; (with_reducible refine (HC.out _ W (HI.out W h3)).mono ?_); rintro e w5 ⟨a5, m5, k5, rfl, ho5, hb5⟩; have wk5 := Lib.hid (copy_work (b := ⟨is, c, p⟩) h1 h2 h3 h4 ho5 hb5); obtain ⟨g0, g1, g2, g3⟩ := box_facts ((hb5.block w.heap.size (by omega)).trans h1); clear ho5 hb5 h1 h2 h3 h4)
      | (go_at_call 30; obtain ⟨W6, hW6⟩ : ∃ W6, (((w5.setCell ⟨w.heap.size, 0, none⟩ (.slice a5 m5 k5)).setCell ⟨w.heap.size, 1, none⟩ (.int .i64 c)).setCell ⟨w.heap.size, 2, none⟩ (.string p)) = W6 := ⟨_, rfl⟩; rw [hW6]; have wk6 := wk5.out; rw [hW6] at wk6; (with_reducible refine (HV.out _ W6 wk6.items).mono ?_); rintro e w7 ⟨rfl, hb7⟩; have wk7 := wk6.later hb7; clear hW6 wk5 g0 g1 g2 g3; obtain ⟨c0, c1, c2, cf, r0, r1, r2, rf⟩ := wk7.facts; dsimp only at c1 c2; have HWK := Lib.hid wk7; clear wk6 wk7 hb7))
    obtain ⟨W9, hW9, hld, how, hbw⟩ := HWK.out.fin
    dsimp only at hW9 hld how
    rw [← hW9]
    refine bodyPost_ret (v := .agg #[.slice a5 m5 k5, .int .i64 c, .string p]) ?_ rfl ⟨a5, m5, k5, rfl, how, hbw⟩
    rw [results_cell1 rfl]
    exact hld
  · have he := empty_str p
    rw [decide_eq_true hp] at he
    rw [decide_eq_true hp]
    clear hv hvp
    simp only [Bool.and_true, if_true]
    go_enter Tryz.func21, Tryz.ntmps21
    go_wp2_with (first
      | (go_at_call 44; obtain ⟨W, hW⟩ : ∃ W, (w.alloc (Obj.cells #[.slice a len cap, .int .i64 c, .string p] 25)).alloc zeroBuf = W := ⟨_, rfl⟩; rw [hW]; obtain ⟨h1, h2, h3, h4⟩ := start_work hW; clear hW; (with_reducible refine (HC.out _ W (HI.out W h3)).mono ?_); rintro e w5 ⟨a5, m5, k5, rfl, ho5, hb5⟩; have wk5 := Lib.hid (copy_work (b := ⟨is, c, p⟩) h1 h2 h3 h4 ho5 hb5); obtain ⟨g0, g1, g2, g3⟩ := box_facts ((hb5.block w.heap.size (by omega)).trans h1); clear ho5 hb5 h1 h2 h3 h4)
      | (go_at_call 30; obtain ⟨W6, hW6⟩ : ∃ W6, (((w5.setCell ⟨w.heap.size, 0, none⟩ (.slice a5 m5 k5)).setCell ⟨w.heap.size, 1, none⟩ (.int .i64 c)).setCell ⟨w.heap.size, 2, none⟩ (.string p)) = W6 := ⟨_, rfl⟩; rw [hW6]; have wk6 := wk5.out; rw [hW6] at wk6; (with_reducible refine (HV.out _ W6 wk6.items).mono ?_); rintro e w7 ⟨rfl, hb7⟩; have wk7 := wk6.later hb7; clear hW6 wk5 g0 g1 g2 g3; obtain ⟨c0, c1, c2, cf, r0, r1, r2, rf⟩ := wk7.facts; dsimp only at c1 c2; have HWK := Lib.hid wk7; clear wk6 wk7 hb7))
    have hlen5 : m5 = is.length := HWK.out.len
    have hw1 : wrap64 ((m5 : Int) - c) = is.length - c := by unfold wrap64; omega
    have hw2 : wrap64 (c + min (max n (-c)) ((is.length : Int) - c)) = max 0 (min (c + n) is.length) := by unfold wrap64; omega
    rw [hw1, hw2]
    obtain ⟨W9, hW9, hld, how, hbw⟩ := (HWK.out.caret (max 0 (min (c + n) is.length))).fin
    dsimp only at hW9 hld how
    rw [← hW9]
    refine bodyPost_ret (v := .agg #[.slice a5 m5 k5, .int .i64 (max 0 (min (c + n) is.length)), .string p]) ?_ rfl ⟨a5, m5, k5, rfl, how, hbw⟩
    rw [results_cell1 rfl]
    exact hld

theorem own_some {w : World} {base : Nat} {e : TypeId} {a : Option Addr} {n k size : Nat} {xs : List Value} (h : w.ownsRow base e size (.slice a n k) n xs) (h0 : 0 < n) : ∃ g, a = some ⟨g, 0, none⟩ := by
  rcases h.2 with ⟨e1, h1⟩ | ⟨g, c, cur, e1, _⟩
  · omega
  · cases e1; exact ⟨g, rfl⟩

theorem delete_any2 (base g cap k : Nat) (z z2 : Int) (is : List It) (w : World) (hown : w.ownsRow base 72 2 (.slice (some ⟨g, 0, none⟩) is.length cap) is.length (ic is)) (hk : k < is.length) (hz : z = k) (hz2 : z2 = z + 1) (hn : is.length ≤ 1048576) :
    Calls Tryz.prog 48 #[.slice (some ⟨g, 0, none⟩) is.length cap, .int .i64 z, .int .i64 z2] w fun e w' => e = .returned (.slice (some ⟨g, 0, none⟩) (is.length - 1) cap) ∧ w'.ownsRow base 72 2 (.slice (some ⟨g, 0, none⟩) (is.length - 1) cap) (is.length - 1) (ic (is.eraseIdx k)) ∧ Below base w w' := by
  subst hz2
  exact delete_any base g cap k z is w hown hk hz hn

set_option maxHeartbeats 8000000 in
theorem delete_buf (b : Bf) (v : Value) (w : World) (hR : BfR w v b) (hsh : Sh b) :
    Calls Tryz.prog 19 #[v] w (NewB (delB b) w) := by
  obtain ⟨a, len, cap, rfl, hI⟩ := hR.open
  have HV := Lib.hid (fun s W (hI : ItR W s b.is) => valid_any b s W hI hsh)
  have HC := Lib.hid (fun s W (hI : ItR W s b.is) => copied_new b s W hI hsh)
  have HI := Lib.hid (fun (W : World) (h : Below w.heap.size w W) => hI.later h (Nat.le_refl _))
  have hvp := @val_parts b
  have hszp := hsh.2.1
  unfold delB
  clear hR hI hsh
  obtain ⟨is, c, p⟩ := b
  simp only at *
  cases hv : val ⟨is, c, p⟩
  · rw [hv] at HV
    clear hv hvp
    simp only [Bool.false_and, Bool.false_eq_true, if_false]
    go_enter Tryz.func19, Tryz.ntmps19
    go_wp2_with (first
      | (go_at_call 44; obtain ⟨W, hW⟩ : ∃ W, (w.alloc (Obj.cells #[.slice a len cap, .int .i64 c, .string p] 25)).alloc zeroBuf = W := ⟨_, rfl⟩; rw [hW]; obtain ⟨h1, h2, h3, h4⟩ := start_work hW; clear hW; (with_reducible refine (HC.out _ W (HI.out W h3)).mono ?_); rintro e w5 ⟨a5, m5, k5, rfl, ho5, hb5⟩; have wk5 := Lib.hid (copy_work (b := ⟨is, c, p⟩) h1 h2 h3 h4 ho5 hb5); obtain ⟨g0, g1, g2, g3⟩ := box_facts ((hb5.block w.heap.size (by omega)).trans h1); clear ho5 hb5 h1 h2 h3 h4)
      | (go_at_call 30; obtain ⟨W6, hW6⟩ : ∃ W6, (((w5.setCell ⟨w.heap.size, 0, none⟩ (.slice a5 m5 k5)).setCell ⟨w.heap.size, 1, none⟩ (.int .i64 c)).setCell ⟨w.heap.size, 2, none⟩ (.string p)) = W6 := ⟨_, rfl⟩; rw [hW6]; have wk6 := wk5.out; rw [hW6] at wk6; (with_reducible refine (HV.out _ W6 wk6.items).mono ?_); rintro e w7 ⟨rfl, hb7⟩; have wk7 := wk6.later hb7; clear hW6 wk5 g0 g1 g2 g3; obtain ⟨c0, c1, c2, cf, r0, r1, r2, rf⟩ := wk7.facts; dsimp only at c1 c2; have hl5 := wk7.len; dsimp only at hl5; subst hl5; have HWK := Lib.hid wk7; clear wk6 wk7 hb7))
    obtain ⟨W9, hW9, hld, how, hbw⟩ := (HWK.out).fin
    dsimp only at hW9 hld how
    rw [← hW9]
    refine bodyPost_ret (v := .agg #[.slice a5 (is.length) k5, .int .i64 (c), .string (p)]) ?_ rfl ⟨a5, is.length, k5, rfl, how, hbw⟩
    rw [results_cell1 rfl]
    exact hld
  obtain ⟨v1, v2, v3, _, v5, _⟩ := hvp hv
  rw [hv] at HV
  by_cases hc : c < is.length
  rotate_left
  · rw [decide_eq_false hc]
    clear hv hvp
    simp only [Bool.and_false, Bool.false_eq_true, if_false]
    go_enter Tryz.func19, Tryz.ntmps19
    go_wp2_with (first
      | (go_at_call 44; obtain ⟨W, hW⟩ : ∃ W, (w.alloc (Obj.cells #[.slice a len cap, .int .i64 c, .string p] 25)).alloc zeroBuf = W := ⟨_, rfl⟩; rw [hW]; obtain ⟨h1, h2, h3, h4⟩ := start_work hW; clear hW; (with_reducible refine (HC.out _ W (HI.out W h3)).mono ?_); rintro e w5 ⟨a5, m5, k5, rfl, ho5, hb5⟩; have wk5 := Lib.hid (copy_work (b := ⟨is, c, p⟩) h1 h2 h3 h4 ho5 hb5); obtain ⟨g0, g1, g2, g3⟩ := box_facts ((hb5.block w.heap.size (by omega)).trans h1); clear ho5 hb5 h1 h2 h3 h4)
      | (go_at_call 30; obtain ⟨W6, hW6⟩ : ∃ W6, (((w5.setCell ⟨w.heap.size, 0, none⟩ (.slice a5 m5 k5)).setCell ⟨w.heap.size, 1, none⟩ (.int .i64 c)).setCell ⟨w.heap.size, 2, none⟩ (.string p)) = W6 := ⟨_, rfl⟩; rw [hW6]; have wk6 := wk5.out; rw [hW6] at wk6; (with_reducible refine (HV.out _ W6 wk6.items).mono ?_); rintro e w7 ⟨rfl, hb7⟩; have wk7 := wk6.later hb7; clear hW6 wk5 g0 g1 g2 g3; obtain ⟨c0, c1, c2, cf, r0, r1, r2, rf⟩ := wk7.facts; dsimp only at c1 c2; have hl5 := wk7.len; dsimp only at hl5; subst hl5; have HWK := Lib.hid wk7; clear wk6 wk7 hb7))
    obtain ⟨W9, hW9, hld, how, hbw⟩ := (HWK.out).fin
    dsimp only at hW9 hld how
    rw [← hW9]
    refine bodyPost_ret (v := .agg #[.slice a5 (is.length) k5, .int .i64 (c), .string (p)]) ?_ rfl ⟨a5, is.length, k5, rfl, how, hbw⟩
    rw [results_cell1 rfl]
    exact hld
  · rw [decide_eq_true hc]
    have HLT := Lib.hid (show c.toNat < is.length by omega)
    have HZ := Lib.hid (show c = (c.toNat : Int) by omega)
    have HE := Lib.hid (show is.eraseIdx c.toNat = is.eraseIdx c.toNat from rfl)
    clear hv hvp
    simp only [Bool.and_true, if_true]
    go_enter Tryz.func19, Tryz.ntmps19
    go_wp2_with (first
      | (go_at_call 44; obtain ⟨W, hW⟩ : ∃ W, (w.alloc (Obj.cells #[.slice a len cap, .int .i64 c, .string p] 25)).alloc zeroBuf = W := ⟨_, rfl⟩; rw [hW]; obtain ⟨h1, h2, h3, h4⟩ := start_work hW; clear hW; (with_reducible refine (HC.out _ W (HI.out W h3)).mono ?_); rintro e w5 ⟨a5, m5, k5, rfl, ho5, hb5⟩; have wk5 := Lib.hid (copy_work (b := ⟨is, c, p⟩) h1 h2 h3 h4 ho5 hb5); obtain ⟨g0, g1, g2, g3⟩ := box_facts ((hb5.block w.heap.size (by omega)).trans h1); clear ho5 hb5 h1 h2 h3 h4)
      | (go_at_call 30; obtain ⟨W6, hW6⟩ : ∃ W6, (((w5.setCell ⟨w.heap.size, 0, none⟩ (.slice a5 m5 k5)).setCell ⟨w.heap.size, 1, none⟩ (.int .i64 c)).setCell ⟨w.heap.size, 2, none⟩ (.string p)) = W6 := ⟨_, rfl⟩; rw [hW6]; have wk6 := wk5.out; rw [hW6] at wk6; (with_reducible refine (HV.out _ W6 wk6.items).mono ?_); rintro e w7 ⟨rfl, hb7⟩; have wk7 := wk6.later hb7; clear hW6 wk5 g0 g1 g2 g3; obtain ⟨c0, c1, c2, cf, r0, r1, r2, rf⟩ := wk7.facts; dsimp only at c1 c2; have hl5 := wk7.len; dsimp only at hl5; subst hl5; have HWK := Lib.hid wk7; clear wk6 wk7 hb7)
      | (go_at_call 48; have ho := (HWK.out).own; dsimp only at ho; obtain ⟨g, hg⟩ := own_some ho (by omega); subst hg; (with_reducible refine (delete_any2 (w.heap.size + 2) g k5 _ _ _ is _ ho HLT.out HZ.out (by have := HZ.out; omega) (by omega)).mono ?_); rintro e w8 ⟨rfl, ho8, hb8⟩; obtain ⟨d0, d1, d2, df⟩ := box_facts ((hb8.block w.heap.size (by omega)).trans (HWK.out).box); obtain ⟨s0, s1, s2, sf⟩ := box_facts ((hb8.block (w.heap.size + 1) (by omega)).trans (HWK.out).res); have HPU := Lib.hid ((HWK.out).put hb8 ho8); clear ho ho8))
    obtain ⟨W9, hW9, hld, how, hbw⟩ := (HPU.out).fin
    dsimp only at hW9 hld how
    rw [← hW9]
    refine bodyPost_ret (v := .agg #[.slice (some ⟨g, 0, none⟩) (is.length - 1) k5, .int .i64 (c), .string (p)]) ?_ rfl ⟨(some ⟨g, 0, none⟩), is.length - 1, k5, rfl, how, hbw⟩
    rw [results_cell1 rfl]
    exact hld

set_option maxHeartbeats 8000000 in
theorem back_buf (b : Bf) (v : Value) (w : World) (hR : BfR w v b) (hsh : Sh b) :
    Calls Tryz.prog 17 #[v] w (NewB (bacB b) w) := by
  obtain ⟨a, len, cap, rfl, hI⟩ := hR.open
  have HV := Lib.hid (fun s W (hI : ItR W s b.is) => valid_any b s W hI hsh)
  have HC := Lib.hid (fun s W (hI : ItR W s b.is) => copied_new b s W hI hsh)
  have HI := Lib.hid (fun (W : World) (h : Below w.heap.size w W) => hI.later h (Nat.le_refl _))
  have hvp := @val_parts b
  have hszp := hsh.2.1
  unfold bacB
  clear hR hI hsh
  obtain ⟨is, c, p⟩ := b
  simp only at *
  cases hv : val ⟨is, c, p⟩
  · rw [hv] at HV
    clear hv hvp
    simp only [Bool.false_and, Bool.false_eq_true, if_false]
    go_enter Tryz.func17, Tryz.ntmps17
    go_wp2_with (first
      | (go_at_call 44; obtain ⟨W, hW⟩ : ∃ W, (w.alloc (Obj.cells #[.slice a len cap, .int .i64 c, .string p] 25)).alloc zeroBuf = W := ⟨_, rfl⟩; rw [hW]; obtain ⟨h1, h2, h3, h4⟩ := start_work hW; clear hW; (with_reducible refine (HC.out _ W (HI.out W h3)).mono ?_); rintro e w5 ⟨a5, m5, k5, rfl, ho5, hb5⟩; have wk5 := Lib.hid (copy_work (b := ⟨is, c, p⟩) h1 h2 h3 h4 ho5 hb5); obtain ⟨g0, g1, g2, g3⟩ := box_facts ((hb5.block w.heap.size (by omega)).trans h1); clear ho5 hb5 h1 h2 h3 h4)
      | (go_at_call 30; obtain ⟨W6, hW6⟩ : ∃ W6, (((w5.setCell ⟨w.heap.size, 0, none⟩ (.slice a5 m5 k5)).setCell ⟨w.heap.size, 1, none⟩ (.int .i64 c)).setCell ⟨w.heap.size, 2, none⟩ (.string p)) = W6 := ⟨_, rfl⟩; rw [hW6]; have wk6 := wk5.out; rw [hW6] at wk6; (with_reducible refine (HV.out _ W6 wk6.items).mono ?_); rintro e w7 ⟨rfl, hb7⟩; have wk7 := wk6.later hb7; clear hW6 wk5 g0 g1 g2 g3; obtain ⟨c0, c1, c2, cf, r0, r1, r2, rf⟩ := wk7.facts; dsimp only at c1 c2; have hl5 := wk7.len; dsimp only at hl5; subst hl5; have HWK := Lib.hid wk7; clear wk6 wk7 hb7))
    obtain ⟨W9, hW9, hld, how, hbw⟩ := (HWK.out).fin
    dsimp only at hW9 hld how
    rw [← hW9]
    refine bodyPost_ret (v := .agg #[.slice a5 (is.length) k5, .int .i64 (c), .string (p)]) ?_ rfl ⟨a5, is.length, k5, rfl, how, hbw⟩
    rw [results_cell1 rfl]
    exact hld
  obtain ⟨v1, v2, v3, _, v5, _⟩ := hvp hv
  rw [hv] at HV
  by_cases hp : p.size ≠ 0
  · have he := empty_str p
    rw [decide_eq_false hp] at he
    simp only [if_true, if_pos hp]
    obtain ⟨q, hq⟩ : ∃ q, p.size = q + 1 := ⟨p.size - 1, by omega⟩
    have hex : p.extract 0 q = ba ((bs p).dropLast) := by rw [ext_take, List.dropLast_eq_take, bs_len, hq]; rfl
    have q0 : (0 : Int) ≤ q := by omega
    have hpz : ((p.size : Nat) : Int) - 1 = q := by omega
    clear hv hvp
    go_enter Tryz.func17, Tryz.ntmps17
    go_wp2_with (first
      | (go_at_call 44; obtain ⟨W, hW⟩ : ∃ W, (w.alloc (Obj.cells #[.slice a len cap, .int .i64 c, .string p] 25)).alloc zeroBuf = W := ⟨_, rfl⟩; rw [hW]; obtain ⟨h1, h2, h3, h4⟩ := start_work hW; clear hW; (with_reducible refine (HC.out _ W (HI.out W h3)).mono ?_); rintro e w5 ⟨a5, m5, k5, rfl, ho5, hb5⟩; have wk5 := Lib.hid (copy_work (b := ⟨is, c, p⟩) h1 h2 h3 h4 ho5 hb5); obtain ⟨g0, g1, g2, g3⟩ := box_facts ((hb5.block w.heap.size (by omega)).trans h1); clear ho5 hb5 h1 h2 h3 h4)
      | (go_at_call 30; obtain ⟨W6, hW6⟩ : ∃ W6, (((w5.setCell ⟨w.heap.size, 0, none⟩ (.slice a5 m5 k5)).setCell ⟨w.heap.size, 1, none⟩ (.int .i64 c)).setCell ⟨w.heap.size, 2, none⟩ (.string p)) = W6 := ⟨_, rfl⟩; rw [hW6]; have wk6 := wk5.out; rw [hW6] at wk6; (with_reducible refine (HV.out _ W6 wk6.items).mono ?_); rintro e w7 ⟨rfl, hb7⟩; have wk7 := wk6.later hb7; clear hW6 wk5 g0 g1 g2 g3; obtain ⟨c0, c1, c2, cf, r0, r1, r2, rf⟩ := wk7.facts; dsimp only at c1 c2; have hl5 := wk7.len; dsimp only at hl5; subst hl5; have HWK := Lib.hid wk7; clear wk6 wk7 hb7))
    obtain ⟨W9, hW9, hld, how, hbw⟩ := (HWK.out.pend (ba ((bs p).dropLast))).fin
    dsimp only at hW9 hld how
    rw [← hW9]
    refine bodyPost_ret (v := .agg #[.slice a5 (is.length) k5, .int .i64 (c), .string (ba ((bs p).dropLast))]) ?_ rfl ⟨a5, is.length, k5, rfl, how, hbw⟩
    rw [results_cell1 rfl]
    exact hld
  · have hp0 : p.size = 0 := by omega
    have he := empty_str p
    rw [decide_eq_true hp0] at he
    simp only [if_true, if_neg hp]
    by_cases hc : 0 < c
    rotate_left
    · simp only [if_neg hc]
      clear hv hvp
      go_enter Tryz.func17, Tryz.ntmps17
      go_wp2_with (first
        | (go_at_call 44; obtain ⟨W, hW⟩ : ∃ W, (w.alloc (Obj.cells #[.slice a len cap, .int .i64 c, .string p] 25)).alloc zeroBuf = W := ⟨_, rfl⟩; rw [hW]; obtain ⟨h1, h2, h3, h4⟩ := start_work hW; clear hW; (with_reducible refine (HC.out _ W (HI.out W h3)).mono ?_); rintro e w5 ⟨a5, m5, k5, rfl, ho5, hb5⟩; have wk5 := Lib.hid (copy_work (b := ⟨is, c, p⟩) h1 h2 h3 h4 ho5 hb5); obtain ⟨g0, g1, g2, g3⟩ := box_facts ((hb5.block w.heap.size (by omega)).trans h1); clear ho5 hb5 h1 h2 h3 h4)
        | (go_at_call 30; obtain ⟨W6, hW6⟩ : ∃ W6, (((w5.setCell ⟨w.heap.size, 0, none⟩ (.slice a5 m5 k5)).setCell ⟨w.heap.size, 1, none⟩ (.int .i64 c)).setCell ⟨w.heap.size, 2, none⟩ (.string p)) = W6 := ⟨_, rfl⟩; rw [hW6]; have wk6 := wk5.out; rw [hW6] at wk6; (with_reducible refine (HV.out _ W6 wk6.items).mono ?_); rintro e w7 ⟨rfl, hb7⟩; have wk7 := wk6.later hb7; clear hW6 wk5 g0 g1 g2 g3; obtain ⟨c0, c1, c2, cf, r0, r1, r2, rf⟩ := wk7.facts; dsimp only at c1 c2; have hl5 := wk7.len; dsimp only at hl5; subst hl5; have HWK := Lib.hid wk7; clear wk6 wk7 hb7))
      obtain ⟨W9, hW9, hld, how, hbw⟩ := (HWK.out).fin
      dsimp only at hW9 hld how
      rw [← hW9]
      refine bodyPost_ret (v := .agg #[.slice a5 (is.length) k5, .int .i64 (c), .string (p)]) ?_ rfl ⟨a5, is.length, k5, rfl, how, hbw⟩
      rw [results_cell1 rfl]
      exact hld
    · simp only [if_pos hc]
      have HLT := Lib.hid (show (c - 1).toNat < is.length by omega)
      have HZ := Lib.hid (show c - 1 = ((c - 1).toNat : Int) by omega)
      clear hv hvp
      go_enter Tryz.func17, Tryz.ntmps17
      go_wp2_with (first
        | (go_at_call 44; obtain ⟨W, hW⟩ : ∃ W, (w.alloc (Obj.cells #[.slice a len cap, .int .i64 c, .string p] 25)).alloc zeroBuf = W := ⟨_, rfl⟩; rw [hW]; obtain ⟨h1, h2, h3, h4⟩ := start_work hW; clear hW; (with_reducible refine (HC.out _ W (HI.out W h3)).mono ?_); rintro e w5 ⟨a5, m5, k5, rfl, ho5, hb5⟩; have wk5 := Lib.hid (copy_work (b := ⟨is, c, p⟩) h1 h2 h3 h4 ho5 hb5); obtain ⟨g0, g1, g2, g3⟩ := box_facts ((hb5.block w.heap.size (by omega)).trans h1); clear ho5 hb5 h1 h2 h3 h4)
        | (go_at_call 30; obtain ⟨W6, hW6⟩ : ∃ W6, (((w5.setCell ⟨w.heap.size, 0, none⟩ (.slice a5 m5 k5)).setCell ⟨w.heap.size, 1, none⟩ (.int .i64 c)).setCell ⟨w.heap.size, 2, none⟩ (.string p)) = W6 := ⟨_, rfl⟩; rw [hW6]; have wk6 := wk5.out; rw [hW6] at wk6; (with_reducible refine (HV.out _ W6 wk6.items).mono ?_); rintro e w7 ⟨rfl, hb7⟩; have wk7 := wk6.later hb7; clear hW6 wk5 g0 g1 g2 g3; obtain ⟨c0, c1, c2, cf, r0, r1, r2, rf⟩ := wk7.facts; dsimp only at c1 c2; have hl5 := wk7.len; dsimp only at hl5; subst hl5; have HWK := Lib.hid wk7; clear wk6 wk7 hb7)
        | (go_at_call 48; have ho := (HWK.out.caret (c - 1)).own; dsimp only at ho; obtain ⟨g, hg⟩ := own_some ho (by omega); subst hg; (with_reducible refine (delete_any2 (w.heap.size + 2) g k5 _ _ _ is _ ho HLT.out HZ.out (by have := HZ.out; omega) (by omega)).mono ?_); rintro e w8 ⟨rfl, ho8, hb8⟩; obtain ⟨d0, d1, d2, df⟩ := box_facts ((hb8.block w.heap.size (by omega)).trans (HWK.out.caret (c - 1)).box); obtain ⟨s0, s1, s2, sf⟩ := box_facts ((hb8.block (w.heap.size + 1) (by omega)).trans (HWK.out.caret (c - 1)).res); have HPU := Lib.hid ((HWK.out.caret (c - 1)).put hb8 ho8); clear ho ho8))
      obtain ⟨W9, hW9, hld, how, hbw⟩ := (HPU.out).fin
      dsimp only at hW9 hld how
      rw [← hW9]
      refine bodyPost_ret (v := .agg #[.slice (some ⟨g, 0, none⟩) (is.length - 1) k5, .int .i64 (c - 1), .string (p)]) ?_ rfl ⟨(some ⟨g, 0, none⟩), is.length - 1, k5, rfl, how, hbw⟩
      rw [results_cell1 rfl]
      exact hld

end Go.Proofs.YtamdlbefiggkfaaGreat.Cmp
