/-
  Joined texts: RomDp, AutN.
-/
import Derived.Deep.AppendLies
import Derived.Deep.RegionHeld3
import Derived.Test.YtamdlbefiggkfaaGreatM12
import Derived.Test.YtamdlbefiggkfaaGreatM10
import Derived.Deep.RegionLaw
set_option linter.unusedVariables false
set_option linter.unusedSimpArgs false
set_option maxRecDepth 100000
namespace Go.Proofs.YtamdlbefiggkfaaGreat.Rom
open Go Go.RowKit Go.Proofs.YtamdlbefiggkfaaGreat.Kit Go.Proofs.YtamdlbefiggkfaaGreat.Utf

/-- Block n holds the slice of the row rs; the blocks ks are as told, and none of them is the row's. -/
structure Cap (n : Nat) (a w : World) (ks : List (Nat × Obj)) (rs : List Rule) : Prop where
  bel : Below n a w
  ex : ∃ v, w.heap[n]? = some (.cells #[v] 22 (0, 0)) ∧ w.ownsRow (n + 1) 64 3 v rs.length (rc rs) ∧ ∀ p ∈ ks, n < p.1 ∧ w.heap[p.1]? = some p.2 ∧ v.ownBlock ≠ some p.1

theorem Cap.lt {n : Nat} {a w : World} {ks : List (Nat × Obj)} {rs : List Rule} (h : Cap n a w ks rs) : n < w.heap.size := by
  obtain ⟨v, h1, _⟩ := h.ex
  exact (Array.getElem?_eq_some_iff.1 h1).1
theorem Cap.drews {n : Nat} {a w : World} {ks : List (Nat × Obj)} {rs : List Rule} (h : Cap n a w ks rs) (q : Nat) : Cap n a (w.drewN q) ks rs := ⟨below_drews h.bel q, h.ex⟩
theorem Cap.drew {n : Nat} {a w : World} {ks : List (Nat × Obj)} {rs : List Rule} (h : Cap n a w ks rs) : Cap n a w.drew ks rs := ⟨h.bel.drew, h.ex⟩
theorem Cap.drop {n : Nat} {a w : World} {ks ks' : List (Nat × Obj)} {rs : List Rule} (h : Cap n a w ks rs) (hs : ∀ p ∈ ks', p ∈ ks) : Cap n a w ks' rs := by
  obtain ⟨v, h1, h2, h3⟩ := h.ex
  exact ⟨h.bel, v, h1, h2, fun p hp => h3 p (hs p hp)⟩
/-- A later world that differs only in what was not there. -/
theorem Cap.later {n : Nat} {a w w' : World} {ks : List (Nat × Obj)} {rs : List Rule} (h : Cap n a w ks rs) (hb : Below w.heap.size w w') : Cap n a w' ks rs := by
  obtain ⟨v, h1, h2, h3⟩ := h.ex
  have hl := h.lt
  refine ⟨h.bel.trans (hb.mono (by omega)), v, by rw [hb.block n hl]; exact h1, own_later h2 hb, fun p hp => ?_⟩
  obtain ⟨g1, g2, g3⟩ := h3 p hp
  exact ⟨g1, by rw [hb.block p.1 (Array.getElem?_eq_some_iff.1 g2).1]; exact g2, g3⟩
/-- A new block. -/
theorem Cap.alloc {n : Nat} {a w : World} {ks : List (Nat × Obj)} {rs : List Rule} (h : Cap n a w ks rs) (o : Obj) : Cap n a (w.alloc o) ((w.heap.size, o) :: ks) rs := by
  have h2 := h.later ((Below.refl w.heap.size w).alloc (Nat.le_refl _) o)
  obtain ⟨v, g1, g2, g3⟩ := h2.ex
  obtain ⟨v', f1, f2, f3⟩ := h.ex
  have e : v = v' := by
    have := g1.symm.trans (keeps_alloc (o' := o) f1)
    simpa using this
  subst e
  refine ⟨h2.bel, v, g1, g2, fun p hp => ?_⟩
  rcases List.mem_cons.1 hp with rfl | hp
  · exact ⟨h.lt, heap_alloc_new w o, fun e => by have := (f2.lt _ e).2; simp only at this; omega⟩
  · exact g3 p hp
theorem Cap.at {n : Nat} {a w : World} {ks : List (Nat × Obj)} {rs : List Rule} (h : Cap n a w ks rs) {b : Nat} {cs : Array Value} {t : TypeId} (hm : (b, Obj.cells cs t (0, 0)) ∈ ks) (j : Nat) : w.cell? ⟨b, j, none⟩ = cs[j]? := by
  obtain ⟨v, h1, h2, h3⟩ := h.ex
  exact cell_of_row w b j cs t (0, 0) (h3 _ hm).2.1

theorem frozen_alloc (w : World) (o : Obj) (p : Addr) (h : p.block < w.heap.size) : (w.alloc o).frozen? p = w.frozen? p := World.frozen?_of_block (Below.heap_alloc w o p.block h)
theorem cellOr_eq {W : World} {p : Addr} {v : Value} (h : W.cell? p = some v) : cellOr W p = v := by unfold cellOr; rw [h]; rfl
theorem cellOr_some {W : World} {p : Addr} {v : Value} (h : W.cell? p = some v) : W.cell? p = some (cellOr W p) := by rw [cellOr_eq h]; exact h
theorem set_one {w : World} {n : Nat} {v u : Value} {t : TypeId} (h : w.heap[n]? = some (.cells #[v] t (0, 0))) : (w.setCell ⟨n, 0, none⟩ u).heap[n]? = some (.cells #[u] t (0, 0)) := by
  have h2 := h
  simp only [World.setCell, Array.getElem?_modify, if_true, h2, Option.map_some]
  rfl

theorem Cap.added {n : Nat} {a w w2 w1 : World} {ks : List (Nat × Obj)} {rs : List Rule} {k o x : ByteArray} {v : Value} {gg cap1 : Nat} {ob : Obj} (HB : Below n a w) (hcell : w.heap[n]? = some (.cells #[v] 22 (0, 0))) (hown : w.ownsRow (n + 1) 64 3 v rs.length (rc rs))
    (KS : ∀ p ∈ ks, n < p.1 ∧ w.heap[p.1]? = some p.2 ∧ v.ownBlock ≠ some p.1) (hw2 : w.heap.size ≤ w2.heap.size) (h1 : w2.os = w.os) (h2 : w2.tape = w.tape) (h3 : w2.output = w.output) (h4 : ∀ j, j < w.heap.size → w2.heap[j]? = w.heap[j]?)
    (hown1 : w1.ownsRow (n + 1) 64 3 (.slice (some ⟨gg, 0, none⟩) (rs.length + 1) cap1) (rs.length + 1) (rc rs ++ [.string k, .string o, .string x])) (hgrow : (w2.alloc ob).grownBy w1 v.ownBlock) (hat : v.ownBlock = some gg ∨ gg = w2.heap.size + 1) :
    Cap n a (w1.setCell ⟨n, 0, none⟩ (.slice (some ⟨gg, 0, none⟩) (rs.length + 1) cap1)) ks (rs ++ [⟨k, o, x⟩]) := by
  have hn : n < w.heap.size := (Array.getElem?_eq_some_iff.1 hcell).1
  have hb : Below w.heap.size w w2 := ⟨h1, h2, h3, hw2, h4⟩
  have hsz : (w2.alloc ob).heap.size = w2.heap.size + 1 := by simp
  have hne : some n ≠ v.ownBlock := fun e => by have := (hown.lt _ e.symm).1; omega
  have c1 : w1.heap[n]? = some (.cells #[v] 22 (0, 0)) := grown_keeps hgrow (keeps_alloc (by rw [hb.block n hn]; exact hcell)) hne
  refine ⟨?_, .slice (some ⟨gg, 0, none⟩) (rs.length + 1) cap1, set_one c1, ?_, fun p hp => ?_⟩
  · refine ((((HB.trans (hb.mono (Nat.le_of_lt hn))).alloc (by omega) ob).grown hgrow (by omega) (fun j hj => by have := (hown.lt j hj).1; omega))).setCell (Nat.le_refl _) _
  · have e : rc (rs ++ [⟨k, o, x⟩]) = rc rs ++ [.string k, .string o, .string x] := by rw [rc_append]; rfl
    rw [e, List.length_append]
    exact ownsRow_setCell_below hown1 (Nat.lt_succ_self n) _
  · obtain ⟨g1, g2, g3⟩ := KS p hp
    have hp1 : p.1 < w.heap.size := (Array.getElem?_eq_some_iff.1 g2).1
    refine ⟨g1, ?_, ?_⟩
    · rw [Below.heap_setCell _ _ _ _ (show p.1 ≠ n by omega)]
      exact grown_keeps hgrow (keeps_alloc (by rw [hb.block p.1 hp1]; exact g2)) (Ne.symm g3)
    · simp only [Value.ownBlock, ne_eq, Option.some.injEq]
      rcases hat with e | e
      · intro e2
        rw [e2] at e
        exact g3 e
      · omega

set_option maxHeartbeats 8000000 in
theorem add_any {n : Nat} {a w : World} {ks : List (Nat × Obj)} {rs : List Rule} (h : Cap n a w ks rs) (hl : rs.length ≤ 900) (k o x : ByteArray) (hs : Short ⟨k, o, x⟩) :
    Calls Tryz.prog 50 #[.string k, .string o, .string x, .pointer (some ⟨n, 0, none⟩)] w fun e w' => e = .returned (.tuple #[]) ∧ Cap n a w' ks (rs ++ [⟨k, o, x⟩]) := by
  obtain ⟨i0, hi0, hz0, hz1, hz2⟩ := info_parts info_rule
  obtain ⟨hbel, v, hcell, hown, hks⟩ := h
  have hn : n < w.heap.size := (Array.getElem?_eq_some_iff.1 hcell).1
  have c0 : w.cell? ⟨n, 0, none⟩ = some v := by rw [cell_of_row w n 0 _ _ (0, 0) hcell]; rfl
  have y0 : w.frozen? ⟨n, 0, none⟩ = false := by unfold World.frozen?; rw [show w.heap[(⟨n, 0, none⟩ : Addr).block]? = _ from hcell]; simp
  go_enter Tryz.func50, Tryz.ntmps50
  go_wp2
  have c0' : w.drew.cell? ⟨n, 0, none⟩ = some v := c0
  have hown' : w.drew.ownsRow (n + 1) 64 3 v rs.length (rc rs) := hown
  have HF : Hid (∀ W : World, Calls Tryz.prog 51 #[.agg #[.string k, .string o, .string x]] W fun e w' => e = .returned (.agg #[.string k, .string o, .string x]) ∧ Below W.heap.size W w') := Lib.hid (fun (W : World) => fresh_any ⟨k, o, x⟩ W hs)
  have KS := Lib.hid hks
  have HNE : Hid (v.ownBlock ≠ some n) := Lib.hid (fun e => by have := (hown.lt _ e).1; omega)
  have HB := Lib.hid hbel
  clear hks hbel hs
  go_region_law ((first
      | (go_simp; go_at_call 51; (refine (HF.out _).mono ?_); rintro e w2 ⟨rfl, hb2⟩; have hw2 : w.heap.size ≤ w2.heap.size := hb2.size; have hc2 : w2.cell? ⟨n, 0, none⟩ = some v := (hb2.cell (p := ⟨n, 0, none⟩) hn).trans c0; have hc3 : (w2.alloc (.cells #[.string k, .string o, .string x] 64)).cell? ⟨n, 0, none⟩ = some v := (World.cell?_alloc_some _ _ _ (by rw [hc2]; rfl)).trans hc2; have hy2 : w2.frozen? ⟨n, 0, none⟩ = false := (hb2.frozen (p := ⟨n, 0, none⟩) hn).trans y0)
      | (refine step_append_lies _ (by rfl) _ _ _ (by rfl) (n + 1) 64 i0 _ 3 48 Tryz.underlying22 hi0 hz0 hz1 hz2 rfl (by omega) _ rs.length (rc rs) (by first | rfl | exact cellOr_eq c0' | exact cellOr_eq hc2 | exact cellOr_eq hc3) ((own_later hown' hb2).alloc _)
            ⟨w2.heap.size, 0, none⟩ 1 1 [.string k, .string o, .string x] (by rfl) (by rfl) (World.news_of_block (cs := #[.string k, .string o, .string x]) (t := 64) (fr := (0, 0)) (heap_alloc_new w2 _)) (by simp [Value.oneCell'])
            (by omega) (by unfold maxLen; omega) (by omega) (by simp; omega) (w2.heap.size + 1) (by simp) ?_; intro gg cap1 w1 hown1 hgrow hat hlt; have hc1 : w1.cell? ⟨n, 0, none⟩ = some v := (hgrow.cell_far _ (by simp; omega) (Ne.symm HNE.out)).trans ((World.cell?_alloc_some _ _ _ (by rw [hc2]; rfl)).trans hc2); have hy1 : w1.frozen? ⟨n, 0, none⟩ = false := (hgrow.frozen_far _ (by simp; omega) (Ne.symm HNE.out)).trans ((frozen_alloc _ _ _ (Nat.lt_of_lt_of_le hn hw2)).trans hy2); have hc9 : ∀ u, (w1.setCell ⟨n, 0, none⟩ u).cell? ⟨n, 0, none⟩ = some u := (fun u => World.cell?_setCell_same _ _ _ hc1); have hy9 : ∀ u, (w1.setCell ⟨n, 0, none⟩ u).frozen? ⟨n, 0, none⟩ = false := (fun u => by rw [World.frozen?_setCell]; exact hy1))))
  all_goals go_end0
  all_goals exact ⟨rfl, Cap.added HB.out hcell hown KS.out hw2 hb2.os hb2.tape hb2.output hb2.block hown1 hgrow hat⟩

theorem run_index_agg {t e : TypeId} {n : Nat} (hu : Tryz.prog.underlying t = some (.array n e)) (hs : ∀ w, (sizeOf e).run Tryz.prog w = .ok 1 w) (ha : ∀ w, (isAgg e).run Tryz.prog w = .ok false w) (cs : Array Value) (x : Int) (k : Nat) (hx : x = k) (hk : k < n) (v : Value) (hg : cs[k]? = some v) :
    ∀ w, (Instr.index t (.agg cs) (.int .i64 x)).run Tryz.prog w = .ok v w := by
  intro w
  subst hx
  have hu' := run_underlying (P := Tryz.prog) hu
  have h1 : (k : Int) < n := by omega
  simp [Instr.index, hu', asIntOf, go_sem, h1, hg, hs, ha]
  intro h; omega
def CapT (n : Nat) (a w : World) (ks : List (Nat × Obj)) (ts : List R3) : Prop := Cap n a w ks (ts.map mk3)
theorem CapT.at {n : Nat} {a w : World} {ks : List (Nat × Obj)} {ts : List R3} (h : CapT n a w ks ts) {b : Nat} {cs : Array Value} {t : TypeId} (hm : (b, Obj.cells cs t (0, 0)) ∈ ks) (j : Nat) : w.cell? ⟨b, j, none⟩ = cs[j]? := Cap.at h hm j
theorem add_out {n : Nat} {a w : World} {ks : List (Nat × Obj)} {ts : List R3} (h : CapT n a w ks ts) (hl : ts.length ≤ 900) (t : R3) (k o x : ByteArray) (hk : k = ba t.1) (ho : o = ba t.2.1) (hx : x = ba t.2.2) (hs : t.1.length ≤ 100 ∧ t.2.1.length ≤ 100 ∧ t.2.2.length ≤ 100) :
    Calls Tryz.prog 50 #[.string k, .string o, .string x, .pointer (some ⟨n, 0, none⟩)] w fun e w' => e = .returned (.tuple #[]) ∧ CapT n a w' ks (ts ++ [t]) := by
  subst hk ho hx
  unfold CapT
  rw [List.map_append]
  exact add_any h (by rw [List.length_map]; exact hl) _ _ _ ⟨by show (ba t.1).size ≤ _; rw [ba_size]; omega, by show (ba t.2.1).size ≤ _; rw [ba_size]; omega, by show (ba t.2.2).size ≤ _; rw [ba_size]; omega⟩
theorem CapT.later {n : Nat} {a w w' : World} {ks : List (Nat × Obj)} {ts : List R3} (h : CapT n a w ks ts) (hb : Below w.heap.size w w') : CapT n a w' ks ts := Cap.later h hb
theorem CapT.alloc {n : Nat} {a w : World} {ks : List (Nat × Obj)} {ts : List R3} (h : CapT n a w ks ts) (o : Obj) : CapT n a (w.alloc o) ((w.heap.size, o) :: ks) ts := Cap.alloc h o
theorem CapT.drop {n : Nat} {a w : World} {ks ks' : List (Nat × Obj)} {ts : List R3} (h : CapT n a w ks ts) (hs : ∀ p ∈ ks', p ∈ ks) : CapT n a w ks' ts := Cap.drop h hs
theorem CapT.obj {n : Nat} {a w : World} {ks : List (Nat × Obj)} {ts : List R3} (h : CapT n a w ks ts) {p : Nat × Obj} (hm : p ∈ ks) : w.heap[p.1]? = some p.2 := by
  obtain ⟨v, h1, h2, h3⟩ := h.ex
  exact (h3 p hm).2.1
/-- A step of a range over a string. -/
theorem CapT.iter {n : Nat} {a w : World} {K pos : Nat} {s : ByteArray} {ts : List R3} (h : CapT n a w [(K, .stringIter s pos)] ts) (pos' : Nat) : CapT n a (w.iterAt K s pos') [(K, .stringIter s pos')] ts := by
  obtain ⟨v, h1, h2, h3⟩ := h.ex
  obtain ⟨g1, g2, g3⟩ := h3 _ (List.mem_singleton.2 rfl)
  simp only at g1 g2 g3
  refine ⟨Lib.below_iterAt h.bel (Nat.le_of_lt g1) s pos', v, ?_, own_iterAt h2 g2 pos', fun p hp => ?_⟩
  · rw [Lib.iterAt_other _ _ _ _ _ (by omega)]; exact h1
  · rw [List.mem_singleton] at hp
    subst hp
    exact ⟨g1, Lib.iterAt_heap w K s pos pos' g2, g3⟩
/-- The row that the closure holds. -/
theorem CapT.row {n : Nat} {a w : World} {ks : List (Nat × Obj)} {ts : List R3} (h : CapT n a w ks ts) : ∃ v, w.cell? ⟨n, 0, none⟩ = some v ∧ w.ownsRow (n + 1) 64 3 v ts.length (rc (ts.map mk3)) := by
  obtain ⟨v, h1, h2, h3⟩ := h.ex
  rw [List.length_map] at h2
  exact ⟨v, by rw [cell_of_row w n 0 _ _ (0, 0) h1]; rfl, h2⟩
theorem CapT.drew {n : Nat} {a w : World} {ks : List (Nat × Obj)} {ts : List R3} (h : CapT n a w ks ts) : CapT n a w.drew ks ts := Cap.drew h
/-- The rules of the rows before row k. -/
def preT (k : Nat) : List R3 := (tabL.take k).flatMap fun r => vow3 r.1 r.2 5
theorem preT_succ {k : Nat} (h : k < 25) : preT (k + 1) = preT k ++ vow3 (tabR k).1 (tabR k).2 5 := by
  unfold preT
  rw [List.take_add_one, List.flatMap_append, List.getElem?_eq_getElem (by rw [tab_len]; exact h)]
  unfold tabR
  rw [List.getD_eq_getElem?_getD, List.getElem?_eq_getElem (by rw [tab_len]; exact h)]
  simp
theorem preT_len : ∀ k, k ≤ 25 → (preT k).length ≤ 5 * k := by
  intro k
  induction k with
  | zero => intro _; simp [preT]
  | succ k ih => intro h; rw [preT_succ (by omega), List.length_append]; have := ih (by omega); have := vow3_len (tabR k).1 (tabR k).2 5; omega
theorem preT_all : preT 25 = tab3 := by unfold preT tab3; rw [List.take_of_length_le (by rw [tab_len]; exact Nat.le_refl _)]
theorem rom_short : ∀ t ∈ rom3, t.1.length ≤ 10 ∧ t.2.1.length ≤ 10 ∧ t.2.2.length ≤ 10 := by decide +kernel
theorem con_short : ∀ c ∈ conB, (kI c).length ≤ 6 := by decide +kernel
theorem enc_con : ∀ c ∈ conB ++ dblB, Utf8.encode (c.toNat : Int) = ba [c] := by decide +kernel
theorem asc_con : ∀ c ∈ conB ++ dblB, c.toNat < 128 := by decide +kernel
theorem getB_mem {l : List UInt8} {m : Nat} (h : m < l.length) : l.getD m 0 ∈ l := by
  rw [List.getD_eq_getElem?_getD, List.getElem?_eq_getElem h]; exact List.getElem_mem h
/-- The next character of a string of such letters. -/
theorem next_byte {w : World} {K p : Nat} (l : List UInt8) (ht : w.heap[K]? = some (.stringIter (ba l) p)) (h : p < l.length) (ha : (l.getD p 0).toNat < 128) :
    ∀ ty, (Instr.next (.pointer (some ⟨K, 0, none⟩)) true ty).run Tryz.prog w = .ok (.tuple #[.bool true, .int .i64 p, .int .i32 (l.getD p 0).toNat]) (w.iterAt K (ba l) (p + 1)) := by
  intro ty
  have hp : p < (ba l).size := by rw [ba_size]; exact h
  have e : (ba l)[p]'hp = l.getD p 0 := by
    rw [List.getD_eq_getElem?_getD, List.getElem?_eq_getElem h]
    rfl
  have := Lib.run_next_ascii_at (P := Tryz.prog) w K (ba l) p ty ht hp (by rw [e]; exact ha)
  rw [e] at this
  exact this
theorem next_none {w : World} {K p : Nat} (l : List UInt8) (ht : w.heap[K]? = some (.stringIter (ba l) p)) (h : l.length ≤ p) :
    ∀ ty, (Instr.next (.pointer (some ⟨K, 0, none⟩)) true ty).run Tryz.prog w = .ok (.tuple #[.bool false]) w := fun ty => Lib.run_next_end_at (P := Tryz.prog) w K (ba l) p ty ht (by rw [ba_size]; omega)
theorem cons_succ {m : Nat} (h : m < 12) : (conB.take (m + 1)).flatMap cons3 = (conB.take m).flatMap cons3 ++ cons3 (conB.getD m 0) := by
  have h2 : m < conB.length := h
  rw [List.take_add_one, List.flatMap_append, List.getElem?_eq_getElem h2, List.getD_eq_getElem?_getD, List.getElem?_eq_getElem h2]
  simp
theorem cons_len : ∀ m, m ≤ 12 → ((conB.take m).flatMap cons3).length ≤ 3 * m := by
  intro m
  induction m with
  | zero => intro _; simp
  | succ m ih => intro h; rw [cons_succ (by omega), List.length_append]; have := ih (by omega); have e : (cons3 (conB.getD m 0)).length = 3 := rfl; omega
def nth3 (l : List R3) (m : Nat) : R3 := l.getD m ([], [], [])
theorem n3_at {m : Nat} (h : m < 3) : n3.take (m + 1) = n3.take m ++ [nth3 n3 m] ∧ ({ data := #[227, 130, 147] } : ByteArray) = ba (nth3 n3 m).2.1 ∧ ({ data := #[] } : ByteArray) = ba (nth3 n3 m).2.2 ∧ ((nth3 n3 m).1.length ≤ 100 ∧ (nth3 n3 m).2.1.length ≤ 100 ∧ (nth3 n3 m).2.2.length ≤ 100) := by
  match m, h with
  | 0, _ => exact ⟨rfl, rfl, rfl, by decide, by decide, by decide⟩
  | 1, _ => exact ⟨rfl, rfl, rfl, by decide, by decide, by decide⟩
  | 2, _ => exact ⟨rfl, rfl, rfl, by decide, by decide, by decide⟩
theorem rom_own {w : World} {b : Nat} {v : Value} {T : List R3} {x y z : R3} (h : T ++ [x, y, z] = rom3) (hown : w.ownsRow b 64 3 v (T ++ [x] ++ [y] ++ [z]).length (rc ((T ++ [x] ++ [y] ++ [z]).map mk3))) : w.ownsRow b 64 3 v (rom3.map mk3).length (rc (rom3.map mk3)) := by
  have e : T ++ [x] ++ [y] ++ [z] = rom3 := by rw [← h]; simp
  rw [e] at hown
  rw [List.length_map]
  exact hown
theorem con_all : conB.take 12 = conB := rfl
theorem tab3_len : tab3.length ≤ 125 := by rw [← preT_all]; exact preT_len 25 (Nat.le_refl _)
theorem find_out {n : Nat} {w : World} {v : Value} {m : Nat} (hm : m ≤ 12) (hown : w.ownsRow (n + 1) 64 3 v (tab3 ++ (conB.take m).flatMap cons3).length (rc ((tab3 ++ (conB.take m).flatMap cons3).map mk3))) {c : UInt8} (hc : c ∈ conB) (x : ByteArray) (hx : x = ba ([c] ++ [105])) :
    Calls Tryz.prog 53 #[v, .string x] w fun e w' => e = .returned (.tuple #[.agg #[.string (ba ([c] ++ [105])), .string (ba (kI c)), .string { data := #[] }], .bool true]) ∧ Below w.heap.size w w' := by
  subst hx
  have hs : ∀ r ∈ (tab3 ++ (conB.take m).flatMap cons3).map mk3, Short r := by
    intro r hr
    obtain ⟨t, ht, rfl⟩ := List.mem_map.1 hr
    have hm : t ∈ rom3 := by
      unfold rom3
      rw [List.append_assoc, List.append_assoc, List.append_assoc, List.append_assoc]
      rcases List.mem_append.1 ht with h | h
      · exact List.mem_append_left _ h
      · obtain ⟨c, hc, h⟩ := List.mem_flatMap.1 h
        exact List.mem_append_right _ (List.mem_append_left _ (List.mem_flatMap.2 ⟨c, List.mem_of_mem_take hc, h⟩))
    have := rom_short t hm
    refine ⟨?_, ?_, ?_⟩
    · show (ba t.1).size ≤ _; rw [ba_size]; omega
    · show (ba t.2.1).size ≤ _; rw [ba_size]; omega
    · show (ba t.2.2).size ≤ _; rw [ba_size]; omega
  have hf := kI_find c hc
  have e : find3 (tab3 ++ (conB.take m).flatMap cons3) ([c] ++ [105]) = (([c] ++ [105], kI c, []), true) := by rw [find3_append (by rw [hf])]; exact hf
  refine (find_any v _ (ba ([c] ++ [105])) w (row_of_own hown).1 hs).mono ?_
  rintro E w' ⟨rfl, hb⟩
  refine ⟨?_, hb⟩
  rw [find_map, e]
  rfl
set_option maxHeartbeats 16000000 in
theorem default_any (w : World) :
    Calls Tryz.prog 23 #[] w fun e w' => ∃ v', e = .returned v' ∧ w'.ownsRow w.heap.size 64 3 v' defL.length (rc defL) ∧ Below w.heap.size w w' := by
  have HT := Lib.hid rows_any
  go_enter Tryz.func23, Tryz.ntmps23
  go_wp2_with (go_at_call 52; (refine (HT.out _).mono ?_); rintro e w1 ⟨cs, t, rfl, hw1, hcs⟩; have HW1 := Lib.hid hw1; clear hw1)
  obtain ⟨g, hg⟩ : ∃ g, w.heap.size = g := ⟨_, rfl⟩
  have hw1 := HW1.out
  have h0 : CapT g w w1 [(g + 1, .cells cs t (0, 0))] [] := by
    rw [hw1, ← hg]
    exact ⟨((Below.refl _ _).alloc (Nat.le_refl _) _).alloc (by simp) _, _, keeps_alloc (heap_alloc_new w _), World.ownsRow_nil _ _ _ _, fun p hp => by
      rw [List.mem_singleton] at hp
      subst hp
      exact ⟨Nat.lt_succ_self _, heap_new_at _ _ _ (by simp), by simp [Value.ownBlock]⟩⟩
  have HC : Hid (∀ j, cs[j]? = tabC[j]?) := Lib.hid (fun j => by rw [← Array.getElem?_toList, hcs])
  clear hw1 HW1 hcs HT
  rw [hg]
  have H0 := Lib.hid h0
  clear h0
  go_loopw [18] (fun i wr => ∃ k : Nat, i = .int .i64 k ∧ k ≤ 25 ∧ CapT g w wr [(g + 1, .cells cs t (0, 0))] (preT k)) (fun i _ => 25 - (intOf i).toNat)
  case atStart => exact ⟨0, rfl, by omega, H0.out⟩
  case round =>
    obtain ⟨k, rfl, hk, hcap⟩ := hrel
    by_cases hkl : k < 25
    · have HTL := Lib.hid (tabR_len hkl)
      have htc := tabC_at hkl
      have HPS := Lib.hid (preT_succ hkl)
      have hpl := preT_len k hk
      have hat : ∀ j x, tabC[j]? = some x → wr.cell? ⟨g + 1, j, none⟩ = some x := fun j x hx => by
        rw [hcap.at (b := g + 1) (List.mem_singleton.2 rfl) j, HC.out]; exact hx
      have z0 := hat _ _ htc.1
      have z1 := hat _ _ (htc.2 0 (by omega))
      have z2 := hat _ _ (htc.2 1 (by omega))
      have z3 := hat _ _ (htc.2 2 (by omega))
      have z4 := hat _ _ (htc.2 3 (by omega))
      have z5 := hat _ _ (htc.2 4 (by omega))
      clear htc hat
      obtain ⟨L, hL⟩ : ∃ L, (tabR k).1 = L := ⟨_, rfl⟩
      obtain ⟨K, hK⟩ : ∃ K, (tabR k).2 = K := ⟨_, rfl⟩
      have HRW : Hid (preT (k + 1) = preT k ++ vow3 L K 5) := by rw [← hL, ← hK]; exact HPS.out
      rw [hL] at z0
      rw [hK] at z1 z2 z3 z4 z5
      rw [hL, hK] at HTL
      clear hL hK HPS
      obtain ⟨k0, e0⟩ : ∃ x, ba (K.getD 0 []) = x := ⟨_, rfl⟩
      obtain ⟨k1, e1⟩ : ∃ x, ba (K.getD 1 []) = x := ⟨_, rfl⟩
      obtain ⟨k2, e2⟩ : ∃ x, ba (K.getD 2 []) = x := ⟨_, rfl⟩
      obtain ⟨k3, e3⟩ : ∃ x, ba (K.getD 3 []) = x := ⟨_, rfl⟩
      obtain ⟨k4, e4⟩ : ∃ x, ba (K.getD 4 []) = x := ⟨_, rfl⟩
      rw [e0] at z1
      rw [e1] at z2
      rw [e2] at z3
      rw [e3] at z4
      rw [e4] at z5
      have E0 := Lib.hid e0
      have E1 := Lib.hid e1
      have E2 := Lib.hid e2
      have E3 := Lib.hid e3
      have E4 := Lib.hid e4
      clear e0 e1 e2 e3 e4
      have kz : (0 : Int) ≤ k := by omega
      have kl : (k : Int) < 25 := by omega
      go_wp2
      have h1 := Cap.alloc hcap (.cells #[.string (ba L), .string k0, .string k1, .string k2, .string k3, .string k4] 102)
      obtain ⟨B, hB⟩ : ∃ B, wr.heap.size = B := ⟨_, rfl⟩
      obtain ⟨W, hW⟩ : ∃ W, wr.alloc (.cells #[.string (ba L), .string k0, .string k1, .string k2, .string k3, .string k4] 102) = W := ⟨_, rfl⟩
      rw [hB, hW] at h1
      rw [hB, hW]
      clear hW hcap z0 z1 z2 z3 z4 z5 hB
      have H1 := Lib.hid h1
      clear h1
      go_loopw [24] (fun j wq => ∃ m : Nat, j = .int .i64 m ∧ m ≤ 5 ∧ CapT g w wq [(B, .cells #[.string (ba L), .string k0, .string k1, .string k2, .string k3, .string k4] 102), (g + 1, .cells cs t (0, 0))] (preT k ++ vow3 L K m)) (fun j _ => 5 - (intOf j).toNat)
      case atStart => exact ⟨0, rfl, by omega, by simpa [vow3, CapT] using H1.out⟩
      case round =>
        obtain ⟨m, rfl, hm, ho⟩ := hrel
        clear H1
        by_cases hm5 : m < 5
        · have z0 : wr.cell? ⟨B, 0, none⟩ = some (.string (ba L)) := (ho.at (b := B) (List.mem_cons_self ..) 0)
          have hl0 : (ba L).size ≤ 3 := by rw [ba_size]; exact HTL.out.1
          have hl1 : (ba (K.getD m [])).size ≤ 6 := by rw [ba_size]; exact HTL.out.2 m hm5
          have hg : (#[.string k0, .string k1, .string k2, .string k3, .string k4] : Array Value)[m]? = some (.string (ba (K.getD m []))) := by
            rw [← E0.out, ← E1.out, ← E2.out, ← E3.out, ← E4.out]
            match m, hm5 with
            | 0, _ => rfl
            | 1, _ => rfl
            | 2, _ => rfl
            | 3, _ => rfl
            | 4, _ => rfl
          have HI := run_index_agg Tryz.underlying100 Tryz.sizeOf9 Tryz.isAgg9 _ (m : Int) m rfl hm5 _ hg
          have m0 : (0 : Int) ≤ m := by omega
          have m1 : (m : Int) < 5 := by omega
          have hvl := vow3_len L K m
          by_cases hkn : K.getD m [] = []
          · have hne : (ba (K.getD m [])).toList.isEmpty = true := by rw [hkn, empty_str, decide_eq_true]; rw [ba_size]; rfl
            have HF := Lib.hid (vow3_none (L := L) hkn)
            generalize K.getD m [] = kn at *
            clear hkn hg
            have HO := Lib.hid ho
            clear ho
            go_wp2
            go_roundw
            case rel => exact ⟨m + 1, by go_num, by omega, by rw [HF.out]; exact HO.out⟩
            case measure => simp [intOf]; omega
          · have hne : (ba (K.getD m [])).toList.isEmpty = false := by rw [empty_str, decide_eq_false]; rw [ba_size]; intro e; exact hkn (List.eq_nil_of_length_eq_zero e)
            have HF := Lib.hid (vow3_some (L := L) hkn)
            have HKL := Lib.hid (HTL.out.2 m hm5)
            have EX : ({ data := #[97, 105, 117, 101, 111] } : ByteArray).extract m (m + 1) = ba [vw.getD m 0] := ba_cut vw m hm5
            generalize K.getD m [] = kn at *
            generalize vw.getD m 0 = vv at *
            clear hkn hg
            have HO := Lib.hid ho
            clear ho
            have hl2 : (ba [vv]).size ≤ 1 := by rw [ba_size]; exact Nat.le_refl _
            have HS : ∀ W, (Instr.sliceAt 9 (.string { data := #[97, 105, 117, 101, 111] }) (some (.int .i64 m)) (some (.int .i64 ((m : Int) + 1))) none).run Tryz.prog W = .ok (.string (ba [vv])) W := by
              intro W
              have u := Tryz.underlying9
              have m2 : (m : Int) + 1 ≤ 5 := by omega
              go_simp
              rw [if_pos (by omega), if_pos (by omega)]
            clear EX
            have hs1 : ¬ 9223372036854775807 < (ba L).size + (ba [vv]).size := by omega
            have hs2 : ¬ (9223372036854775807 : Int) < ((ba L).size : Int) + ((ba [vv]).size : Int) := by omega
            have HLN : Hid ((preT k ++ vow3 L K m).length ≤ 900) := Lib.hid (by rw [List.length_append]; omega)
            have HLL := Lib.hid HTL.out.1
            have HZ : Hid (∀ W ts, CapT g w W [(B, .cells #[.string (ba L), .string k0, .string k1, .string k2, .string k3, .string k4] 102), (g + 1, .cells cs t (0, 0))] ts → W.cell? ⟨B, 0, none⟩ = some (.string (ba L))) := Lib.hid (fun W ts h => h.at (b := B) (List.mem_cons_self ..) 0)
            have hwm : IntKind.i64.wrap ((m : Int) + 1) = (m : Int) + 1 := by rw [IntKind.wrap_i64]; omega
            clear hvl
            go_wp2
            go_region_held3 (fun W => W.cell? ⟨B, 0, none⟩ = some (.string (ba L)))
              (first
                | exact HZ.out _ _ h2
                | go_keep)
              ((go_at_call 50; (refine (add_out HO.out.drew HLN.out (L ++ [vv], kn, []) _ _ _ (by rw [ba_app]) rfl rfl ⟨by rw [List.length_append]; have := HLL.out; simp; omega, by have := HKL.out; simp only; omega, by simp⟩).mono ?_); rintro e w2 ⟨rfl, h2⟩))
            go_wp2
            go_roundw
            case rel => exact ⟨m + 1, by go_num, by omega, by rw [HF.out, ← List.append_assoc]; exact h2⟩
            case measure => simp [intOf]; omega
        · have e5 : m = 5 := by omega
          subst e5
          have HO := Lib.hid ho
          clear ho
          go_wp2
          go_roundw
          case rel => exact ⟨k + 1, by go_num, by omega, by rw [HRW.out]; exact Cap.drop HO.out (fun p hp => by rw [List.mem_singleton] at hp; rw [hp]; simp)⟩
          case measure => simp [intOf]; omega
    · have e25 : k = 25 := by omega
      subst e25
      have HO := Lib.hid (show CapT g w wr [(g + 1, .cells cs t (0, 0))] tab3 by rw [← preT_all]; exact hcap)
      clear hcap
      go_wp2
      have h1 := (HO.out.alloc (.stringIter { data := #[107, 115, 116, 110, 104, 109, 114, 103, 122, 100, 98, 112] } 0)).drop (ks' := [(wr.heap.size, .stringIter (ba conB) 0)]) (fun p hp => by rw [List.mem_singleton] at hp; rw [hp]; exact List.mem_cons_self ..)
      obtain ⟨W, hW⟩ : ∃ W, wr.iter { data := #[107, 115, 116, 110, 104, 109, 114, 103, 122, 100, 98, 112] } 0 = W := ⟨_, rfl⟩
      rw [show wr.alloc (.stringIter { data := #[107, 115, 116, 110, 104, 109, 114, 103, 122, 100, 98, 112] } 0) = W from hW] at h1
      rw [hW]
      obtain ⟨B, hB⟩ : ∃ B, wr.heap.size = B := ⟨_, rfl⟩
      rw [hB] at h1 ⊢
      clear hW hB
      have H1 := Lib.hid h1
      clear h1
      go_loopw [] (fun wq => ∃ m : Nat, m ≤ 12 ∧ CapT g w wq [(B, .stringIter (ba conB) m)] (tab3 ++ (conB.take m).flatMap cons3)) (fun wq => 12 - wq.iterPos B)
      case atStart => exact ⟨0, by omega, by simpa using H1.out⟩
      case round =>
        obtain ⟨m, hm, ho⟩ := hrel
        clear H1
        have hit : wr.heap[B]? = some (.stringIter (ba conB) m) := ho.obj (List.mem_singleton.2 rfl)
        have hmi := iterPos_of hit
        by_cases hm5 : m < 12
        · have hcm : conB.getD m 0 ∈ conB := getB_mem hm5
          have hnx := next_byte conB hit hm5 (asc_con _ (List.mem_append_left _ hcm))
          have h2 := ho.iter (m + 1)
          have EC := enc_con _ (List.mem_append_left _ hcm)
          have HF := Lib.hid (cons_succ hm5)
          have hkl := con_short _ hcm
          have HLN := Lib.hid (show (tab3 ++ (conB.take m).flatMap cons3).length ≤ 200 by rw [List.length_append]; have := tab3_len; have := cons_len m hm; omega)
          have hl1 : (ba (kI (conB.getD m 0))).size ≤ 6 := by rw [ba_size]; exact hkl
          have HKL := Lib.hid hkl
          have HCM := Lib.hid hcm
          clear hkl hcm
          obtain ⟨W4, hW4⟩ : ∃ W4, wr.iterAt B (ba conB) (m + 1) = W4 := ⟨_, rfl⟩
          rw [hW4] at h2
          simp only [hW4] at hnx
          have hmi4 : W4.iterPos B = m + 1 := iterPos_of (h2.obj (List.mem_singleton.2 rfl))
          clear hW4 hit ho
          generalize conB.getD m 0 = c at *
          obtain ⟨z, hz⟩ : ∃ z : Int, (c.toNat : Int) = z := ⟨_, rfl⟩
          rw [hz] at EC hnx
          clear hz
          have hl0 : (ba [c]).size ≤ 1 := by rw [ba_size]; exact Nat.le_refl _
          obtain ⟨v, cv, hown⟩ := h2.row
          have HO := Lib.hid h2
          have HW := Lib.hid hown
          clear h2 hown
          have HL1 : Hid (∀ a : R3, ((tab3 ++ (conB.take m).flatMap cons3) ++ [a]).length ≤ 900) := Lib.hid (fun a => by have := HLN.out; simp only [List.length_append, List.length_cons, List.length_nil] at this ⊢; omega)
          have HL2 : Hid (∀ a b : R3, (((tab3 ++ (conB.take m).flatMap cons3) ++ [a]) ++ [b]).length ≤ 900) := Lib.hid (fun a b => by have := HLN.out; simp only [List.length_append, List.length_cons, List.length_nil] at this ⊢; omega)
          go_wp2_with (first
            | (go_at_call 53; (refine (find_out (n := g) hm HW.out HCM.out _ (app_lit [c] [105] _ rfl)).mono ?_); rintro e w5 ⟨rfl, hb5⟩; have HA := Lib.hid ((HO.out.later hb5).alloc (.cells #[.string (ba ([c] ++ [105])), .string (ba (kI c)), .string { data := #[] }] 64)); clear hb5 HO HW)
            | (go_at_call 50; (refine (add_out HA.out (by have := HLN.out; omega) ([c] ++ [121, 97], kI c ++ [227, 130, 131], []) _ _ _ (app_lit _ _ _ rfl) (app_lit _ _ _ rfl) rfl ⟨by simp, by rw [List.length_append]; have := HKL.out; simp; omega, by simp⟩).mono ?_); rintro e w6 ⟨rfl, h6⟩; have q6 : w6.cell? ⟨w5.heap.size, 1, none⟩ = some (.string (ba (kI c))) := h6.at (b := w5.heap.size) (List.mem_cons_self ..) 1; have HA6 := Lib.hid h6; clear h6 HA)
            | (go_at_call 50; (refine (add_out HA6.out (HL1.out _) ([c] ++ [121, 117], kI c ++ [227, 130, 133], []) _ _ _ (app_lit _ _ _ rfl) (app_lit _ _ _ rfl) rfl ⟨by simp, by rw [List.length_append]; have := HKL.out; simp; omega, by simp⟩).mono ?_); rintro e w7 ⟨rfl, h7⟩; have q7 : w7.cell? ⟨w5.heap.size, 1, none⟩ = some (.string (ba (kI c))) := h7.at (b := w5.heap.size) (List.mem_cons_self ..) 1; have HA7 := Lib.hid h7; clear h7 HA6)
            | (go_at_call 50; (refine (add_out HA7.out (HL2.out _ _) ([c] ++ [121, 111], kI c ++ [227, 130, 135], []) _ _ _ (app_lit _ _ _ rfl) (app_lit _ _ _ rfl) rfl ⟨by simp, by rw [List.length_append]; have := HKL.out; simp; omega, by simp⟩).mono ?_); rintro e w8 ⟨rfl, h8⟩; have q8 : w8.cell? ⟨w5.heap.size, 1, none⟩ = some (.string (ba (kI c))) := h8.at (b := w5.heap.size) (List.mem_cons_self ..) 1; have HA8 := Lib.hid h8; clear h8 HA7))
          have HB := Lib.hid (HA8.out.drop (ks' := [(B, .stringIter (ba conB) (m + 1))]) (fun p hp => by rw [List.mem_singleton] at hp; rw [hp]; simp))
          have hmi8 : w8.iterPos B = m + 1 := iterPos_of (HB.out.obj (List.mem_singleton.2 rfl))
          (refine ⟨?_, ?measure⟩; (repeat apply Exists.intro); refine ⟨?rel, rfl⟩)
          case rel => exact ⟨m + 1, by omega, by rw [HF.out, ← List.append_assoc]; unfold cons3 con3; have h := HB.out; rw [List.append_assoc, List.append_assoc] at h; exact h⟩
          case measure => rw [hmi8, hmi]; omega
        · have e5 : m = 12 := by omega
          subst e5
          have hnx := next_none conB hit (Nat.le_refl _)
          have HO := Lib.hid ho
          clear ho hit
          go_wp2
          have h1 := (HO.out.alloc (.stringIter { data := #[98, 99, 100, 102, 103, 104, 106, 107, 109, 112, 114, 115, 116, 118, 119, 121, 122] } 0)).drop (ks' := [(wr.heap.size, .stringIter (ba dblB) 0)]) (fun p hp => by rw [List.mem_singleton] at hp; rw [hp]; exact List.mem_cons_self ..)
          obtain ⟨W, hW⟩ : ∃ W, wr.iter { data := #[98, 99, 100, 102, 103, 104, 106, 107, 109, 112, 114, 115, 116, 118, 119, 121, 122] } 0 = W := ⟨_, rfl⟩
          rw [show wr.alloc (.stringIter { data := #[98, 99, 100, 102, 103, 104, 106, 107, 109, 112, 114, 115, 116, 118, 119, 121, 122] } 0) = W from hW] at h1
          rw [hW]
          obtain ⟨B2, hB⟩ : ∃ B2, wr.heap.size = B2 := ⟨_, rfl⟩
          rw [hB] at h1 ⊢
          clear hW hB hmi hnx
          have HX := Lib.hid con_all
          rw [con_all] at h1
          have H1 := Lib.hid h1
          clear h1
          go_loopw [] (fun wq => ∃ m : Nat, m ≤ 17 ∧ CapT g w wq [(B2, .stringIter (ba dblB) m)] (tab3 ++ conB.flatMap cons3 ++ (dblB.take m).map dbl3)) (fun wq => 17 - wq.iterPos B2)
          case atStart => exact ⟨0, by omega, by simpa using H1.out⟩
          case round =>
            obtain ⟨m, hm, ho⟩ := hrel
            clear H1
            have hit : wr.heap[B2]? = some (.stringIter (ba dblB) m) := ho.obj (List.mem_singleton.2 rfl)
            have hmi := iterPos_of hit
            by_cases hm5 : m < 17
            · have hcm : dblB.getD m 0 ∈ dblB := getB_mem hm5
              have hnx := next_byte dblB hit hm5 (asc_con _ (List.mem_append_right _ hcm))
              have h2 := ho.iter (m + 1)
              have EC := enc_con _ (List.mem_append_right _ hcm)
              have HF := Lib.hid (dbl_succ hm5)
              have HLN := Lib.hid (show (tab3 ++ conB.flatMap cons3 ++ (dblB.take m).map dbl3).length ≤ 200 by rw [List.length_append, List.length_append, List.length_map, List.length_take]; have := tab3_len; have := cons_len 12 (Nat.le_refl _); rw [con_all] at this; omega)
              clear hcm
              obtain ⟨W4, hW4⟩ : ∃ W4, wr.iterAt B2 (ba dblB) (m + 1) = W4 := ⟨_, rfl⟩
              rw [hW4] at h2
              simp only [hW4] at hnx
              clear hW4 hit ho
              generalize dblB.getD m 0 = c at *
              obtain ⟨z, hz⟩ : ∃ z : Int, (c.toNat : Int) = z := ⟨_, rfl⟩
              rw [hz] at EC hnx
              clear hz
              have hl0 : (ba [c]).size ≤ 1 := by rw [ba_size]; exact Nat.le_refl _
              have HO := Lib.hid h2
              clear h2
              go_wp2_with (go_at_call 50; (refine (add_out HO.out (by have := HLN.out; omega) (dbl3 c) _ _ _ (by rw [ba_app]; rfl) rfl rfl ⟨by simp [dbl3], by simp [dbl3], by simp [dbl3]⟩).mono ?_); rintro e w5 ⟨rfl, h5⟩)
              have hmi8 : w5.iterPos B2 = m + 1 := iterPos_of (h5.obj (List.mem_singleton.2 rfl))
              (refine ⟨?_, ?measure⟩; (repeat apply Exists.intro); refine ⟨?rel, rfl⟩)
              case rel => exact ⟨m + 1, by omega, by rw [HF.out, ← List.append_assoc]; exact h5⟩
              case measure => rw [hmi8, hmi]; omega
            · have e5 : m = 17 := by omega
              subst e5
              have hnx := next_none dblB hit (Nat.le_refl _)
              have HO := Lib.hid (show CapT g w wr [] (tab3 ++ conB.flatMap cons3 ++ dblB.map dbl3) from ho.drop (fun p hp => by cases hp))
              have hln : (tab3 ++ conB.flatMap cons3 ++ dblB.map dbl3).length ≤ 200 := by rw [List.length_append, List.length_append, List.length_map]; have := tab3_len; have := cons_len 12 (Nat.le_refl _); rw [con_all] at this; have e : dblB.length = 17 := rfl; omega
              have HY := Lib.hid (show tab3 ++ conB.flatMap cons3 ++ dblB.map dbl3 ++ [tc3] ++ n3 ++ m3 = rom3 from rfl)
              generalize tab3 ++ conB.flatMap cons3 ++ dblB.map dbl3 = T at *
              clear ho hit
              go_wp2_with (go_at_call 50; (refine (add_out HO.out (by omega) tc3 _ _ _ rfl rfl rfl ⟨by decide, by decide, by decide⟩).mono ?_); rintro e w5 ⟨rfl, h5⟩; have HP := Lib.hid h5; clear h5 HO)
              have hlt : (T ++ [tc3]).length ≤ 300 := by rw [List.length_append]; simp; omega
              generalize hT : T ++ [tc3] = T4 at *
              clear hT
              go_loopw [94] (fun i wq => ∃ m : Nat, i = .int .i64 m ∧ m ≤ 3 ∧ CapT g w wq [] (T4 ++ n3.take m)) (fun i _ => 3 - (intOf i).toNat)
              case atStart => exact ⟨0, rfl, by omega, by simpa using HP.out⟩
              case round =>
                obtain ⟨m, rfl, hm, ho⟩ := hrel
                by_cases hm5 : m < 3
                · have hg : (#[.string { data := #[110] }, .string { data := #[110, 110] }, .string { data := #[110, 39] }] : Array Value)[m]? = some (.string (ba (nth3 n3 m).1)) := by
                    match m, hm5 with
                    | 0, _ => rfl
                    | 1, _ => rfl
                    | 2, _ => rfl
                  have HI := run_index_agg Tryz.underlying105 Tryz.sizeOf9 Tryz.isAgg9 _ (m : Int) m rfl hm5 _ hg
                  have HF := Lib.hid (n3_at hm5)
                  have m0 : (0 : Int) ≤ m := by omega
                  have m1 : (m : Int) < 3 := by omega
                  have HLN := Lib.hid (show (T4 ++ n3.take m).length ≤ 900 by rw [List.length_append, List.length_take]; omega)
                  have HO := Lib.hid ho
                  clear hg ho
                  generalize nth3 n3 m = t3 at *
                  go_wp2_with (go_at_call 50; (refine (add_out HO.out HLN.out t3 _ _ _ rfl HF.out.2.1 HF.out.2.2.1 HF.out.2.2.2).mono ?_); rintro e w5 ⟨rfl, h5⟩)
                  go_roundw
                  case rel => exact ⟨m + 1, by go_num, by omega, by rw [HF.out.1, ← List.append_assoc]; exact h5⟩
                  case measure => simp [intOf]; omega
                · have e3 : m = 3 := by omega
                  subst e3
                  have HQ0 := Lib.hid (show CapT g w wr [] (T4 ++ n3) from ho)
                  have hln3 : (T4 ++ n3).length ≤ 303 := by rw [List.length_append]; have e : n3.length = 3 := rfl; omega
                  clear ho
                  generalize T4 ++ n3 = T5 at *
                  go_wp2_with (first
                    | (go_at_call 50; (refine (add_out HQ0.out (by first | omega | (simp only [List.length_append, List.length_cons, List.length_nil]; omega)) ([45], [227, 131, 188], []) _ _ _ rfl rfl rfl ⟨by decide, by decide, by decide⟩).mono ?_); rintro e w6 ⟨rfl, h6⟩; have HQ1 := Lib.hid h6; clear h6 HQ0)
                    | (go_at_call 50; (refine (add_out HQ1.out (by first | omega | (simp only [List.length_append, List.length_cons, List.length_nil]; omega)) ([44], [227, 128, 129], []) _ _ _ rfl rfl rfl ⟨by decide, by decide, by decide⟩).mono ?_); rintro e w7 ⟨rfl, h7⟩; have HQ2 := Lib.hid h7; clear h7 HQ1)
                    | (go_at_call 50; (refine (add_out HQ2.out (by first | omega | (simp only [List.length_append, List.length_cons, List.length_nil]; omega)) ([46], [227, 128, 130], []) _ _ _ rfl rfl rfl ⟨by decide, by decide, by decide⟩).mono ?_); rintro e w8 ⟨rfl, h8⟩; obtain ⟨v, cv, hown⟩ := h8.row; have HW := Lib.hid (rom_own HY.out hown); clear hown; have HQ3 := Lib.hid h8; clear h8 HQ2)
                    | (go_at_call 54; (refine (sort_out HW.out (List.Perm.refl _)).mono ?_); rintro e w9 ⟨rfl, hown9, hb9⟩; have c9 : w9.cell? ⟨g, 0, none⟩ = some v := (hb9.cell (p := ⟨g, 0, none⟩) (Nat.lt_succ_self g)).trans cv))
                  go_ret
                  exact ⟨_, rfl, own_base hown9 (by omega), by rw [hg]; exact HQ3.out.bel.trans (hb9.mono (Nat.le_succ g))⟩

end Go.Proofs.YtamdlbefiggkfaaGreat.Rom

set_option linter.unusedVariables false
set_option linter.unusedSimpArgs false
set_option maxRecDepth 100000
namespace Go.Proofs.YtamdlbefiggkfaaGreat.Aut
open Go Go.RowKit Go.Proofs.YtamdlbefiggkfaaGreat.Kit Go.Proofs.YtamdlbefiggkfaaGreat.Utf Go.Proofs.YtamdlbefiggkfaaGreat.Rom

theorem findL_app_yes (a b : List Rule) (x : ByteArray) (h : (findL a x).2 = true) : findL (a ++ b) x = findL a x := by
  induction a with
  | nil => cases h
  | cons r a ih =>
    unfold findL at h
    show (if r.k = x then (r, true) else findL (a ++ b) x) = if r.k = x then (r, true) else findL a x
    split at h
    · rename_i e; rw [if_pos e, if_pos e]
    · rename_i e; rw [if_neg e, if_neg e]; exact ih h
theorem rules_step {rs : List Rule} (hok : okL rs = true) {k : Nat} (hk : k < rs.length) : upd (rulesF (rs.take k)) (ri rs k).k (ragg (ri rs k)) = rulesF (rs.take (k + 1)) := by
  have h1 : okL (rs.take (k + 1)) = true := okL_take hok
  rw [take_succ_ri rs k hk, okL_snoc] at h1
  simp only [Bool.and_eq_true] at h1
  have hnew := h1.2.2
  funext x
  unfold upd
  rw [take_succ_ri rs k hk]
  by_cases e : x = (ri rs k).k
  · rw [if_pos e, e]
    have h2 : (findL (rs.take k) (ri rs k).k).2 = false := by rw [findL_iff, hnew]; rfl
    unfold rulesF
    rw [findL_append _ _ _ h2]
    have h3 : findL [ri rs k] (ri rs k).k = (ri rs k, true) := by unfold findL; rw [if_pos rfl]
    rw [h3]; rfl
  · rw [if_neg e]
    unfold rulesF
    cases h2 : (findL (rs.take k) x).2
    · rw [findL_append _ _ _ h2]
      have h3 : findL [ri rs k] x = (noRule, false) := by
        unfold findL; rw [if_neg (fun h => e h.symm)]; rfl
      rw [h3]; rfl
    · rw [findL_app_yes _ _ _ h2, h2]

/-- The beginnings that are known when k rules are done, and of the next one those of less than n keys. -/
def gF (rs : List Rule) (r : Rule) (n : Nat) (x : ByteArray) : Option Value :=
  if (longL rs x && decide (x.size ≠ 0)) || (decide (1 ≤ x.size ∧ x.size < n) && (bs x).isPrefixOf (bs r.k)) then some (.bool true) else none
theorem gF_start (rs : List Rule) (r : Rule) : gF rs r 1 = longF rs := by
  funext x
  unfold gF longF
  rw [decide_eq_false (by omega : ¬ (1 ≤ x.size ∧ x.size < 1)), Bool.false_and, Bool.or_false]
theorem gF_step (rs : List Rule) (r : Rule) {n : Nat} (h1 : 1 ≤ n) (h2 : n ≤ r.k.size) : upd (gF rs r n) (r.k.extract 0 n) (.bool true) = gF rs r (n + 1) := by
  funext x
  unfold upd gF
  have hsz : (r.k.extract 0 n).size = n := by rw [ByteArray.size_extract]; omega
  have hbs : bs (r.k.extract 0 n) = (bs r.k).take n := by rw [ext_take, bs_ba]
  by_cases e : x = r.k.extract 0 n
  · rw [if_pos e, if_pos]
    rw [e, hsz, hbs, Bool.or_eq_true]
    right
    rw [Bool.and_eq_true, decide_eq_true_eq, List.isPrefixOf_iff_prefix]
    exact ⟨by omega, List.take_prefix _ _⟩
  · rw [if_neg e]
    have key : (decide (1 ≤ x.size ∧ x.size < n) && (bs x).isPrefixOf (bs r.k)) = (decide (1 ≤ x.size ∧ x.size < n + 1) && (bs x).isPrefixOf (bs r.k)) := by
      by_cases hx : x.size = n
      · have : (bs x).isPrefixOf (bs r.k) = false := by
          cases hp : (bs x).isPrefixOf (bs r.k)
          · rfl
          · rw [List.isPrefixOf_iff_prefix] at hp
            have h3 := List.prefix_iff_eq_take.1 hp
            rw [bs_len, hx] at h3
            exact absurd (by rw [← ba_bs x, h3, ext_take]) e
        rw [this, Bool.and_false, Bool.and_false]
      · congr 1
        rw [Bool.eq_iff_iff, decide_eq_true_eq, decide_eq_true_eq]
        omega
    rw [key]
theorem gF_end (rs : List Rule) (r : Rule) {n : Nat} (h : n = r.k.size ∨ (r.k.size = 0 ∧ n = 1)) {k : Nat} (hk : k < rs.length) (hr : ri rs k = r) : gF (rs.take k) r n = longF (rs.take (k + 1)) := by
  funext x
  unfold gF longF
  rw [longL_succ hk, hr]
  congr 2
  unfold longR
  rw [Bool.eq_iff_iff]
  simp only [Bool.or_eq_true, Bool.and_eq_true, decide_eq_true_eq]
  constructor
  · rintro (⟨h1, h2⟩ | ⟨⟨h1, h2⟩, h3⟩)
    · exact ⟨.inl h1, h2⟩
    · exact ⟨.inr ⟨by omega, h3⟩, by omega⟩
  · rintro ⟨h1 | ⟨h1, h2⟩, h3⟩
    · exact .inl ⟨h1, h3⟩
    · exact .inr ⟨⟨by omega, by omega⟩, h2⟩

/-- What stands while New is at work: the automaton in block h + 2, its maps in h and h + 1, the rule at hand in block g. -/
structure NewSt (h g m n : Nat) (r : Rule) (f1 f2 : ByteArray → Option Value) (w W : World) : Prop where
  bel : Below w.heap.size w W
  hw : w.heap.size ≤ h
  hg : h + 2 < g
  gl : g < W.heap.size
  auto : W.heap[h + 2]? = some (.cells #[.map (some h), .map (some (h + 1))] 62 (0, 0))
  box : W.heap[g]? = some (.cells #[.string r.k, .string r.o, .string r.n] 64 (0, 0))
  m1 : MapF 9 eS W h m f1
  m2 : MapF 9 eS W (h + 1) n f2
theorem NewSt.later {h g m n : Nat} {r : Rule} {f1 f2 : ByteArray → Option Value} {w W W' : World} (s : NewSt h g m n r f1 f2 w W) (hb : Below W.heap.size W W') : NewSt h g m n r f1 f2 w W' where
  bel := s.bel.trans (hb.mono s.bel.size)
  hw := s.hw
  hg := s.hg
  gl := Nat.lt_of_lt_of_le s.gl hb.size
  auto := by rw [hb.block _ (by have := s.hg; have := s.gl; omega)]; exact s.auto
  box := by rw [hb.block _ s.gl]; exact s.box
  m1 := s.m1.later hb s.m1.lt
  m2 := s.m2.later hb s.m2.lt
theorem NewSt.put1 {h g m n : Nat} {r : Rule} {f1 f2 : ByteArray → Option Value} {w W : World} (s : NewSt h g m n r f1 f2 w W) (hm : m < 1000000) {x : ByteArray} (hx : x.size ≤ 1048576) (v : Value) :
    ∃ W', (Instr.mapUpdate 59 (.map (some h)) (.string x) v).run Tryz.prog W = .ok () W' ∧ NewSt h g (m + 1) n r (upd f1 x v) f2 w W' := by
  obtain ⟨W', hrun, hM, hgr⟩ := s.m1.put law_str eS_inj Tryz.underlying59 (by unfold maxLen; omega) (key_str (s := x) (by unfold maxLen; omega)) v
  have hg := s.hg
  have hgl := s.gl
  refine ⟨W', hrun, s.bel.grown hgr s.bel.size (fun k hk => by cases hk; exact s.hw), s.hw, s.hg, Nat.lt_of_lt_of_le s.gl hgr.size, ?_, ?_, hM, s.m2.kept hgr (by simp)⟩
  · rw [hgr.block _ (by omega) (by simp)]; exact s.auto
  · rw [hgr.block _ (by omega) (by simp; omega)]; exact s.box
theorem NewSt.put2 {h g m n : Nat} {r : Rule} {f1 f2 : ByteArray → Option Value} {w W : World} (s : NewSt h g m n r f1 f2 w W) (hn : n < 1000000) {x : ByteArray} (hx : x.size ≤ 1048576) (v : Value) :
    ∃ W', (Instr.mapUpdate 60 (.map (some (h + 1))) (.string x) v).run Tryz.prog W = .ok () W' ∧ NewSt h g m (n + 1) r f1 (upd f2 x v) w W' := by
  obtain ⟨W', hrun, hM, hgr⟩ := s.m2.put law_str eS_inj Tryz.underlying60 (by unfold maxLen; omega) (key_str (s := x) (by unfold maxLen; omega)) v
  have hg := s.hg
  have hgl := s.gl
  have hw := s.hw
  refine ⟨W', hrun, s.bel.grown hgr s.bel.size (fun k hk => by cases hk; omega), s.hw, s.hg, Nat.lt_of_lt_of_le s.gl hgr.size, ?_, ?_, s.m1.kept hgr (by simp), hM⟩
  · rw [hgr.block _ (by omega) (by simp)]; exact s.auto
  · rw [hgr.block _ (by omega) (by simp; omega)]; exact s.box
theorem NewSt.cells {h g m n : Nat} {r : Rule} {f1 f2 : ByteArray → Option Value} {w W : World} (s : NewSt h g m n r f1 f2 w W) :
    W.cell? ⟨h + 1 + 1, 0, none⟩ = some (.map (some h)) ∧ W.cell? ⟨h + 1 + 1, 1, none⟩ = some (.map (some (h + 1))) ∧ W.cell? ⟨g, 0, none⟩ = some (.string r.k) ∧ W.cell? ⟨g, 1, none⟩ = some (.string r.o) ∧ W.cell? ⟨g, 2, none⟩ = some (.string r.n) := by
  have ha : W.heap[h + 1 + 1]? = _ := s.auto
  refine ⟨?_, ?_, ?_, ?_, ?_⟩
  · rw [cell_of_row W _ 0 _ _ _ ha]; rfl
  · rw [cell_of_row W _ 1 _ _ _ ha]; rfl
  · rw [cell_of_row W _ 0 _ _ _ s.box]; rfl
  · rw [cell_of_row W _ 1 _ _ _ s.box]; rfl
  · rw [cell_of_row W _ 2 _ _ _ s.box]; rfl

/-- The same between two rules. -/
structure NewLp (h m n : Nat) (f1 f2 : ByteArray → Option Value) (w W : World) : Prop where
  bel : Below w.heap.size w W
  hw : w.heap.size ≤ h
  gl : h + 2 < W.heap.size
  auto : W.heap[h + 2]? = some (.cells #[.map (some h), .map (some (h + 1))] 62 (0, 0))
  m1 : MapF 9 eS W h m f1
  m2 : MapF 9 eS W (h + 1) n f2
theorem NewSt.lp {h g m n : Nat} {r : Rule} {f1 f2 : ByteArray → Option Value} {w W : World} (s : NewSt h g m n r f1 f2 w W) : NewLp h m n f1 f2 w W := ⟨s.bel, s.hw, by have := s.hg; have := s.gl; omega, s.auto, s.m1, s.m2⟩
theorem NewLp.st {h m n : Nat} {f1 f2 : ByteArray → Option Value} {w W : World} (s : NewLp h m n f1 f2 w W) (r : Rule) : NewSt h W.heap.size m n r f1 f2 w (W.alloc (Obj.cells #[.string r.k, .string r.o, .string r.n] 64 (0, 0))) where
  bel := s.bel.alloc s.bel.size _
  hw := s.hw
  hg := s.gl
  gl := by simp
  auto := by rw [((Below.refl W.heap.size W).alloc (Nat.le_refl _) _).block _ s.gl]; exact s.auto
  box := heap_alloc_new W _
  m1 := s.m1.alloc _
  m2 := s.m2.alloc _

theorem NewSt.three {h g m n : Nat} {r : Rule} {f1 f2 : ByteArray → Option Value} {w W : World} (s : NewSt h g m n r f1 f2 w W) :
    W.cell? ⟨h + 1 + 1, 0, none⟩ = some (.map (some h)) ∧ W.cell? ⟨g, 1, none⟩ = some (.string r.o) ∧ W.cell? ⟨g, 2, none⟩ = some (.string r.n) := ⟨s.cells.1, s.cells.2.2.2.1, s.cells.2.2.2.2⟩
theorem NewSt.drew {h g m n : Nat} {r : Rule} {f1 f2 : ByteArray → Option Value} {w W : World} (s : NewSt h g m n r f1 f2 w W) : NewSt h g m n r f1 f2 w W.drew := s.later (Below.refl _ W).drew

/-- What New hands back. -/
def NewPost (rs : List Rule) (w : World) (e : Ending) (w' : World) : Prop :=
  Below w.heap.size w w' ∧ ((checkL rs ≠ 0 ∧ e = .returned (.tuple #[.pointer none, .int .i64 (checkL rs)])) ∨ (checkL rs = 0 ∧ ∃ a, e = .returned (.tuple #[.pointer (some ⟨a, 0, none⟩), .int .i64 0]) ∧ AutoAt w'.heap.size w' a rs ∧ w.heap.size ≤ a))

theorem ok_of_check {rs : List Rule} (h : checkL rs = 0) : rs.length ≤ 500 ∧ okL rs = true := by
  unfold checkL at h
  split at h
  · cases h
  · split at h
    · rename_i h1 h2; exact ⟨by omega, h2⟩
    · cases h

set_option maxHeartbeats 8000000 in
theorem new_any (v : Value) (rs : List Rule) (w : World) (hR : RowR w v rs) (hs : ∀ r ∈ rs, Short r) :
    Calls Tryz.prog 6 #[v] w fun e w' => NewPost rs w e w' := by
  have HCK := Lib.hid (fun W (hR : RowR W v rs) => check_any v rs W hR hs)
  obtain ⟨a, len, cap, rfl, hlen, hcap, hmax, _⟩ := id hR
  subst hlen
  have HR := Lib.hid hR
  by_cases hc : checkL rs = 0
  rotate_left
  · have hne : (checkL rs != 0) = true := by simpa using hc
    have HC := Lib.hid hc
    generalize hE : checkL rs = E at HCK hne hc
    have HE := Lib.hid hE
    clear hR hs hE hc
    go_enter Tryz.func6, Tryz.ntmps6
    go_wp2_with (go_at_call 25; (with_reducible refine (HCK.out _ HR.out).mono ?_); rintro e w1 ⟨rfl, hb1⟩)
    go_ret2
    exact ⟨hb1, .inl ⟨HC.out, by rw [HE.out]; rfl⟩⟩
  obtain ⟨h500, hok⟩ := ok_of_check hc
  rw [hc] at HCK
  have HC := Lib.hid hc
  have HS := Lib.hid hs
  have HOK := Lib.hid hok
  have HCL := Lib.hid (fun (s : ByteArray) (W : World) (h : s.size ≤ 281474976710656) => Clone.clone_any s W h)
  clear hR hs hc hok
  go_enter Tryz.func6, Tryz.ntmps6
  have hmm := @run_makeMap Tryz.prog
  go_wp2_with (go_at_call 25; (with_reducible refine (HCK.out _ HR.out).mono ?_); rintro e w1 ⟨rfl, hb1⟩)
  obtain ⟨h, hh⟩ : ∃ h, w1.heap.size = h := ⟨_, rfl⟩
  obtain ⟨W, hW⟩ : ∃ W, (((w1.alloc (.map #[] 0)).alloc (.map #[] 0)).alloc (.cells #[.map (some w1.heap.size), .map (some (w1.heap.size + 1))] 62)) = W := ⟨_, rfl⟩
  have hLp : NewLp h 0 0 (rulesF (rs.take 0)) (longF (rs.take 0)) w W := by
    have hz1 : (w1.alloc (.map #[] 0)).heap.size = h + 1 := by simp [hh]
    have hz2 : ((w1.alloc (.map #[] 0)).alloc (.map #[] 0)).heap.size = h + 2 := by simp [hh]
    rw [← hW, hh]
    refine ⟨((hb1.alloc hb1.size _).alloc (by simp; exact Nat.le_succ_of_le hb1.size) _).alloc (by simp; exact Nat.le_succ_of_le (Nat.le_succ_of_le hb1.size)) _, by rw [← hh]; exact hb1.size, by simp [hh], ?_, ?_, ?_⟩
    · have := heap_alloc_new ((w1.alloc (.map #[] 0)).alloc (.map #[] 0)) (.cells #[.map (some h), .map (some (h + 1))] 62)
      rw [hz2] at this
      exact this
    · have := ((MapF.made (kt := 9) (ek := eS) w1).alloc (.map #[] 0)).alloc (.cells #[.map (some h), .map (some (h + 1))] 62)
      rw [hh] at this
      exact this
    · have := (MapF.made (kt := 9) (ek := eS) (w1.alloc (.map #[] 0))).alloc (.cells #[.map (some h), .map (some (h + 1))] 62)
      rw [hz1] at this
      exact this
  rw [hW, hh]
  clear hW hh hb1 HCK
  go_loopw [21] (fun i wr => ∃ k m : Nat, i = .int .i64 k ∧ k ≤ rs.length ∧ Hid (NewLp h k m (rulesF (rs.take k)) (longF (rs.take k)) w wr) ∧ m ≤ 4 * k) (fun i _ => rs.length - (intOf i).toNat)
  case atStart => exact ⟨0, 0, rfl, Nat.zero_le _, Lib.hid hLp, Nat.le_refl _⟩
  case round =>
    obtain ⟨k, m, rfl, hk, hlp, hm⟩ := hrel
    by_cases hkl : k < rs.length
    · obtain ⟨b, off, rfl, hb, hx⟩ := HR.out.at (by omega)
      obtain ⟨x0, x1, x2⟩ := hx k hkl
      have hbw := hlp.out.bel
      rw [← hbw.cell (p := ⟨b, _, none⟩) hb] at x0 x1 x2
      have hsr := HS.out _ (ri_mem hkl)
      have hokr := okR_next (ok_of HOK.out (ri_mem hkl))
      have hr1 := Lib.hid (rules_step HOK.out hkl)
      have hr2 := Lib.hid (fun n (h : n = (ri rs k).k.size ∨ ((ri rs k).k.size = 0 ∧ n = 1)) => gF_end rs (ri rs k) h hkl rfl)
      have k0 : (0 : Int) ≤ k := by omega
      have k1 : (k : Int) < rs.length := by omega
      obtain ⟨r, hri⟩ : ∃ r, ri rs k = r := ⟨_, rfl⟩
      rw [hri] at x0 x1 x2 hsr hokr hr1 hr2
      obtain ⟨s1, s2, s3⟩ := hsr
      have HST := Lib.hid (hlp.out.st r)
      have HBX := Lib.hid (hlp.out.st r).cells
      obtain ⟨o1, o2, o3, o4⟩ := hokr
      have HC1 := Lib.hid (fun W => HCL.out r.k W (by omega))
      have HC2 := Lib.hid (fun W => HCL.out r.o W (by omega))
      have HC3 := Lib.hid (fun W => HCL.out r.n W (by omega))
      clear hri hx hbw
      obtain ⟨g, hg⟩ : ∃ g, wr.heap.size = g := ⟨_, rfl⟩
      have HG := Lib.hid hg
      go_wp2_with (go_at_call 26; (with_reducible refine (HC1.out _).mono ?_); rintro e w2 ⟨rfl, hb2⟩; have hP := HST.out.later hb2)
      rw [HG.out] at hP
      have HP := Lib.hid hP.drew
      obtain ⟨c0, c1, c2⟩ := hP.three
      clear hP hb2 HC1 hg
      go_region_held3 (fun W => W.cell? ⟨h + 1 + 1, 0, none⟩ = some (.map (some h)) ∧ W.cell? ⟨g, 1, none⟩ = some (.string r.o) ∧ W.cell? ⟨g, 2, none⟩ = some (.string r.n))
        (first
          | exact ⟨c0, c1, c2⟩
          | exact hT
          | exact hS
          | exact hU)
        ((first
          | ((go_at_call 26; (with_reducible refine (HC2.out _).mono ?_); rintro e w3 ⟨rfl, hb3⟩; have HP3 := Lib.hid (HP.out.later hb3); have hS := HP3.out.three; clear HC2))
          | ((go_at_call 26; (with_reducible refine (HC3.out _).mono ?_); rintro e w4 ⟨rfl, hb4⟩; obtain ⟨w5, hrun, hP5⟩ := (HP3.out.later hb4).put1 (x := r.k) (by omega) s1 (.agg #[.string r.k, .string r.o, .string r.n]); have hT := (HP3.out.later hb4).three; have HP5 := Lib.hid hP5; have hU := hP5.three; clear hP5 HC3))))
      all_goals
        have HQ := HP5
        rw [show Value.agg #[Value.string r.k, Value.string r.o, Value.string r.n] = ragg r from rfl, hr1.out] at HQ
        clear HP3 hS hT hU hrun hb3 hb4 HP5 HP c0 c1 c2 x0 x1 x2 HBX HST
        go_wp2
        obtain ⟨wo, hwo⟩ : ∃ wo, wo = wr := ⟨_, rfl⟩
        subst hwo
        go_loopw [9] (fun j wr => ∃ n m2 : Nat, j = .int .i64 n ∧ 1 ≤ n ∧ n ≤ r.k.size ∧ Hid (NewSt h g (k + 1) m2 r (rulesF (rs.take (k + 1))) (gF (rs.take k) r n) w wr) ∧ m2 ≤ 4 * k + n) (fun j _ => r.k.size - (intOf j).toNat)
        case atStart => exact ⟨1, m, rfl, Nat.le_refl _, by omega, by rw [gF_start]; exact HQ, by omega⟩
        case round =>
          obtain ⟨n, m2, rfl, hn1, hn2, hst, hm2⟩ := hrel
          by_cases hnk : n < r.k.size
          · have hxs : (r.k.extract 0 n).size ≤ 1048576 := by rw [ByteArray.size_extract]; omega
            obtain ⟨w6, hrun, hP6⟩ := hst.out.drew.put2 (x := r.k.extract 0 n) (by omega) hxs (.bool true)
            rw [gF_step _ _ hn1 hn2] at hP6
            have HP6 := Lib.hid hP6
            have hc1 := hst.out.cells.2.1
            have n0 : (0 : Int) ≤ n := by omega
            have n1 : (n : Int) ≤ r.k.size := by omega
            clear hP6
            go_wp2
            go_region
            go_wp2
            go_roundw
            case rel => exact ⟨n + 1, m2 + 1, by go_num, by omega, by omega, HP6, by omega⟩
            case measure => simp [intOf]; omega
          · have e1 := Lib.hid (hr2.out n (.inl (by omega)))
            have HL := Lib.hid hst.out.lp
            rw [e1.out] at HL
            go_wp2
            go_roundw
            case rel => exact ⟨k + 1, m2, by go_num, by omega, HL, by omega⟩
            case measure => simp [intOf]; omega
    · have e1 : rs.take k = rs := List.take_of_length_le (by omega)
      rw [e1] at hlp
      clear e1
      go_wp2
      go_ret2
      refine ⟨hlp.out.bel, .inr ⟨HC.out, h + 2, rfl, ⟨h, h + 1, _, _, hlp.out.auto, ?_, ?_, ?_, hlp.out.m1, hlp.out.m2⟩, Nat.le_trans hlp.out.hw (by omega)⟩⟩
      all_goals (have := hlp.out.gl; omega)

end Go.Proofs.YtamdlbefiggkfaaGreat.Aut
