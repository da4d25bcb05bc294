/-
  Contracts of along and node.
-/
import Derived.Test.YtffljcfpofhkgaaLoH
set_option linter.unusedVariables false
set_option linter.unusedSimpArgs false
set_option maxRecDepth 100000
namespace Go.Proofs.Ytffljcfpofhkgaa.Lo
open Go Go.RowKit Go.Shelf Go.Proofs.Ytffljcfpofhkgaa.Kit Go.Proofs.Ytffljcfpofhkgaa.Bv Go.Proofs.Ytffljcfpofhkgaa.Pk
attribute [local go_sem] Oper.semAt_some

theorem along_any (a : Option Addr) (s : ByteArray) (w : World) :
    Calls Try.prog 43 #[.pointer a, .string s] w fun e w' => e = .returned (.func (.func 70) #[] #[.pointer (some ⟨w.heap.size, 0, none⟩), .pointer (some ⟨w.heap.size + 1, 0, none⟩)]) ∧
      w' = (w.alloc (.cells #[.pointer a] 24)).alloc (.cells #[.string s] 9) := by
  go_enter Try.func43, Try.ntmps43
  go_wp2
  go_ret
  exact ⟨rfl, rfl⟩
/-- Without a trie nothing comes. -/
theorem along_none (n : Nat) (hn : 1 ≤ n) {α : Type} (encs : α → Array Value) (Bt Bs n₀ : Nat) (w : World) (hBt : Bt < w.heap.size) (ct : w.cell? ⟨Bt, 0, none⟩ = some (.pointer none)) :
    SeqStopsK Fence.wide n Try.prog 70 #[.pointer (some ⟨Bt, 0, none⟩), .pointer (some ⟨Bs, 0, none⟩)] encs (KpB n₀ Bt Bs) (fun ys => ys = []) (fun _ => False) 0 w := fun l J Jx W hW hJ hJx hY hJ0 => by
  have ct1 := (hW.cell (p := ⟨Bt, 0, none⟩) hBt).trans ct
  have HJ0 := Lib.hid hJ0
  clear hJ0 hY ct hW
  refine callsIn_of_wp Try.func70 rfl trivial ?_ rfl
  simp only [Try.ntmps70, List.size_toArray, List.length_cons, List.length_nil, Nat.reduceAdd, Nat.reduceSub, Array.replicate_succ, Array.replicate_zero, List.push_toArray, List.append_toArray, List.nil_append, List.cons_append]
  gi_wp2
  refine bodyPost_ret (results_none rfl _ _ _) rfl ?_
  exact ⟨⟨_, rfl⟩, .inl ⟨[], rfl, HJ0.out⟩⟩

theorem all_last {L : List Str} (hL : Ok L) {s : Str} {ys : List (Step L)} (h : All L s ys) (hne : ∀ x ∈ ys, x.val.1 ≠ s.length) : nodeOf L s = none := by
  obtain ⟨h1, h2, h3⟩ := h
  have h4 : ys.length ≤ s.length := by
    rcases Nat.lt_or_ge s.length ys.length with h5 | h5
    · exfalso
      have h6 : ys[s.length]? = some ys[s.length] := List.getElem?_eq_getElem h5
      exact hne _ (List.mem_of_getElem? h6) (h1 _ _ h6).1
    · exact h5
  rcases h3 with h3 | h3
  · omega
  · cases h5 : nodeOf L s with
    | none => rfl
    | some k =>
      obtain ⟨i, h6⟩ := nodeOf_pref hL h5 ys.length
      rw [h6] at h3; cases h3
theorem pre_last {L : List Str} {s : Str} {ys : List (Step L)} (h : Pre L s ys) {x : Step L} (hx : x ∈ ys) (e : x.val.1 = s.length) : nodeOf L s = some x.val.2 := by
  obtain ⟨j, hj⟩ := List.mem_iff_getElem?.1 hx
  obtain ⟨h1, h2, h3⟩ := h j x hj
  rw [show j = s.length by omega, List.take_length] at h2
  exact h2
/-- What node answers. -/
def ndV (o : Option Nat) : Value := .tuple #[.int .i64 ((o.getD 0 : Nat) : Int), .bool o.isSome]

set_option maxHeartbeats 4000000 in
theorem node_any {B0 B1 : Nat} {L : List Str} {p : Nat} {w : World} (h : TrieAt B0 B1 w p L) (hL : Ok L) (hN : (Gs L).length ≤ 524287) (hB : B1 ≤ w.heap.size) (s : Str) (hsl : s.length ≤ 281474976710656) :
    Calls Try.prog 41 #[.pointer (some ⟨p, 0, none⟩), .string (ba s)] w fun e w' => e = .returned (ndV (nodeOf L s)) ∧ Below w.heap.size w w' := by
  refine (callsIn_wide (n := 3)).1 ?_
  refine callsIn_of_wp_marks Try.func41 rfl trivial ?_ rfl
  simp only [Try.ntmps41, List.size_toArray, List.length_cons, List.length_nil, Nat.reduceAdd, Nat.reduceSub, Array.replicate_succ, Array.replicate_zero, List.push_toArray, List.append_toArray, List.nil_append, List.cons_append]
  gi_wp2_with (refine ⟨trivial, ?_⟩; gi_at_call 43; refine (callsIn_wide.2 (along_any _ _ _)).mono ?_; rintro e w' ⟨rfl, rfl⟩)
  have HSZ := Lib.hid (ba_size s)
  obtain ⟨S, hS⟩ : ∃ S, ba s = S := ⟨_, rfl⟩
  have HS := Lib.hid hS
  simp only [hS]
  rw [hS] at HSZ
  have hSz : S.size ≤ 281474976710656 := by rw [HSZ.out]; exact hsl
  clear hS
  obtain ⟨W0, hW0⟩ : ∃ W0, ((((w.alloc (.cells #[.string S] 9)).alloc (.cells #[.int .i64 0] 3)).alloc (.cells #[.bool false] 4)).alloc (.cells #[.pointer (some ⟨p, 0, none⟩)] 24)).alloc (.cells #[.string S] 9) = W0 := ⟨_, rfl⟩
  have b0 : Box W0 w.heap.size (.string S) := by rw [← hW0]; exact ((((box_new w _ _ _ rfl).alloc _).alloc _).alloc _).alloc _
  have b1 : Box W0 (w.heap.size + 1) (.int .i64 0) := by rw [← hW0]; exact (((box_new _ _ _ _ (by simp)).alloc _).alloc _).alloc _
  have b2 : Box W0 (w.heap.size + 1 + 1) (.bool false) := by rw [← hW0]; exact ((box_new _ _ _ _ (by simp)).alloc _).alloc _
  have b3 : Box W0 (w.heap.size + 1 + 1 + 1) (.pointer (some ⟨p, 0, none⟩)) := by rw [← hW0]; exact (box_new _ _ _ _ (by simp)).alloc _
  have b4 : Box W0 (w.heap.size + 1 + 1 + 1 + 1) (.string S) := by rw [← hW0]; exact box_new _ _ _ _ (by simp)
  have hB0 : Below w.heap.size w W0 := by rw [← hW0]; exact (((((Below.refl _ w).alloc (Nat.le_refl _) _).alloc (by simp) _).alloc (by simp; omega) _).alloc (by simp; omega) _).alloc (by simp; omega) _
  have hs0 : W0.heap.size = w.heap.size + 5 := by rw [← hW0]; simp
  rw [hW0]
  clear hW0
  refine wpIn_rangeFunc_ownF rfl (by omega) (gf := 70) (lb := #[.pointer (some ⟨w.heap.size + 1 + 1 + 1, 0, none⟩), .pointer (some ⟨w.heap.size + 1 + 1 + 1 + 1, 0, none⟩)]) rfl trivial (enters_of Try.func70 (by kernel_rfl) rfl)
    (along_stops 2 (by omega) hL hN s hsl (w.heap.size + 1 + 1 + 1) (w.heap.size + 1 + 1 + 1 + 1) w.heap.size W0 (h.below hB0 hB) hB hB0.size (by omega) (by omega) b3.1 (by rw [HS.out]; exact b4.1)) KpB.trans (KpB.put (by omega) (by omega) (by omega)) (Below.refl _ _) (fun _ => rfl)
    (fun pre W => ((∀ x ∈ pre, x.val.1 ≠ s.length) ∧ Box W w.heap.size (.string S) ∧ Box W (w.heap.size + 1) (.int .i64 0) ∧ Box W (w.heap.size + 1 + 1) (.bool false)) ∧ Below w.heap.size w W)
    (fun cd pre W => ((cd = .ret ∧ ∃ x : Step L, x ∈ pre ∧ x.val.1 = s.length ∧ W.cell? ⟨w.heap.size + 1, 0, none⟩ = some (.int .i64 (x.val.2 : Int)) ∧ W.cell? ⟨w.heap.size + 1 + 1, 0, none⟩ = some (.bool true))) ∧ Below w.heap.size w W)
    (OwnFrom.and (Own.from (fun s A B row hs hg hr => ⟨hs.1, hs.2.1.kept hg hr, hs.2.2.1.kept hg hr, hs.2.2.2.kept hg hr⟩) _) (ownFrom_below (Nat.le_refl _) (by omega)))
    (fun cd => OwnFrom.and (Own.from (fun s A B row hs hg hr => by obtain ⟨h1, t, h2, h3, h4, h5⟩ := hs; exact ⟨h1, t, h2, h3, cell_kept h4 hg hr, cell_kept h5 hg hr⟩) _) (ownFrom_below (Nat.le_refl _) (by omega)))
    ⟨⟨by simp, b0, b1, b2⟩, hB0⟩
    (fun x => { tmps := #[.pointer (some ⟨p, 0, none⟩), .string S, undef, .pointer (some ⟨w.heap.size, 0, none⟩), .pointer (some ⟨w.heap.size + 1, 0, none⟩), .pointer (some ⟨w.heap.size + 1 + 1, 0, none⟩), .int .i64 (x.val.1 : Int), .int .i64 (x.val.2 : Int), .pointer (some ⟨p, 0, none⟩), .string S, .func (.func 70) #[] #[.pointer (some ⟨w.heap.size + 1 + 1 + 1, 0, none⟩), .pointer (some ⟨w.heap.size + 1 + 1 + 1 + 1, 0, none⟩)], .int .i64 (x.val.1 : Int), .int .i64 (x.val.2 : Int), undef, undef, undef, undef, undef], defers := [] }) ?assign ?body ?done ?stop
  case assign =>
    intro l x W K hK
    unfold stepV
    gi_wp2
    exact hK
  case body =>
    rintro l pre x W ⟨⟨hp, k0, k1, k2⟩, hBW⟩ _
    have q0 := k0.1
    have q1 := k1.1
    have q2 := k2.1
    have f1 := k1.2
    have f2 := k2.2
    have hne : w.heap.size + 1 + 1 ≠ w.heap.size + 1 := by omega
    have q2' : ∀ u, (W.setCell ⟨w.heap.size + 1, 0, none⟩ u).cell? ⟨w.heap.size + 1 + 1, 0, none⟩ = some (.bool false) := fun u => (k2.other hne 0 u).1
    by_cases hx : x.val.1 = s.length
    · have hxt : ((x.val.1 : Int) == (S.size : Int)) = true := by rw [hx, HSZ.out]; simp
      have HXX := Lib.hid hx
      clear hx
      gi_wp2
      refine ⟨(KeepsOthers.setCell _ _ _).trans (KeepsOthers.setCell _ _ _), ⟨rfl, x, by simp, HXX.out, ?_, ?_⟩, (hBW.setCell (by show w.heap.size ≤ w.heap.size + 1; omega) _).setCell (by show w.heap.size ≤ w.heap.size + 1 + 1; omega) _⟩
      · exact ((k1.set _).other (by omega) 0 _).1
      · exact ((k2.other hne 0 _).set _).1
    · have hxt : ((x.val.1 : Int) == (S.size : Int)) = false := by
        rw [beq_eq_false_iff_ne, HSZ.out]
        omega
      have HXX := Lib.hid hx
      clear hx
      gi_wp2
      exact ⟨KeepsOthers.refl _, KpB.refl _ _ _ _, ⟨fun t' ht' => (List.mem_append.1 ht').elim (hp t') (fun e => by simp at e; subst e; exact HXX.out), k0, k1, k2⟩, hBW⟩
  case done =>
    rintro D ys W hD hall ⟨⟨hne, k0, k1, k2⟩, hBW⟩ hK
    have HR := Lib.hid (all_last hL hall hne)
    have q1 := k1.1
    have q2 := k2.1
    have f1 := k1.2
    have f2 := k2.2
    have hne2 : w.heap.size + 1 + 1 ≠ w.heap.size + 1 := by omega
    have q2' : ∀ u, (W.setCell ⟨w.heap.size + 1, 0, none⟩ u).cell? ⟨w.heap.size + 1 + 1, 0, none⟩ = some (.bool false) := fun u => (k2.other hne2 0 u).1
    clear hall hne
    gi_wp2
    have hK' := ((KeepsOthers.setCell W ⟨w.heap.size + 1, 0, none⟩ (.int .i64 0)).trans (KeepsOthers.setCell _ ⟨w.heap.size + 1 + 1, 0, none⟩ (.bool false))).same D _ hK rfl
    refine ⟨by simp, .inl ⟨_, _, rfl, run_takeDeferred hK', ?_⟩⟩
    have hk5 := cell_kept ((k1.set (.int .i64 0)).other (c := w.heap.size + 1 + 1) (by omega) 0 (.bool false)).1 (grownBy_putObj' _ D (.deferred none)) (fun r e => by cases e; exact ⟨_, hK', rfl⟩)
    have hb5 := cell_kept ((k2.other hne2 0 (.int .i64 0)).set (.bool false)).1 (grownBy_putObj' _ D (.deferred none)) (fun r e => by cases e; exact ⟨_, hK', rfl⟩)
    refine ⟨.tuple #[.int .i64 0, .bool false], ?_, by rw [HR.out]; rfl, ((hBW.setCell (by show w.heap.size ≤ w.heap.size + 1; omega) _).setCell (by show w.heap.size ≤ w.heap.size + 1 + 1; omega) _).trans (belowK_b (w := w) (Nat.le_refl _) _ D _ _ (by omega) hK' rfl rfl)⟩
    simp [results, Try.f41, go_sem, hk5, hb5]
  case stop =>
    rintro D cd pre W hD hpre ⟨⟨rfl, x, hx, hxl, hk1, hk2⟩, hBW⟩ hK
    have HR := Lib.hid (pre_last hpre hx hxl)
    clear hpre hxl
    gi_wp2
    refine ⟨by simp, .inl ⟨_, _, rfl, run_takeDeferred hK, ?_⟩⟩
    have hk5 := cell_kept hk1 (grownBy_putObj' _ D (.deferred none)) (fun r e => by cases e; exact ⟨_, hK, rfl⟩)
    have hb5 := cell_kept hk2 (grownBy_putObj' _ D (.deferred none)) (fun r e => by cases e; exact ⟨_, hK, rfl⟩)
    refine ⟨.tuple #[.int .i64 (x.val.2 : Int), .bool true], ?_, by rw [HR.out]; rfl, hBW.trans (belowK_b (w := w) (Nat.le_refl _) W D _ _ (by omega) hK rfl rfl)⟩
    simp [results, Try.f41, go_sem, hk5, hb5]
end Go.Proofs.Ytffljcfpofhkgaa.Lo
