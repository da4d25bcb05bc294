/-
  Joined: LoK, LoL, LoM, LoN, LoO, LoMathH, LoP, LoQ.
-/
import Derived.RangeFuncBox
import Derived.Test.YtffljcfpofhkgaaLoMathG
import Derived.Deep.QuietTactic
import Derived.BigQuiet
import Derived.RegionTactic
import Derived.Maps.AppendAt
import Derived.Deep.AppendLies
import Derived.Deep.RegionLaw
import Derived.Deep.RegionHeld3
import Derived.Deep.DeepCutAuto
set_option linter.unusedVariables false
set_option linter.unusedSimpArgs false
set_option maxRecDepth 100000
namespace Go.Proofs.Ytffljcfpofhkgaa.Lo
open Go Go.RowKit Go.Shelf Go.Proofs.Ytffljcfpofhkgaa.Kit Go.Proofs.Ytffljcfpofhkgaa.Bv Go.Proofs.Ytffljcfpofhkgaa.Pk
attribute [local go_sem] Oper.semAt_some

/-- Hits as cells. -/
def hcs (hs : List (Nat × Nat)) : List Value := hs.flatMap fun h => [.int .i64 (h.1 : Int), .int .i64 (h.2 : Int)]
theorem hcs_append (a b : List (Nat × Nat)) : hcs (a ++ b) = hcs a ++ hcs b := by simp [hcs]
theorem hcs_len (hs : List (Nat × Nat)) : (hcs hs).length = hs.length * 2 := by
  induction hs with
  | nil => rfl
  | cons h hs ih => unfold hcs at *; rw [List.flatMap_cons, List.length_append, ih]; simp; omega
theorem info_hit : (Try.prog.info? 40).map (fun i => (i.zero, i.size, i.bytes)) = some (some (.agg #[.int .i64 0, .int .i64 0]), 2, 16) := by kernel_rfl
theorem news_two {w : World} {g : Nat} {x y : Value} {e : TypeId} (h : w.heap[g]? = some (.cells #[x, y] e (0, 0))) : ∀ j u, [x, y][j]? = some u → w.cell? (Addr.add ⟨g, 0, none⟩ j) = some u := by
  intro j u hu
  rw [Addr.add_lit, cell_of_row w g _ _ e (0, 0) h]
  rw [Nat.zero_add, ← Array.getElem?_toList]
  exact hu
/-- What Prefixes leaves. -/
def PxP (hs : List (Nat × Nat)) (w : World) (e : Ending) (w' : World) : Prop := ∃ v, e = .returned v ∧ w'.ownsRow w.heap.size 40 2 v hs.length (hcs hs) ∧ Below w.heap.size w w'
/-- What a round of Prefixes leaves in its box. -/
def PxI (L : List Str) (n₀ b : Nat) (pre : List (Step L)) (W : World) : Prop := ∃ v, Boxed W b 35 v ∧ W.ownsRow n₀ 40 2 v (hitsOf L pre).length (hcs (hitsOf L pre)) ∧ True
theorem pxI_own (L : List Str) (n₀ b : Nat) : Own (PxI L n₀ b) := holdsRow_own n₀ b 35 40 2 (fun pre => (hitsOf L pre).length) (fun pre => hcs (hitsOf L pre)) (fun _ _ => True)
theorem PxI.below {L : List Str} {n₀ b : Nat} {pre : List (Step L)} {W W' : World} (h : PxI L n₀ b pre W) (hb : Below W.heap.size W W') : PxI L n₀ b pre W' := pxI_own L n₀ b pre W W' none h (below_grown hb) (fun r e => by cases e)

/-- Behind an append to a row whose slice lies in a box, stored there. -/
theorem box_appended {n₀ n1 b : Nat} {W w1 : World} {v v' : Value} {k m : Nat} {xs ys : List Value} {tmp : Obj} (hv : Boxed W b 35 v) (hrow : W.ownsRow n1 40 2 v k xs) (h0 : n₀ ≤ b) (h1 : b < n1) (hW : n1 ≤ W.heap.size)
    (hown' : w1.ownsRow n1 40 2 v' m ys) (hgrow : (W.alloc tmp).grownBy w1 v.ownBlock) :
    w1.cell? ⟨b, 0, none⟩ = some v ∧ w1.frozen? ⟨b, 0, none⟩ = false ∧ Boxed (w1.setCell ⟨b, 0, none⟩ v') b 35 v' ∧ (w1.setCell ⟨b, 0, none⟩ v').ownsRow n1 40 2 v' m ys ∧ KeepsOthers W (w1.setCell ⟨b, 0, none⟩ v') ∧ Below n₀ W (w1.setCell ⟨b, 0, none⟩ v') ∧
      ∀ j, j < n1 → j ≠ b → (w1.setCell ⟨b, 0, none⟩ v').heap[j]? = W.heap[j]? := by
  obtain ⟨hv1, hv2, _, hk2, hb2⟩ := hv.appended (n₀ := n₀) (by decide) (own_base hrow (by omega)) (by omega) h0 (own_base hown' (by omega)) hgrow
  refine ⟨hv1.cell, hv1.frozen, hv2, ownsRow_setCell_below hown' (a := ⟨b, 0, none⟩) h1 _, hk2, hb2, fun j hj hne => ?_⟩
  rw [Below.heap_setCell w1 ⟨b, 0, none⟩ v' j hne, hgrow.block j (by simp; omega) (fun e => by have := (hrow.lt j e.symm).1; omega), Below.heap_alloc W tmp j (by omega)]

set_option maxHeartbeats 4000000 in
theorem prefixes_any {B0 B1 : Nat} {L : List Str} {p : Nat} {w : World} (h : TrieAt B0 B1 w p L) (hL : Ok L) (hN : (Gs L).length ≤ 524287) (hm : L.length ≤ 1048576) (hB : B1 ≤ w.heap.size) (s : Str) (hsl : s.length ≤ 281474976710656) :
    Calls Try.prog 22 #[.pointer (some ⟨p, 0, none⟩), .string (ba s)] w (PxP (hits L s) w) := by
  obtain ⟨i0, hi, hz0, hz1, hz2⟩ := info_parts info_hit
  refine (callsIn_wide (n := 3)).1 ?_
  refine callsIn_of_wp_marks Try.func22 rfl trivial ?_ rfl
  simp only [Try.ntmps22, List.size_toArray, List.length_cons, List.length_nil, Nat.reduceAdd, Nat.reduceSub, Array.replicate_succ, Array.replicate_zero, List.push_toArray, List.append_toArray, List.nil_append, List.cons_append]
  gi_wp2_with (refine ⟨trivial, ?_⟩; gi_at_call 43; refine (callsIn_wide.2 (along_any _ _ _)).mono ?_; rintro e w' ⟨rfl, rfl⟩)
  obtain ⟨S, hS⟩ : ∃ S, ba s = S := ⟨_, rfl⟩
  have HS := Lib.hid hS
  simp only [hS]
  clear hS
  obtain ⟨W0, hW0⟩ : ∃ W0, (((w.alloc (.cells #[.pointer (some ⟨p, 0, none⟩)] 24)).alloc (.cells #[.slice none 0 0] 35)).alloc (.cells #[.pointer (some ⟨p, 0, none⟩)] 24)).alloc (.cells #[.string S] 9) = W0 := ⟨_, rfl⟩
  have b0 : Box W0 w.heap.size (.pointer (some ⟨p, 0, none⟩)) := by rw [← hW0]; exact (((box_new w _ _ _ rfl).alloc _).alloc _).alloc _
  have b1 : Boxed W0 (w.heap.size + 1) 35 (.slice none 0 0) := by
    rw [← hW0]
    have h1 := Boxed.new (w.alloc (.cells #[.pointer (some ⟨p, 0, none⟩)] 24)) 35 (.slice none 0 0)
    rw [World.size_alloc] at h1
    exact (h1.alloc _).alloc _
  have b2 : Box W0 (w.heap.size + 1 + 1) (.pointer (some ⟨p, 0, none⟩)) := by rw [← hW0]; exact (box_new _ _ _ _ (by simp)).alloc _
  have b3 : Box W0 (w.heap.size + 1 + 1 + 1) (.string S) := by rw [← hW0]; exact box_new _ _ _ _ (by simp)
  have hB0 : Below w.heap.size w W0 := by rw [← hW0]; exact ((((Below.refl _ w).alloc (Nat.le_refl _) _).alloc (by simp) _).alloc (by simp; omega) _).alloc (by simp; omega) _
  have hs0 : W0.heap.size = w.heap.size + 4 := by rw [← hW0]; simp
  rw [hW0]
  clear hW0
  refine wpIn_rangeFunc_ownG rfl (by omega) (gf := 70) (lb := #[.pointer (some ⟨w.heap.size + 1 + 1, 0, none⟩), .pointer (some ⟨w.heap.size + 1 + 1 + 1, 0, none⟩)]) rfl trivial (enters_of Try.func70 (by kernel_rfl) rfl)
    (along_stops 2 (by omega) hL hN s hsl (w.heap.size + 1 + 1) (w.heap.size + 1 + 1 + 1) w.heap.size W0 (h.below hB0 hB) hB hB0.size (by omega) (by omega) b2.1 (by rw [HS.out]; exact b3.1)) KpB.trans (KpB.put (by omega) (by omega) (by omega)) (Below.refl _ _) (fun _ => rfl)
    (fun pre W => (PxI L (w.heap.size + 4) (w.heap.size + 1) pre W ∧ Box W w.heap.size (.pointer (some ⟨p, 0, none⟩))) ∧ Below w.heap.size w W ∧ w.heap.size + 4 ≤ W.heap.size)
    (fun _ _ _ => False)
    (OwnFrom.and (OwnFrom.and (Own.from (pxI_own L (w.heap.size + 4) (w.heap.size + 1)) _) (Own.from (fun s A B row hs hg hr => hs.kept hg hr) _)) (OwnFrom.and (ownFrom_below (Nat.le_refl _) (by omega)) (fun s A B row hs hg hr => Nat.le_trans hs hg.size)))
    (fun _ _ _ _ _ hs _ _ => hs)
    ⟨⟨⟨_, b1, World.ownsRow_nil _ _ _ _, trivial⟩, b0⟩, hB0, by omega⟩
    (fun x => { tmps := #[.pointer (some ⟨p, 0, none⟩), .string S, .pointer (some ⟨w.heap.size, 0, none⟩), undef, .slice none 0 0, .pointer (some ⟨w.heap.size + 1, 0, none⟩), .int .i64 (x.val.1 : Int), .int .i64 (x.val.2 : Int), undef, undef, .pointer (some ⟨p, 0, none⟩), .string S, .func (.func 70) #[] #[.pointer (some ⟨w.heap.size + 1 + 1, 0, none⟩), .pointer (some ⟨w.heap.size + 1 + 1 + 1, 0, none⟩)], .int .i64 (x.val.1 : Int), .int .i64 (x.val.2 : Int), undef, undef, undef, undef, undef, undef, undef, undef, undef, undef, undef, undef, undef, undef], defers := [] }) ?assign ?body ?done ?stop
  case assign =>
    intro l x W K hK
    unfold stepV
    gi_wp2
    exact hK
  case body =>
    rintro l pre x W ⟨⟨hI, k0⟩, hBW, hsW⟩ hlt
    have q0 := k0.1
    have hpl := hitsOf_len L pre
    have hd : 1 ≤ 3 - 1 - 1 := by omega
    cases hs : isS L (gd L x.val.2) with
    | true =>
      have HY := Lib.hid (number_yes (h.below hBW hB) hL hN hm (by omega) x.property hs)
      have HH := Lib.hid (hitsOf_yes pre hs)
      obtain ⟨f, hf⟩ : ∃ f, (gd L x.val.2).f = f := ⟨_, rfl⟩
      rw [hf] at HY HH
      obtain ⟨m, hmm⟩ : ∃ m, (hitsOf L pre).length = m := ⟨_, rfl⟩
      have HM := Lib.hid hmm
      have hml : m ≤ 257 := by omega
      have HI := Lib.hid hI
      clear hs hf hI hmm
      have HD := Lib.hid (fun V (hV : Below W.heap.size W V) => show Box V w.heap.size (.pointer (some ⟨p, 0, none⟩)) from k0.below hV)
      have HKW := Lib.hid (fun V (hV : Below W.heap.size W V) => show KeepsOthers W V from KeepsOthers.of_grownBy (below_grown hV) (fun j o e _ => by cases e))
      gi_wp2_with (first
        | (refine ⟨trivial, ?_⟩; gi_at_call 42; refine (CallsIn.inRound l (callsIn_wide.2 HY.out)).mono ?_; rintro e w1 ⟨rfl, hb1⟩; obtain ⟨v, hv, hrow, _⟩ := HI.out.below hb1; have hc := hv.cell; have hs1 := hb1.size; rw [HM.out] at hrow)
        | (gi_at_builtin; refine wpListIn_append_own _ rfl _ _ 35 rfl (w.heap.size + 4) 40 i0 _ 2 16 Try.underlying35 hi hz0 hz1 hz2 rfl (by decide) _ m _ rfl (hrow.alloc _) ⟨w1.heap.size, 0, none⟩ 1 1 [.int .i64 (f : Int), .int .i64 (x.val.1 : Int)] rfl rfl (news_two (heap_alloc_new w1 _)) (by simp [Value.oneCell']) (by unfold maxLen; omega) (by omega) (by simp; omega) ?_; intro v' w2 hown' hgrow _; obtain ⟨g', cap', rfl⟩ := ownsRow_succ hown'; obtain ⟨hc1, hf1, hv2, hr2, hk2, hb2, hj2⟩ := box_appended (n₀ := w.heap.size) hv hrow (by omega) (by omega) (by omega) hown' hgrow))
      have hk3 := HD.out _ hb1
      have hbb := (hb1.mono hBW.size).trans hb2
      refine ⟨((HKW.out _ hb1).trans hk2).from _, ⟨hbb, (hj2 _ (by omega) (by omega)).trans (hb1.block _ (by omega)), (hj2 _ (by omega) (by omega)).trans (hb1.block _ (by omega))⟩, ⟨⟨_, hv2, ?_, trivial⟩, ?_⟩, hBW.trans hbb, Nat.le_trans hsW hbb.size⟩
      · rw [HH.out, hcs_append, List.length_append, HM.out]; exact hr2
      · have e := hj2 w.heap.size (by omega) (by omega)
        exact ⟨(World.cell?_of_block e).trans hk3.1, by have := hk3.2; simp only [World.frozen?] at this ⊢; rw [e]; exact this⟩
    | false =>
      have HY := Lib.hid (number_no (h.below hBW hB) hN (by omega) x.property hs)
      have HH := Lib.hid (hitsOf_no pre hs)
      have HI := Lib.hid hI
      clear hs hI
      gi_wp2_with (refine ⟨trivial, ?_⟩; gi_at_call 42; refine (CallsIn.inRound l (callsIn_wide.2 HY.out)).mono ?_; rintro e w1 ⟨rfl, rfl⟩)
      exact ⟨KeepsFrom.refl _ _, KpB.refl _ _ _ _, ⟨by unfold PxI; rw [HH.out]; exact HI.out, k0⟩, hBW, hsW⟩
  case done =>
    rintro D ys W hD hall ⟨⟨⟨v, hv, hrow, _⟩, k0⟩, hBW, hsW⟩ hK
    have HR := Lib.hid (hits_all hL hall)
    have hc := hv.cell
    have HROW := Lib.hid hrow
    clear hall hrow
    gi_wp2
    refine ⟨by simp, .inl ⟨_, _, rfl, run_takeDeferred hK, ?_⟩⟩
    exact ⟨_, results_tmp rfl _ _ _, v, rfl, by rw [← HR.out]; exact own_base (ownsRow_putObj HROW.out _ hK rfl) (by omega), hBW.trans (belowK_b (w := w) (Nat.le_refl _) W D _ _ (by omega) hK rfl rfl)⟩
  case stop =>
    rintro D cd pre W hD hpre h1 hK
    exact h1.elim
end Go.Proofs.Ytffljcfpofhkgaa.Lo

set_option linter.unusedVariables false
set_option linter.unusedSimpArgs false
set_option maxRecDepth 100000
namespace Go.Proofs.Ytffljcfpofhkgaa.Lo
open Go Go.RowKit Go.Proofs.Ytffljcfpofhkgaa.Kit Go.Proofs.Ytffljcfpofhkgaa.Bv Go.Proofs.Ytffljcfpofhkgaa.Pk

/-! ### rows of strings -/
def strs (L : List Str) : List Value := L.map fun s => Value.string (ba s)
theorem strs_len (L : List Str) : (strs L).length = L.length := by simp [strs]
theorem strs_append (a b : List Str) : strs (a ++ b) = strs a ++ strs b := by simp [strs]
theorem strs_get {L : List Str} {i : Nat} (h : i < L.length) : (strs L)[i]? = some (.string (ba (sg L i))) := by
  unfold strs; rw [List.getElem?_map, sg_get h]; rfl
theorem info_str : (Try.prog.info? 9).map (fun i => (i.zero, i.size, i.bytes)) = some (some (.string { data := #[] }), 1, 16) := by kernel_rfl

theorem lcp_step {a b : Str} {n : Nat} (h : n ≤ lcp a b) : n + 1 ≤ lcp a b ↔ n < a.length ∧ n < b.length ∧ a.getD n 0 = b.getD n 0 := by
  rw [lcp_le]
  have h1 := (lcp_le _ _ _).1 h
  constructor
  · rintro ⟨h2, h3, h4⟩
    refine ⟨h2, h3, ?_⟩
    rw [take_snoc _ _ h2, take_snoc _ _ h3, h1.2.2] at h4
    have := List.append_cancel_left h4
    simpa using this
  · rintro ⟨h2, h3, h4⟩
    exact ⟨h2, h3, by rw [take_snoc _ _ h2, take_snoc _ _ h3, h1.2.2, h4]⟩
theorem lcp_stop {a b : Str} {n : Nat} (h : n ≤ lcp a b) (hn : ¬ (n < a.length ∧ n < b.length ∧ a.getD n 0 = b.getD n 0)) : lcp a b = n := by
  rcases Nat.lt_or_ge n (lcp a b) with h1 | h1
  · exact absurd ((lcp_step h).1 h1) hn
  · omega

set_option maxHeartbeats 2000000 in
theorem shared_any (a b : Str) (w : World) (ha : a.length ≤ 281474976710656) (hb : b.length ≤ 281474976710656) :
    Calls Try.prog 38 #[.string (ba a), .string (ba b)] w fun e w' => e = .returned (.int .i64 (lcp a b : Nat)) ∧ Below w.heap.size w w' := by
  have HIA := Lib.hid (fun i hi W => ba_byte a i hi W)
  have HIB := Lib.hid (fun i hi W => ba_byte b i hi W)
  have HSA := Lib.hid (ba_size a)
  have HSB := Lib.hid (ba_size b)
  obtain ⟨A, hA⟩ : ∃ A, ba a = A := ⟨_, rfl⟩
  obtain ⟨B, hB⟩ : ∃ B, ba b = B := ⟨_, rfl⟩
  rw [hA] at HIA HSA ⊢
  rw [hB] at HIB HSB ⊢
  have hA1 : A.size ≤ 281474976710656 := by rw [HSA.out]; exact ha
  have hB1 : B.size ≤ 281474976710656 := by rw [HSB.out]; exact hb
  have HST := Lib.hid (fun n h => @lcp_step a b n h)
  have HSP := Lib.hid (fun n h k => @lcp_stop a b n h k)
  clear hA hB ha hb
  go_enter Try.func38, Try.ntmps38
  go_wp2
  go_loopw [5] (fun y wr => ∃ n nq : Nat, y = .int .i64 (n : Int) ∧ Hid (n ≤ lcp a b) ∧ n ≤ A.size ∧ wr = w.drewN nq) (fun y _ => A.size - (intOf y).toNat)
  case atStart => exact ⟨0, 0, rfl, Lib.hid (Nat.zero_le _), Nat.zero_le _, rfl⟩
  case round =>
    obtain ⟨n, nq, rfl, hn, hnA, rfl⟩ := hrel
    have HN := HST.out n hn.out
    have HM := HSP.out n hn.out
    by_cases h1 : n < A.size
    · by_cases h2 : n < B.size
      · have x1 := HIA.out n (by have := HSA.out; omega)
        have x2 := HIB.out n (by have := HSB.out; omega)
        have z1 : (n : Int) < (A.size : Int) := by omega
        have z2 : (n : Int) < (B.size : Int) := by omega
        have z0 : (0 : Int) ≤ (n : Int) := by omega
        by_cases h3 : a.getD n 0 = b.getD n 0
        · have hx : Hid (n + 1 ≤ lcp a b) := Lib.hid (HN.2 ⟨by have := HSA.out; omega, by have := HSB.out; omega, h3⟩)
          have heq : (((a.getD n 0).toNat : Int) == ((b.getD n 0).toNat : Int)) = true := by rw [h3]; simp
          obtain ⟨u, hu⟩ : ∃ u, (a.getD n 0).toNat = u := ⟨_, rfl⟩
          obtain ⟨v, hv⟩ : ∃ v, (b.getD n 0).toNat = v := ⟨_, rfl⟩
          rw [hu, hv] at heq
          rw [hu] at x1
          rw [hv] at x2
          clear HN HM h3 hu hv h1 h2
          go_wp2
          go_quiet (fail)
          go_wp2
          go_roundw
          case rel => exact ⟨n + 1, _, by go_num, hx, by omega, rfl⟩
          case measure => simp [intOf]; omega
        · have hx : Hid (lcp a b = n) := Lib.hid (HM (fun h => h3 h.2.2))
          have heq : (((a.getD n 0).toNat : Int) == ((b.getD n 0).toNat : Int)) = false := by
            rw [beq_eq_false_iff_ne]
            intro e
            exact h3 (UInt8.toNat_inj.1 (by omega))
          obtain ⟨u, hu⟩ : ∃ u, (a.getD n 0).toNat = u := ⟨_, rfl⟩
          obtain ⟨v, hv⟩ : ∃ v, (b.getD n 0).toNat = v := ⟨_, rfl⟩
          rw [hu, hv] at heq
          rw [hu] at x1
          rw [hv] at x2
          clear HN HM h3 hu hv h1 h2
          go_wp2
          go_quiet (fail)
          go_wp2
          go_ret
          exact ⟨ret_int (by rw [hx.out]), by repeat (first | exact below_drewN (Below.refl _ _) _ | apply below_drewN)⟩
      · have hx : Hid (lcp a b = n) := Lib.hid (HM (fun h => h2 (by have := HSB.out; omega)))
        have z1 : (n : Int) < (A.size : Int) := by omega
        have z2 : decide (n < B.size) = false := decide_eq_false h2
        clear HN HM h1 h2
        go_wp2
        go_quiet (fail)
        go_wp2
        go_ret
        exact ⟨ret_int (by rw [hx.out]), by repeat (first | exact below_drewN (Below.refl _ _) _ | apply below_drewN)⟩
    · have hx : Hid (lcp a b = n) := Lib.hid (HM (fun h => h1 (by have := HSA.out; omega)))
      have z1 : decide (n < A.size) = false := decide_eq_false h1
      clear HN HM h1
      go_wp2
      go_quiet (fail)
      go_wp2
      go_ret
      exact ⟨ret_int (by rw [hx.out]), by repeat (first | exact below_drewN (Below.refl _ _) _ | apply below_drewN)⟩
set_option maxHeartbeats 2000000 in
theorem common_any (a b : Str) (w : World) (ha : a.length ≤ 281474976710656) (hb : b.length ≤ 281474976710656) :
    Calls Try.prog 67 #[.string (ba a), .string (ba b)] w fun e w' => e = .returned (.int .i64 (lcp a b : Nat)) ∧ Below w.heap.size w w' := by
  have HIA := Lib.hid (fun i hi W => ba_byte a i hi W)
  have HIB := Lib.hid (fun i hi W => ba_byte b i hi W)
  have HSA := Lib.hid (ba_size a)
  have HSB := Lib.hid (ba_size b)
  obtain ⟨A, hA⟩ : ∃ A, ba a = A := ⟨_, rfl⟩
  obtain ⟨B, hB⟩ : ∃ B, ba b = B := ⟨_, rfl⟩
  rw [hA] at HIA HSA ⊢
  rw [hB] at HIB HSB ⊢
  have hA1 : A.size ≤ 281474976710656 := by rw [HSA.out]; exact ha
  have hB1 : B.size ≤ 281474976710656 := by rw [HSB.out]; exact hb
  have HST := Lib.hid (fun n h => @lcp_step a b n h)
  have HSP := Lib.hid (fun n h k => @lcp_stop a b n h k)
  clear hA hB ha hb
  go_enter Try.func67, Try.ntmps67
  go_wp2
  go_loopw [5] (fun y wr => ∃ n nq : Nat, y = .int .i64 (n : Int) ∧ Hid (n ≤ lcp a b) ∧ n ≤ A.size ∧ wr = w.drewN nq) (fun y _ => A.size - (intOf y).toNat)
  case atStart => exact ⟨0, 0, rfl, Lib.hid (Nat.zero_le _), Nat.zero_le _, rfl⟩
  case round =>
    obtain ⟨n, nq, rfl, hn, hnA, rfl⟩ := hrel
    have HN := HST.out n hn.out
    have HM := HSP.out n hn.out
    by_cases h1 : n < A.size
    · by_cases h2 : n < B.size
      · have x1 := HIA.out n (by have := HSA.out; omega)
        have x2 := HIB.out n (by have := HSB.out; omega)
        have z1 : (n : Int) < (A.size : Int) := by omega
        have z2 : (n : Int) < (B.size : Int) := by omega
        have z0 : (0 : Int) ≤ (n : Int) := by omega
        by_cases h3 : a.getD n 0 = b.getD n 0
        · have hx : Hid (n + 1 ≤ lcp a b) := Lib.hid (HN.2 ⟨by have := HSA.out; omega, by have := HSB.out; omega, h3⟩)
          have heq : (((a.getD n 0).toNat : Int) == ((b.getD n 0).toNat : Int)) = true := by rw [h3]; simp
          obtain ⟨u, hu⟩ : ∃ u, (a.getD n 0).toNat = u := ⟨_, rfl⟩
          obtain ⟨v, hv⟩ : ∃ v, (b.getD n 0).toNat = v := ⟨_, rfl⟩
          rw [hu, hv] at heq
          rw [hu] at x1
          rw [hv] at x2
          clear HN HM h3 hu hv h1 h2
          go_wp2
          go_quiet (fail)
          go_wp2
          go_roundw
          case rel => exact ⟨n + 1, _, by go_num, hx, by omega, rfl⟩
          case measure => simp [intOf]; omega
        · have hx : Hid (lcp a b = n) := Lib.hid (HM (fun h => h3 h.2.2))
          have heq : (((a.getD n 0).toNat : Int) == ((b.getD n 0).toNat : Int)) = false := by
            rw [beq_eq_false_iff_ne]
            intro e
            exact h3 (UInt8.toNat_inj.1 (by omega))
          obtain ⟨u, hu⟩ : ∃ u, (a.getD n 0).toNat = u := ⟨_, rfl⟩
          obtain ⟨v, hv⟩ : ∃ v, (b.getD n 0).toNat = v := ⟨_, rfl⟩
          rw [hu, hv] at heq
          rw [hu] at x1
          rw [hv] at x2
          clear HN HM h3 hu hv h1 h2
          go_wp2
          go_quiet (fail)
          go_wp2
          go_ret
          exact ⟨ret_int (by rw [hx.out]), by repeat (first | exact below_drewN (Below.refl _ _) _ | apply below_drewN)⟩
      · have hx : Hid (lcp a b = n) := Lib.hid (HM (fun h => h2 (by have := HSB.out; omega)))
        have z1 : (n : Int) < (A.size : Int) := by omega
        have z2 : decide (n < B.size) = false := decide_eq_false h2
        clear HN HM h1 h2
        go_wp2
        go_quiet (fail)
        go_wp2
        go_ret
        exact ⟨ret_int (by rw [hx.out]), by repeat (first | exact below_drewN (Below.refl _ _) _ | apply below_drewN)⟩
    · have hx : Hid (lcp a b = n) := Lib.hid (HM (fun h => h1 (by have := HSA.out; omega)))
      have z1 : decide (n < A.size) = false := decide_eq_false h1
      clear HN HM h1
      go_wp2
      go_quiet (fail)
      go_wp2
      go_ret
      exact ⟨ret_int (by rw [hx.out]), by repeat (first | exact below_drewN (Below.refl _ _) _ | apply below_drewN)⟩
end Go.Proofs.Ytffljcfpofhkgaa.Lo

set_option linter.unusedVariables false
set_option linter.unusedSimpArgs false
set_option maxRecDepth 100000
namespace Go.Proofs.Ytffljcfpofhkgaa.Lo
open Go Go.RowKit Go.Proofs.Ytffljcfpofhkgaa.Kit Go.Proofs.Ytffljcfpofhkgaa.Bv Go.Proofs.Ytffljcfpofhkgaa.Pk

def grV (g : Grp) : Value := .agg #[.int .i64 (g.f : Int), .int .i64 (g.t : Int), .int .i64 (g.n : Int)]
/-- Three cells that the call has laid. -/
def Box3 (W : World) (b : Nat) (x y z : Value) : Prop := W.cell? ⟨b, 0, none⟩ = some x ∧ W.cell? ⟨b, 1, none⟩ = some y ∧ W.cell? ⟨b, 2, none⟩ = some z ∧ ∀ j, W.frozen? ⟨b, j, none⟩ = false
theorem box3_new (w : World) (x y z : Value) (t : TypeId) (B : Nat) (hB : B = w.heap.size) : Box3 (w.alloc (.cells #[x, y, z] t)) B x y z := by
  subst hB
  have h : (w.alloc (.cells #[x, y, z] t)).heap[w.heap.size]? = some (.cells #[x, y, z] t (0, 0)) := heap_alloc_new w _
  refine ⟨by rw [cell_of_row _ _ 0 _ _ _ h]; rfl, by rw [cell_of_row _ _ 1 _ _ _ h]; rfl, by rw [cell_of_row _ _ 2 _ _ _ h]; rfl, fun j => ?_⟩
  simp only [World.frozen?, h]
  simp
theorem Box3.of {W W' : World} {b : Nat} {x y z : Value} (h : Box3 W b x y z) (e : W'.heap[b]? = W.heap[b]?) : Box3 W' b x y z :=
  ⟨(World.cell?_of_block e).trans h.1, (World.cell?_of_block e).trans h.2.1, (World.cell?_of_block e).trans h.2.2.1, fun j => by have := h.2.2.2 j; simp only [World.frozen?] at this ⊢; rw [e]; exact this⟩

set_option maxHeartbeats 2000000 in
theorem isString_any (L : List Str) (g : Grp) (a : Option Addr) (cap : Nat) (w : World) (hR : Reads w (.slice a L.length cap) (strs L)) (ht : g.t ≤ L.length) :
    Calls Try.prog 64 #[grV g, .slice a L.length cap] w fun e w' => e = .returned (.bool (isS L g)) ∧ Below w.heap.size w w' := by
  have hlen := hR.len.2
  unfold maxLen at hlen
  obtain ⟨f, t, n⟩ := g
  simp only at ht
  unfold grV
  simp only
  obtain ⟨W1, hW1⟩ : ∃ W1, w.alloc (.cells #[.int .i64 (f : Int), .int .i64 (t : Int), .int .i64 (n : Int)] 92) = W1 := ⟨_, rfl⟩
  have hb1 : Below w.heap.size w W1 := by rw [← hW1]; exact (Below.refl _ w).alloc (Nat.le_refl _) _
  have hx : Box3 W1 w.heap.size (.int .i64 (f : Int)) (.int .i64 (t : Int)) (.int .i64 (n : Int)) := by rw [← hW1]; exact box3_new w _ _ _ _ _ rfl
  obtain ⟨x0, x1, x2, x3⟩ := hx
  have HW1 := Lib.hid hW1
  obtain ⟨m, hm⟩ : ∃ m, L.length = m := ⟨_, rfl⟩
  have HM := Lib.hid hm
  rw [hm] at ht hlen hR ⊢
  clear hW1 hm x3
  by_cases hft : f < t
  · obtain ⟨b, off, rfl, hblt, hc0⟩ := Reads.cell hR (strs_get (L := L) (i := f) (by rw [HM.out]; omega))
    have hcell : W1.cell? ⟨b, off + f, none⟩ = some (.string (ba (sg L f))) := by rw [hb1.cell (p := ⟨b, off + f, none⟩) hblt]; exact hc0
    have hsz := ba_size (sg L f)
    have z1 : (f : Int) < (t : Int) := by omega
    have z2 : (f : Int) < (m : Int) := by omega
    have z0 : (0 : Int) ≤ (f : Int) := by omega
    have hIS : isS L ⟨f, t, n⟩ = decide (ln L f = n) := by unfold isS; rw [decide_eq_true hft]; rfl
    unfold ln at hIS
    obtain ⟨S, hS⟩ : ∃ S, ba (sg L f) = S := ⟨_, rfl⟩
    rw [hS] at hcell hsz
    rw [hIS]
    by_cases h1 : (sg L f).length = n
    · have heq : ((S.size : Int) == (n : Int)) = true := by rw [beq_iff_eq]; omega
      rw [decide_eq_true h1]
      clear hS hsz hc0 hR hft h1 hIS
      go_enter Try.func64, Try.ntmps64
      go_wp2
      rw [HW1.out]
      go_quiet (fail)
      go_wp2
      go_ret
      exact ⟨rfl, by repeat (first | exact below_drewN hb1 _ | apply below_drewN)⟩
    · have heq : ((S.size : Int) == (n : Int)) = false := by rw [beq_eq_false_iff_ne]; omega
      rw [decide_eq_false h1]
      clear hS hsz hc0 hR hft h1 hIS
      go_enter Try.func64, Try.ntmps64
      go_wp2
      rw [HW1.out]
      go_quiet (fail)
      go_wp2
      go_ret
      exact ⟨rfl, by repeat (first | exact below_drewN hb1 _ | apply below_drewN)⟩
  · have hIS : isS L ⟨f, t, n⟩ = false := by unfold isS; rw [decide_eq_false hft]; rfl
    have z1 : decide (f < t) = false := decide_eq_false hft
    rw [hIS]
    clear hft hIS hR
    go_enter Try.func64, Try.ntmps64
    go_wp2
    rw [HW1.out]
    go_quiet (fail)
    go_wp2
    go_ret
    exact ⟨rfl, by repeat (first | exact below_drewN hb1 _ | apply below_drewN)⟩

theorem Box3.drewN {W : World} {b : Nat} {x y z : Value} (h : Box3 W b x y z) (n : Nat) : Box3 (W.drewN n) b x y z := h
theorem cell_far {W : World} {a b : Addr} (u : Value) (h : a ≠ b) : (W.setCell a u).cell? b = W.cell? b := by apply World.cell?_setCell_other; exact h
theorem Box3.set1 {W : World} {b : Nat} {x y z : Value} (h : Box3 W b x y z) (u : Value) : Box3 (W.setCell ⟨b, 1, none⟩ u) b x u z :=
  ⟨(cell_far _ (by intro e; cases e)).trans h.1, World.cell?_setCell_same' _ _ _ (by rw [h.2.1]; rfl), (cell_far _ (by intro e; cases e)).trans h.2.2.1, fun j => by rw [World.frozen?_setCell]; exact h.2.2.2 j⟩
theorem Box3.set0 {W : World} {b : Nat} {x y z : Value} (h : Box3 W b x y z) (u : Value) : Box3 (W.setCell ⟨b, 0, none⟩ u) b u y z :=
  ⟨World.cell?_setCell_same' _ _ _ (by rw [h.1]; rfl), (cell_far _ (by intro e; cases e)).trans h.2.1, (cell_far _ (by intro e; cases e)).trans h.2.2.1, fun j => by rw [World.frozen?_setCell]; exact h.2.2.2 j⟩
theorem Box3.set2 {W : World} {b : Nat} {x y z : Value} (h : Box3 W b x y z) (u : Value) : Box3 (W.setCell ⟨b, 2, none⟩ u) b x y u :=
  ⟨(cell_far _ (by intro e; cases e)).trans h.1, (cell_far _ (by intro e; cases e)).trans h.2.1, World.cell?_setCell_same' _ _ _ (by rw [h.2.2.1]; rfl), fun j => by rw [World.frozen?_setCell]; exact h.2.2.2 j⟩
theorem Box3.other {W : World} {b c : Nat} {x y z : Value} (h : Box3 W b x y z) (hne : b ≠ c) (j : Nat) (u : Value) : Box3 (W.setCell ⟨c, j, none⟩ u) b x y z := h.of (Below.heap_setCell W ⟨c, j, none⟩ u b hne)
theorem box3_fin {W : World} {b : Nat} {x y z : Value} (h : Box3 W b x y z) (u v t : Value) : Box3 (((W.setCell ⟨b, 0, none⟩ u).setCell ⟨b, 1, none⟩ v).setCell ⟨b, 2, none⟩ t) b u v t :=
  (h.set0 u |>.set1 v).set2 t
def cellN (w : World) (a : Addr) : Nat := match w.cell? a with
  | some (.int _ z) => z.toNat
  | _ => 0
theorem cellN_eq {w : World} {a : Addr} {k : IntKind} {z : Int} (h : w.cell? a = some (.int k z)) : cellN w a = z.toNat := by unfold cellN; rw [h]

set_option maxHeartbeats 4000000 in
theorem firstChild_any (L : List Str) (f t n e : Nat) (a : Option Addr) (cap : Nat) (w : World) (hR : Reads w (.slice a L.length cap) (strs L)) (ht : t ≤ L.length) (hn : n ≤ 256) (hfe : f < e) (het : e ≤ t) (hln : ∀ y, f ≤ y → y < t → n < ln L y)
    (hrun : ∀ y, f < y → y < e → (sg L y).getD n 0 = (sg L f).getD n 0) (hend : e = t ∨ (sg L e).getD n 0 ≠ (sg L f).getD n 0) :
    Calls Try.prog 65 #[grV ⟨f, t, n⟩, .slice a L.length cap] w fun e' w' => e' = .returned (grV ⟨f, e, n + 1⟩) ∧ Below w.heap.size w w' := by
  have hlen := hR.len.2
  unfold maxLen at hlen
  have HR := Lib.hid (fun V (hV : Below w.heap.size w V) i (hi : i < L.length) => show ∃ b off, a = some ⟨b, off, none⟩ ∧ V.cell? ⟨b, off + i, none⟩ = some (.string (ba (sg L i))) by
    obtain ⟨b, off, e1, hb, hc⟩ := Reads.cell hR (strs_get hi)
    exact ⟨b, off, e1, by rw [hV.cell (p := ⟨b, off + i, none⟩) hb]; exact hc⟩)
  have HB := Lib.hid (fun y i hi W => ba_byte (sg L y) i hi W)
  have HLN := Lib.hid hln
  have HRUN := Lib.hid hrun
  have HEND := Lib.hid hend
  unfold ln at HLN
  obtain ⟨W3, hW3⟩ : ∃ W3, (((w.alloc (Obj.cells #[Value.int IntKind.i64 f, Value.int IntKind.i64 t, Value.int IntKind.i64 n] 92)).alloc (Obj.cells #[Value.int IntKind.i64 0, Value.int IntKind.i64 0, Value.int IntKind.i64 0] 92)).alloc
      (Obj.cells #[Value.int IntKind.i64 f, Value.int IntKind.i64 ((f : Int) + 1), Value.int IntKind.i64 ((n : Int) + 1)] 92)) = W3 := ⟨_, rfl⟩
  have hb3 : Below w.heap.size w W3 := by rw [← hW3]; exact (((Below.refl _ w).alloc (Nat.le_refl _) _).alloc (by simp) _).alloc (by simp; omega) _
  have hs3 : W3.heap.size = w.heap.size + 3 := by rw [← hW3]; simp
  have k0 : Box3 W3 w.heap.size (.int .i64 f) (.int .i64 t) (.int .i64 n) := by
    rw [← hW3]
    refine (box3_new w _ _ _ 92 _ rfl).of ?_
    rw [Below.heap_alloc _ _ _ (by simp; omega), Below.heap_alloc _ _ _ (by simp)]
  have k1 : Box3 W3 (w.heap.size + 1) (.int .i64 0) (.int .i64 0) (.int .i64 0) := by
    rw [← hW3]
    refine (box3_new (w.alloc (Obj.cells #[Value.int IntKind.i64 f, Value.int IntKind.i64 t, Value.int IntKind.i64 n] 92)) _ _ _ 92 _ (by simp)).of ?_
    rw [Below.heap_alloc _ _ _ (by simp)]
  have k2 : Box3 W3 (w.heap.size + 1 + 1) (.int .i64 f) (.int .i64 ((f + 1 : Nat) : Int)) (.int .i64 ((n : Int) + 1)) := by rw [← hW3]; exact box3_new _ _ _ _ 92 _ (by simp)
  have HW3 := Lib.hid hW3
  obtain ⟨m, hm⟩ : ∃ m, L.length = m := ⟨_, rfl⟩
  have HM := Lib.hid hm
  rw [hm] at ht hlen HR ⊢
  unfold grV
  simp only
  clear hR hln hrun hend hW3 hm
  go_enter Try.func65, Try.ntmps65
  go_wp2
  rw [HW3.out]
  go_loopw [] (fun wr => ∃ x : Nat, f < x ∧ x ≤ e ∧ Below w.heap.size w wr ∧ w.heap.size + 3 ≤ wr.heap.size ∧ Box3 wr w.heap.size (.int .i64 f) (.int .i64 t) (.int .i64 n) ∧ Box3 wr (w.heap.size + 1) (.int .i64 0) (.int .i64 0) (.int .i64 0) ∧ Box3 wr (w.heap.size + 1 + 1) (.int .i64 f) (.int .i64 (x : Int)) (.int .i64 ((n : Int) + 1))) (fun wr => t - cellN wr ⟨w.heap.size + 1 + 1, 1, none⟩)
  case atStart => exact ⟨f + 1, by omega, by omega, hb3, by omega, k0, k1, k2⟩
  case round =>
    obtain ⟨x, hfx, hxe, hb, hws, k0, k1, k2⟩ := hrel
    have hK0 := Lib.hid k0
    have hK1 := Lib.hid k1
    have hK2 := Lib.hid k2
    obtain ⟨c00, c01, c02, c03⟩ := k0
    obtain ⟨c20, c21, c22, c23⟩ := k2
    have z0 : (0 : Int) ≤ (x : Int) := by omega
    have z3 : (0 : Int) ≤ (f : Int) := by omega
    have z4 : (f : Int) < (m : Int) := by omega
    by_cases hlt : x < e
    · obtain ⟨b, off, rfl, s1⟩ := HR.out _ hb x (by omega)
      obtain ⟨b', off', e1, s2⟩ := HR.out _ hb f (by omega)
      cases e1
      have l1 := HLN.out x (by omega) (by omega)
      have l2 := HLN.out f (by omega) (by omega)
      have i1 := HB.out x n l1
      have i2 := HB.out f n l2
      have hsx := ba_size (sg L x)
      have hsf := ba_size (sg L f)
      have heq := HRUN.out x hfx hlt
      obtain ⟨X, hX⟩ : ∃ X, ba (sg L x) = X := ⟨_, rfl⟩
      obtain ⟨F, hF⟩ : ∃ F, ba (sg L f) = F := ⟨_, rfl⟩
      rw [hX] at s1 i1 hsx
      rw [hF] at s2 i2 hsf
      rw [heq] at i1
      obtain ⟨u, hu⟩ : ∃ u, ((sg L f).getD n 0).toNat = u := ⟨_, rfl⟩
      rw [hu] at i1 i2
      have z1 : (x : Int) < (t : Int) := by omega
      have z2 : (x : Int) < (m : Int) := by omega
      have z5 : (n : Int) < (X.size : Int) := by omega
      have z6 : (n : Int) < (F.size : Int) := by omega
      clear hX hF hsx hsf heq hu l1 l2
      go_wp2
      go_quiet (fail)
      go_wp2
      have k2' : Box3 (wr.drewN nq) (w.heap.size + 1 + 1) (.int .i64 f) (.int .i64 (x : Int)) (.int .i64 ((n : Int) + 1)) := hK2.out
      refine ⟨⟨x + 1, by omega, by omega, (below_drewN hb _).setCell (by show w.heap.size ≤ w.heap.size + 1 + 1; omega) _, by simpa using hws, Box3.other (W := wr.drewN nq) hK0.out (by omega) _ _, Box3.other (W := wr.drewN nq) hK1.out (by omega) _ _, k2'.set1 _⟩, ?_⟩
      rw [cellN_eq (k2'.set1 _).2.1, cellN_eq c21]
      omega
    · obtain rfl : x = e := by omega
      by_cases het2 : x < t
      · obtain ⟨b, off, rfl, s1⟩ := HR.out _ hb x (by omega)
        obtain ⟨b', off', e1, s2⟩ := HR.out _ hb f (by omega)
        cases e1
        have l1 := HLN.out x (by omega) (by omega)
        have l2 := HLN.out f (by omega) (by omega)
        have i1 := HB.out x n l1
        have i2 := HB.out f n l2
        have hsx := ba_size (sg L x)
        have hsf := ba_size (sg L f)
        have hne : (sg L x).getD n 0 ≠ (sg L f).getD n 0 := by
          rcases HEND.out with h | h
          · omega
          · exact h
        have heq : ((((sg L x).getD n 0).toNat : Int) == (((sg L f).getD n 0).toNat : Int)) = false := by
          rw [beq_eq_false_iff_ne]
          intro e
          exact hne (UInt8.toNat_inj.1 (by omega))
        obtain ⟨X, hX⟩ : ∃ X, ba (sg L x) = X := ⟨_, rfl⟩
        obtain ⟨F, hF⟩ : ∃ F, ba (sg L f) = F := ⟨_, rfl⟩
        rw [hX] at s1 i1 hsx
        rw [hF] at s2 i2 hsf
        obtain ⟨u, hu⟩ : ∃ u, ((sg L f).getD n 0).toNat = u := ⟨_, rfl⟩
        obtain ⟨v, hv⟩ : ∃ v, ((sg L x).getD n 0).toNat = v := ⟨_, rfl⟩
        rw [hu] at i2 heq
        rw [hv] at i1 heq
        have z1 : (x : Int) < (t : Int) := by omega
        have z2 : (x : Int) < (m : Int) := by omega
        have z5 : (n : Int) < (X.size : Int) := by omega
        have z6 : (n : Int) < (F.size : Int) := by omega
        obtain ⟨r0, r1, r2, r3⟩ := k1
        clear hX hF hsx hsf hne hu hv l1 l2
        go_wp2
        go_quiet (fail)
        go_wp2
        obtain ⟨f0, f1, f2⟩ := box3_fin (W := wr.drewN nq) hK1.out (.int .i64 (f : Int)) (.int .i64 (x : Int)) (.int .i64 ((n : Int) + 1))
        have hbf : Below w.heap.size w ((((wr.drewN nq).setCell ⟨w.heap.size + 1, 0, none⟩ (.int .i64 (f : Int))).setCell ⟨w.heap.size + 1, 1, none⟩ (.int .i64 (x : Int))).setCell ⟨w.heap.size + 1, 2, none⟩ (.int .i64 ((n : Int) + 1))) := (((below_drewN hb _).setCell (by show w.heap.size ≤ w.heap.size + 1; omega) _).setCell (by show w.heap.size ≤ w.heap.size + 1; omega) _).setCell (by show w.heap.size ≤ w.heap.size + 1; omega) _
        refine bodyPost_ret (v := .agg #[.int .i64 (f : Int), .int .i64 (x : Int), .int .i64 ((n : Int) + 1)]) (by simp [results, Try.f65, go_sem, f0, f1, f2]) rfl ⟨by simp, hbf⟩
      · have z1 : decide (x < t) = false := decide_eq_false het2
        obtain ⟨r0, r1, r2, r3⟩ := k1
        go_wp2
        go_quiet (fail)
        go_wp2
        obtain ⟨f0, f1, f2⟩ := box3_fin (W := wr.drewN nq) hK1.out (.int .i64 (f : Int)) (.int .i64 (x : Int)) (.int .i64 ((n : Int) + 1))
        have hbf : Below w.heap.size w ((((wr.drewN nq).setCell ⟨w.heap.size + 1, 0, none⟩ (.int .i64 (f : Int))).setCell ⟨w.heap.size + 1, 1, none⟩ (.int .i64 (x : Int))).setCell ⟨w.heap.size + 1, 2, none⟩ (.int .i64 ((n : Int) + 1))) := (((below_drewN hb _).setCell (by show w.heap.size ≤ w.heap.size + 1; omega) _).setCell (by show w.heap.size ≤ w.heap.size + 1; omega) _).setCell (by show w.heap.size ≤ w.heap.size + 1; omega) _
        refine bodyPost_ret (v := .agg #[.int .i64 (f : Int), .int .i64 (x : Int), .int .i64 ((n : Int) + 1)]) (by simp [results, Try.f65, go_sem, f0, f1, f2]) rfl ⟨by simp, hbf⟩
end Go.Proofs.Ytffljcfpofhkgaa.Lo

set_option linter.unusedVariables false
set_option linter.unusedSimpArgs false
set_option maxRecDepth 100000
namespace Go.Proofs.Ytffljcfpofhkgaa.Lo
open Go Go.RowKit Go.Proofs.Ytffljcfpofhkgaa.Kit Go.Proofs.Ytffljcfpofhkgaa.Bv Go.Proofs.Ytffljcfpofhkgaa.Pk

/-- The five cells of a trie that is being made. -/
def Box5 (W : World) (b : Nat) (x0 x1 x2 x3 x4 : Value) : Prop := W.heap[b]? = some (.cells #[x0, x1, x2, x3, x4] 74 (0, 0))
theorem Box5.cells {W : World} {b : Nat} {x0 x1 x2 x3 x4 : Value} (h : Box5 W b x0 x1 x2 x3 x4) : W.cell? ⟨b, 0, none⟩ = some x0 ∧ W.cell? ⟨b, 1, none⟩ = some x1 ∧ W.cell? ⟨b, 2, none⟩ = some x2 ∧ W.cell? ⟨b, 3, none⟩ = some x3 ∧ W.cell? ⟨b, 4, none⟩ = some x4 ∧ (∀ j, W.frozen? ⟨b, j, none⟩ = false) := by
  have h' : W.heap[b]? = some (.cells #[x0, x1, x2, x3, x4] 74 (0, 0)) := h
  refine ⟨by rw [cell_of_row _ _ 0 _ _ _ h']; rfl, by rw [cell_of_row _ _ 1 _ _ _ h']; rfl, by rw [cell_of_row _ _ 2 _ _ _ h']; rfl, by rw [cell_of_row _ _ 3 _ _ _ h']; rfl, by rw [cell_of_row _ _ 4 _ _ _ h']; rfl, fun j => ?_⟩
  simp only [World.frozen?, h']
  simp
theorem Box5.of {W W' : World} {b : Nat} {x0 x1 x2 x3 x4 : Value} (h : Box5 W b x0 x1 x2 x3 x4) (e : W'.heap[b]? = W.heap[b]?) : Box5 W' b x0 x1 x2 x3 x4 := by
  show W'.heap[b]? = _
  rw [e]; exact h
theorem Box5.set {W : World} {b : Nat} {x0 x1 x2 x3 x4 : Value} (h : Box5 W b x0 x1 x2 x3 x4) (j : Nat) (u : Value) : (W.setCell ⟨b, j, none⟩ u).heap[b]? = some (.cells (#[x0, x1, x2, x3, x4].setIfInBounds j u) 74 (0, 0)) :=
  heap_setCell_same W b j _ _ u h
theorem set_blocks (W : World) (b j : Nat) (u : Value) {B0 B1 : Nat} (hb : b < B0) : ∀ k, B0 ≤ k → k < B1 → (W.setCell ⟨b, j, none⟩ u).heap[k]? = W.heap[k]? := fun k h1 _ => Below.heap_setCell W ⟨b, j, none⟩ u k (by show k ≠ b; omega)

set_option maxHeartbeats 4000000 in
theorem assemble_any (L : List Str) (hL : Ok L) (hN : (Gs L).length ≤ 524287) (hm : L.length ≤ 1048576) (a1 a2 a3 a4 a5 : Option Addr) (c1 c2 c3 c4 c5 B : Nat) (w : World) (hB : B ≤ w.heap.size)
    (h1 : Reads w (.slice a1 (shp L).length c1) (bls (shp L))) (h2 : Reads w (.slice a2 (ends L).length c2) (bls (ends L))) (h3 : w.ownsRow B 5 1 (.slice a3 (labs L).length c3) (labs L).length (u8s (labs L)))
    (h4 : Reads w (.slice a4 (nums L).length c4) (u64s (nums L))) (h5 : Reads w (.slice a5 (nods L).length c5) (u64s (nods L))) :
    Calls Try.prog 66 #[.slice a1 (shp L).length c1, .slice a2 (ends L).length c2, .slice a3 (labs L).length c3, .slice a4 (nums L).length c4, .slice a5 (nods L).length c5] w fun e w' => ∃ p, e = .returned (.pointer (some ⟨p, 0, none⟩)) ∧ TrieAt B w'.heap.size w' p L ∧ Below w.heap.size w w' := by
  have hl := shp_len hL
  have HN1 := Lib.hid (fun W (hW : Below w.heap.size w W) => new_ok (shp L) a1 c1 W (by omega) (h1.later hW))
  have HN2 := Lib.hid (fun W (hW : Below w.heap.size w W) => new_ok (ends L) a2 c2 W (by rw [ends_len]; omega) (h2.later hW))
  have HN3 := Lib.hid (fun W (hW : Below w.heap.size w W) => pnew_at (nums L) a4 c4 W (by rw [nums_len hL]; omega) (nums_u64 hL hm) (h4.later hW))
  have HN4 := Lib.hid (fun W (hW : Below w.heap.size w W) => pnew_at (nods L) a5 c5 W (by rw [nods_len]; omega) (nods_u64 hL hN) (h5.later hW))
  have HL3 := Lib.hid h3
  obtain ⟨n1, e1⟩ : ∃ n, (shp L).length = n := ⟨_, rfl⟩
  obtain ⟨n2, e2⟩ : ∃ n, (ends L).length = n := ⟨_, rfl⟩
  obtain ⟨n3, e3⟩ : ∃ n, (labs L).length = n := ⟨_, rfl⟩
  obtain ⟨n4, e4⟩ : ∃ n, (nums L).length = n := ⟨_, rfl⟩
  obtain ⟨n5, e5⟩ : ∃ n, (nods L).length = n := ⟨_, rfl⟩
  have HE3 := Lib.hid e3
  rw [e1] at HN1 ⊢
  rw [e2] at HN2 ⊢
  rw [e3] at HL3 ⊢
  rw [e4] at HN3 ⊢
  rw [e5] at HN4 ⊢
  clear e1 e2 e3 e4 e5 h1 h2 h3 h4 h5 hl hm hN
  go_enter Try.func66, Try.ntmps66
  obtain ⟨W1, hW1⟩ : ∃ W1, w.alloc (Obj.cells #[Value.pointer none, Value.pointer none, Value.slice a3 n3 c3, Value.pointer none, Value.pointer none] 74) = W1 := ⟨_, rfl⟩
  have hb1 : Below w.heap.size w W1 := by rw [← hW1]; exact (Below.refl _ w).alloc (Nat.le_refl _) _
  have hs1 : W1.heap.size = w.heap.size + 1 := by rw [← hW1]; simp
  have B1 : Box5 W1 w.heap.size (.pointer none) (.pointer none) (.slice a3 n3 c3) (.pointer none) (.pointer none) := by rw [← hW1]; exact heap_alloc_new w _
  obtain ⟨p, hp⟩ : ∃ p, w.heap.size = p := ⟨_, rfl⟩
  have HP := Lib.hid hp
  have HW1 := Lib.hid hW1
  have HS1 := Lib.hid hs1
  have HBW1 := Lib.hid hb1
  clear hW1 hs1 hb1 hp
  go_wp2_with fail
  rw [HW1.out]
  refine (HN1.out W1 HBW1.out).mono ?_
  rintro e W2 ⟨q1, rfl, hv1, hb1⟩
  have hsz1 := hb1.size
  have hpl1 : w.heap.size < W1.heap.size := (Array.getElem?_eq_some_iff.1 B1).1
  have B2 : Box5 W2 w.heap.size (.pointer none) (.pointer none) (.slice a3 n3 c3) (.pointer none) (.pointer none) := B1.of (hb1.block _ hpl1)
  obtain ⟨x0, x1, x2, x3, x4, fz⟩ := B2.cells
  have fzk := fz 0
  obtain ⟨W3, hW3⟩ : ∃ V, W2.setCell ⟨w.heap.size, 0, none⟩ (.pointer (some ⟨q1, 0, none⟩)) = V := ⟨_, rfl⟩
  have B3 : Box5 W3 w.heap.size (.pointer (some ⟨q1, 0, none⟩)) (.pointer none) (.slice a3 n3 c3) (.pointer none) (.pointer none) := by rw [← hW3]; exact B2.set 0 _
  have hws3 : W3.heap.size = W2.heap.size := by rw [← hW3]; simp
  have HBW3 : Hid (Below w.heap.size w W3) := Lib.hid (by rw [← hW3]; exact (HBW1.out.trans (hb1.mono (by have := HBW1.out.size; omega))).setCell (Nat.le_refl _) _)
  have HK1 : Hid (∀ d, w.heap.size < d → W3.heap[d]? = W2.heap[d]?) := Lib.hid (fun d hd => by rw [← hW3]; exact Below.heap_setCell W2 _ _ d (by show d ≠ w.heap.size; omega))
  have HW3 := Lib.hid hW3
  have HV1 := Lib.hid hv1
  have HB1 := Lib.hid hb1
  clear hW3 hv1 hb1 B1 B2 fz
  go_wp2_with fail
  rw [HW3.out]
  clear x0 x1 x2 x3 x4 fzk
  refine (HN2.out W3 HBW3.out).mono ?_
  rintro e W4 ⟨q2, rfl, hv2, hb2⟩
  have hsz2 := hb2.size
  have hpl2 : w.heap.size < W3.heap.size := (Array.getElem?_eq_some_iff.1 B3).1
  have B4 : Box5 W4 w.heap.size (.pointer (some ⟨q1, 0, none⟩)) (.pointer none) (.slice a3 n3 c3) (.pointer none) (.pointer none) := B3.of (hb2.block _ hpl2)
  obtain ⟨x0, x1, x2, x3, x4, fz⟩ := B4.cells
  have fzk := fz 1
  obtain ⟨W5, hW5⟩ : ∃ V, W4.setCell ⟨w.heap.size, 1, none⟩ (.pointer (some ⟨q2, 0, none⟩)) = V := ⟨_, rfl⟩
  have B5 : Box5 W5 w.heap.size (.pointer (some ⟨q1, 0, none⟩)) (.pointer (some ⟨q2, 0, none⟩)) (.slice a3 n3 c3) (.pointer none) (.pointer none) := by rw [← hW5]; exact B4.set 1 _
  have hws5 : W5.heap.size = W4.heap.size := by rw [← hW5]; simp
  have HBW5 : Hid (Below w.heap.size w W5) := Lib.hid (by rw [← hW5]; exact (HBW3.out.trans (hb2.mono (by have := HBW3.out.size; omega))).setCell (Nat.le_refl _) _)
  have HK2 : Hid (∀ d, w.heap.size < d → W5.heap[d]? = W4.heap[d]?) := Lib.hid (fun d hd => by rw [← hW5]; exact Below.heap_setCell W4 _ _ d (by show d ≠ w.heap.size; omega))
  have HW5 := Lib.hid hW5
  have HV2 := Lib.hid hv2
  have HB2 := Lib.hid hb2
  clear hW5 hv2 hb2 B3 B4 fz
  go_wp2_with fail
  rw [HW5.out]
  clear x0 x1 x2 x3 x4 fzk
  refine (HN3.out W5 HBW5.out).mono ?_
  rintro e W6 ⟨q3, rfl, hv3, hb3⟩
  have hsz3 := hb3.size
  have hpl3 : w.heap.size < W5.heap.size := (Array.getElem?_eq_some_iff.1 B5).1
  have B6 : Box5 W6 w.heap.size (.pointer (some ⟨q1, 0, none⟩)) (.pointer (some ⟨q2, 0, none⟩)) (.slice a3 n3 c3) (.pointer none) (.pointer none) := B5.of (hb3.block _ hpl3)
  obtain ⟨x0, x1, x2, x3, x4, fz⟩ := B6.cells
  have fzk := fz 3
  obtain ⟨W7, hW7⟩ : ∃ V, W6.setCell ⟨w.heap.size, 3, none⟩ (.pointer (some ⟨q3, 0, none⟩)) = V := ⟨_, rfl⟩
  have B7 : Box5 W7 w.heap.size (.pointer (some ⟨q1, 0, none⟩)) (.pointer (some ⟨q2, 0, none⟩)) (.slice a3 n3 c3) (.pointer (some ⟨q3, 0, none⟩)) (.pointer none) := by rw [← hW7]; exact B6.set 3 _
  have hws7 : W7.heap.size = W6.heap.size := by rw [← hW7]; simp
  have HBW7 : Hid (Below w.heap.size w W7) := Lib.hid (by rw [← hW7]; exact (HBW5.out.trans (hb3.mono (by have := HBW5.out.size; omega))).setCell (Nat.le_refl _) _)
  have HK3 : Hid (∀ d, w.heap.size < d → W7.heap[d]? = W6.heap[d]?) := Lib.hid (fun d hd => by rw [← hW7]; exact Below.heap_setCell W6 _ _ d (by show d ≠ w.heap.size; omega))
  have HW7 := Lib.hid hW7
  have HV3 := Lib.hid hv3
  have HB3 := Lib.hid hb3
  clear hW7 hv3 hb3 B5 B6 fz
  go_wp2_with fail
  rw [HW7.out]
  clear x0 x1 x2 x3 x4 fzk
  refine (HN4.out W7 HBW7.out).mono ?_
  rintro e W8 ⟨q4, rfl, hv4, hb4⟩
  have hsz4 := hb4.size
  have hpl4 : w.heap.size < W7.heap.size := (Array.getElem?_eq_some_iff.1 B7).1
  have B8 : Box5 W8 w.heap.size (.pointer (some ⟨q1, 0, none⟩)) (.pointer (some ⟨q2, 0, none⟩)) (.slice a3 n3 c3) (.pointer (some ⟨q3, 0, none⟩)) (.pointer none) := B7.of (hb4.block _ hpl4)
  obtain ⟨x0, x1, x2, x3, x4, fz⟩ := B8.cells
  have fzk := fz 4
  obtain ⟨W9, hW9⟩ : ∃ V, W8.setCell ⟨w.heap.size, 4, none⟩ (.pointer (some ⟨q4, 0, none⟩)) = V := ⟨_, rfl⟩
  have B9 : Box5 W9 w.heap.size (.pointer (some ⟨q1, 0, none⟩)) (.pointer (some ⟨q2, 0, none⟩)) (.slice a3 n3 c3) (.pointer (some ⟨q3, 0, none⟩)) (.pointer (some ⟨q4, 0, none⟩)) := by rw [← hW9]; exact B8.set 4 _
  have hws9 : W9.heap.size = W8.heap.size := by rw [← hW9]; simp
  have HBW9 : Hid (Below w.heap.size w W9) := Lib.hid (by rw [← hW9]; exact (HBW7.out.trans (hb4.mono (by have := HBW7.out.size; omega))).setCell (Nat.le_refl _) _)
  have HK4 : Hid (∀ d, w.heap.size < d → W9.heap[d]? = W8.heap[d]?) := Lib.hid (fun d hd => by rw [← hW9]; exact Below.heap_setCell W8 _ _ d (by show d ≠ w.heap.size; omega))
  have HW9 := Lib.hid hW9
  have HV4 := Lib.hid hv4
  have HB4 := Lib.hid hb4
  clear hW9 hv4 hb4 B7 B8 fz
  go_wp2
  rw [HW9.out]
  go_ret
  have G4 := HK4.out
  have t1 := HB1.out.size
  have t2 := HB2.out.size
  have t3 := HB3.out.size
  have t4 := HB4.out.size
  have G3 : ∀ d, w.heap.size < d → d < W6.heap.size → W9.heap[d]? = W6.heap[d]? := fun d k1 k2 => by rw [G4 d k1, HB4.out.block d (by omega), HK3.out d k1]
  have G2 : ∀ d, w.heap.size < d → d < W4.heap.size → W9.heap[d]? = W4.heap[d]? := fun d k1 k2 => by rw [G3 d k1 (by omega), HB3.out.block d (by omega), HK2.out d k1]
  have G1 : ∀ d, w.heap.size < d → d < W2.heap.size → W9.heap[d]? = W2.heap[d]? := fun d k1 k2 => by rw [G2 d k1 (by omega), HB2.out.block d (by omega), HK1.out d k1]
  have e1 : W1.heap.size = w.heap.size + 1 := HS1.out
  refine ⟨w.heap.size, rfl, ⟨hB, (Array.getElem?_eq_some_iff.1 B9).1, q1, q2, q3, q4, a3, c3, by rw [HE3.out]; exact B9, ?_, ?_, ?_, ?_, ?_, ?_⟩, HBW9.out⟩
  · exact (HV1.out.later fun b k1 k2 => G1 b (by omega) k2).wide (by omega) (by omega)
  · exact (HV2.out.later fun b k1 k2 => G2 b (by omega) k2).wide (by omega) (by omega)
  · rw [HE3.out]; exact own_later HL3.out HBW9.out
  · intro k hk
    rw [HE3.out] at hk
    have := own_row_lt HL3.out k hk
    have := HBW9.out.size
    omega
  · exact IntsAt.wide (HV3.out.later fun b k1 k2 => G3 b (by omega) k2) (by omega) (by omega)
  · exact IntsAt.wide (HV4.out.later fun b k1 k2 => G4 b (by omega)) (by omega) (by omega)
end Go.Proofs.Ytffljcfpofhkgaa.Lo

set_option linter.unusedVariables false
set_option linter.unusedSimpArgs false
set_option maxRecDepth 100000
namespace Go.Proofs.Ytffljcfpofhkgaa.Lo
open Go Go.RowKit Go.Proofs.Ytffljcfpofhkgaa.Kit Go.Proofs.Ytffljcfpofhkgaa.Bv Go.Proofs.Ytffljcfpofhkgaa.Pk

/-- A row: its slice, its element's type and size, how many, its cells. -/
structure Ent where
  v : Value
  e : TypeId
  s : Nat
  n : Nat
  xs : List Value
def Apart (u v : Value) : Prop := ∀ k, u.ownBlock = some k → v.ownBlock ≠ some k
theorem Apart.symm {u v : Value} (h : Apart u v) : Apart v u := fun k h1 h2 => h k h2 h1
/-- The rows are the call's own, no two in one block. -/
def Fam (B : Nat) (w : World) (l : List Ent) : Prop :=
  (∀ (i : Nat) (r : Ent), l[i]? = some r → w.ownsRow B r.e r.s r.v r.n r.xs) ∧ ∀ (i j : Nat) (r s : Ent), i ≠ j → l[i]? = some r → l[j]? = some s → Apart r.v s.v
theorem Fam.get {B : Nat} {w : World} {l : List Ent} (h : Fam B w l) (j : Nat) {r : Ent} (hj : l[j]? = some r) : w.ownsRow B r.e r.s r.v r.n r.xs := h.1 j r hj
theorem own_kept {w w' : World} {base : Nat} {e : TypeId} {size : Nat} {v : Value} {n : Nat} {xs : List Value} (h : w.ownsRow base e size v n xs) {row : Option Nat} (hg : w.grownBy w' row) (hne : ∀ k, v.ownBlock = some k → row ≠ some k) : w'.ownsRow base e size v n xs := by
  refine ⟨h.1, ?_⟩
  rcases h.2 with hn | ⟨g, cap, cur, rfl, hbg, hgg, rest⟩
  · exact .inl hn
  · refine .inr ⟨g, cap, cur, rfl, hbg, ?_, rest⟩
    rw [hg.block g (Array.getElem?_eq_some_iff.1 hgg).1 (fun e => hne g rfl e.symm)]
    exact hgg
theorem Fam.below {B : Nat} {w w' : World} {l : List Ent} (h : Fam B w l) (hb : Below w.heap.size w w') : Fam B w' l :=
  ⟨fun i r hi => own_kept (h.1 i r hi) (row := none) ⟨hb.os, hb.tape, hb.output, hb.size, fun k hk _ => hb.block k hk⟩ (fun k _ e => by cases e), h.2⟩
theorem Fam.drewN {B : Nat} {w : World} {l : List Ent} (h : Fam B w l) (n : Nat) : Fam B (w.drewN n) l := h
theorem Fam.drew {B : Nat} {w : World} {l : List Ent} (h : Fam B w l) : Fam B w.drew l := h
theorem Fam.alloc {B : Nat} {w : World} {l : List Ent} (h : Fam B w l) (o : Obj) : Fam B (w.alloc o) l := h.below ((Below.refl _ w).alloc (Nat.le_refl _) o)
theorem Fam.lt {B : Nat} {w : World} {l : List Ent} (h : Fam B w l) {j : Nat} {r : Ent} (hj : l[j]? = some r) : ∀ k, r.v.ownBlock = some k → B ≤ k ∧ k < w.heap.size := fun k hk => (h.get j hj).lt k hk
/-- One row grows, or is written. -/
theorem Fam.grow {B : Nat} {w w' : World} {l : List Ent} (h : Fam B w l) (j : Nat) {r : Ent} (hj : l[j]? = some r) (hg : w.grownBy w' r.v.ownBlock) {v' : Value} {n' : Nat} {xs' : List Value} (hown : w'.ownsRow B r.e r.s v' n' xs') (hv : v'.ownBlock = r.v.ownBlock ∨ ∃ k, v'.ownBlock = some k ∧ w.heap.size ≤ k) :
    Fam B w' (l.set j ⟨v', r.e, r.s, n', xs'⟩) := by
  have hjl := (List.getElem?_eq_some_iff.1 hj).1
  have key : ∀ (i : Nat) (s : Ent), i ≠ j → l[i]? = some s → Apart v' s.v := fun i s hne hi k h1 h2 => by
    rcases hv with hv | ⟨k', hv, hk'⟩
    · rw [hv] at h1
      exact h.2 j i r s (Ne.symm hne) hj hi k h1 h2
    · rw [hv] at h1; cases h1
      have := (h.lt hi _ h2).2
      omega
  constructor
  · intro i s hi
    rw [List.getElem?_set] at hi
    split at hi
    · rename_i e
      (try rw [if_pos hjl] at hi)
      cases hi
      exact hown
    · rename_i e
      exact own_kept (h.1 i s hi) hg fun k hk e2 => h.2 j i r s e hj hi k e2 hk
  · intro i i2 s s2 hne hi hi2
    rw [List.getElem?_set] at hi hi2
    split at hi
    · rename_i e
      (try rw [if_pos hjl] at hi)
      cases hi
      subst e
      rw [if_neg hne] at hi2
      exact key i2 s2 (Ne.symm hne) hi2
    · rename_i e
      split at hi2
      · rename_i e2
        (try rw [if_pos hjl] at hi2)
        cases hi2
        exact (key i s (fun e3 => e e3.symm) hi).symm
      · exact h.2 i i2 s s2 hne hi hi2
/-- A new row, in a block that has just been laid, or in none. -/
theorem Fam.cons {B : Nat} {w : World} {l : List Ent} (h : Fam B w l) {w' : World} (hb : Below w.heap.size w w') {r : Ent} (hown : w'.ownsRow B r.e r.s r.v r.n r.xs) (hr : ∀ k, r.v.ownBlock = some k → w.heap.size ≤ k) : Fam B w' (r :: l) := by
  have h' := h.below hb
  constructor
  · intro i s hi
    cases i with
    | zero => cases hi; exact hown
    | succ i => exact h'.1 i s hi
  · have key : ∀ (i : Nat) (s : Ent), l[i]? = some s → Apart r.v s.v := fun i s hi k h1 h2 => by
      have := (h.lt hi k h2).2
      have := hr k h1
      omega
    intro i j s t hne hi hj
    cases i with
    | zero =>
      cases hi
      cases j with
      | zero => exact absurd rfl hne
      | succ j => exact key j t hj
    | succ i =>
      cases j with
      | zero => cases hj; exact (key i s hi).symm
      | succ j => exact h'.2 i j s t (by omega) hi hj
theorem fam_nil (B : Nat) (w : World) : Fam B w [] := ⟨fun i r h => by simp at h, fun i j r s _ h => by simp at h⟩
theorem Fam.tail {B : Nat} {w : World} {r : Ent} {l : List Ent} (h : Fam B w (r :: l)) : Fam B w l :=
  ⟨fun i s hi => h.1 (i + 1) s hi, fun i j s t hne hi hj => h.2 (i + 1) (j + 1) s t (by omega) hi hj⟩
theorem grown_below {B : Nat} {w w' : World} {v : Value} (hg : w.grownBy w' v.ownBlock) (hB : B ≤ w.heap.size) (h : ∀ k, v.ownBlock = some k → B ≤ k) : Below B w w' := (Below.refl B w).grown hg hB (fun k hk => h k hk)

/-- append(row, x) of one element that was just built: every row but this one stays. -/
theorem wpList_push {P : Program} {B : Nat} {w : World} {l : List Ent} (F : Fam B w l) (j : Nat) {r : Ent} (hj : l[j]? = some r) {ops : Array Oper} {rest : List Oper} {o : Oper} {a : Act} {Q : Exit → Act → World → Prop} (hgd : o.guard = none) (s x : Operand) (t : TypeId)
    (ho : o.op = .call { callee := .builtin .append, args := #[s, x], argTypes := #[t, t] })
    (i : TypeInfo) (z : Value) (bytes : Nat) (ht : P.underlying t = some (.slice r.e)) (hi : P.info? r.e = some i) (hz : i.zero = some z) (hsize : i.size = r.s) (hby : i.bytes = bytes) (hzs : z.cells.size = r.s) (hsz : 0 < r.s)
    (hs : a.eval s = r.v) (news : Array Value) (b : Nat) (hb : w.heap[b]? = some (.cells news r.e (0, 0))) (hx : a.eval x = .slice (some ⟨b, 0, none⟩) 1 1) (hn : news.size = r.s) (h1 : ∀ u ∈ news.toList, u.oneCell' = true)
    (h63 : r.n + 1 ≤ maxLen) (hbytes : (r.n + 1) * bytes ≤ 140737488355328) (hB : B ≤ w.heap.size)
    (h : ∀ v' w', Fam B w' (l.set j ⟨v', r.e, r.s, r.n + 1, r.xs ++ news.toList⟩) → Below B w w' → wpList P ops Q rest (a.put o.dst v') w') :
    wpList P ops Q (o :: rest) a w := by
  refine wpList_append_own_at w hgd s x t ho B r.e i z r.s bytes ht hi hz hsize hby hzs hsz r.v r.n r.xs hs (F.get j hj) ⟨b, 0, none⟩ 1 1 news.toList hx (by rw [Array.length_toList, hn, Nat.one_mul]) (World.news_of_block hb) h1 h63 hbytes hB ?_
  intro v' w' hown hg _ hat
  refine h v' w' (F.grow j hj hg hown ?_) (grown_below hg hB fun k hk => ((F.get j hj).lt k hk).1)
  rcases hat with e | e
  · exact .inl e
  · exact .inr ⟨_, e, Nat.le_refl _⟩
/-- The same as a step of a region that draws its order. -/
theorem step_push {P : Program} {B : Nat} {w : World} {l : List Ent} (F : Fam B w l) (j : Nat) {r : Ent} (hj : l[j]? = some r) {ops : Array Oper} {o : Oper} {a : Act} {K : Act → World → Prop} {Q : Exit → Act → World → Prop} {E : Prop} (hgd : o.guard = none) (s x : Operand) (t : TypeId)
    (ho : o.op = .call { callee := .builtin .append, args := #[s, x], argTypes := #[t, t] })
    (i : TypeInfo) (z : Value) (bytes : Nat) (ht : P.underlying t = some (.slice r.e)) (hi : P.info? r.e = some i) (hz : i.zero = some z) (hsize : i.size = r.s) (hby : i.bytes = bytes) (hzs : z.cells.size = r.s) (hsz : 0 < r.s)
    (hs : a.eval s = r.v) (news : Array Value) (b : Nat) (hb : w.heap[b]? = some (.cells news r.e (0, 0))) (hx : a.eval x = .slice (some ⟨b, 0, none⟩) 1 1) (hn : news.size = r.s) (h1 : ∀ u ∈ news.toList, u.oneCell' = true)
    (h63 : r.n + 1 ≤ maxLen) (hbytes : (r.n + 1) * bytes ≤ 140737488355328) (hB : B ≤ w.heap.size)
    (h : ∀ v' w', Fam B w' (l.set j ⟨v', r.e, r.s, r.n + 1, r.xs ++ news.toList⟩) → Below B w w' → K (a.put o.dst v') w') :
    if Region.wanted o (yielded ops a.tmps) = true then Oper.wp P o a w K Q else E := by
  refine step_append_lies w hgd s x t ho B r.e i z r.s bytes ht hi hz hsize hby hzs hsz r.v r.n r.xs hs (F.get j hj) ⟨b, 0, none⟩ 1 1 news.toList hx (by rw [Array.length_toList, hn, Nat.one_mul]) (World.news_of_block hb) h1 Nat.one_pos h63 hbytes hB w.heap.size rfl ?_
  intro g cap w' hown hg hat hlt
  refine h _ w' (F.grow j hj hg hown ?_) (grown_below hg hB fun k hk => ((F.get j hj).lt k hk).1)
  rcases hat with e | e
  · exact .inl e.symm
  · exact .inr ⟨g, rfl, by omega⟩
theorem set_grown (w : World) (g k : Nat) (u : Value) : w.grownBy (w.setCell ⟨g, k, none⟩ u) (some g) :=
  ⟨rfl, rfl, rfl, by simp, fun i _ hne => Below.heap_setCell w ⟨g, k, none⟩ u i (fun e => hne (by rw [e]))⟩
/-- A cell of a row of one-cell elements is written. -/
theorem Fam.write {B : Nat} {w : World} {l : List Ent} (F : Fam B w l) (j : Nat) {g : Nat} {e : TypeId} {n cap : Nat} {xs : List Value} (hj : l[j]? = some ⟨.slice (some ⟨g, 0, none⟩) n cap, e, 1, n, xs⟩) {k : Nat} (hk : k < n) (u : Value) :
    Fam B (w.setCell ⟨g, k, none⟩ u) (l.set j ⟨.slice (some ⟨g, 0, none⟩) n cap, e, 1, n, xs.set k u⟩) := by
  refine F.grow j hj ?_ (own_set (F.get j hj) hk u) (.inl rfl)
  exact set_grown w g k u
/-- A block of a struct's cells as a row of one element. -/
theorem own_box (w : World) (B b : Nat) (cs : Array Value) (e : TypeId) (h : w.heap[b]? = some (.cells cs e (0, 0))) (hB : B ≤ b) : w.ownsRow B e cs.size (.slice (some ⟨b, 0, none⟩) 1 1) 1 cs.toList :=
  ⟨by simp, .inr ⟨b, 1, cs, rfl, hB, h, Nat.le_refl _, by simp [maxLen], by simp, by rw [List.take_of_length_le (by simp)]⟩⟩
theorem box_block {w : World} {B b : Nat} {e : TypeId} {cs : Array Value} {n cap : Nat} (h : w.ownsRow B e cs.size (.slice (some ⟨b, 0, none⟩) n cap) n cs.toList) (hn : n = 1) (hc : cap = 1) : w.heap[b]? = some (.cells cs e (0, 0)) := by
  subst hn hc
  rcases h.2 with ⟨e1, h1⟩ | ⟨g, c, cur, e1, hb, hg, hnc, hcm, hcs, htake⟩
  · omega
  · cases e1
    rw [hg]
    congr 2
    have h2 : cur.toList = cs.toList := by rw [← htake, List.take_of_length_le (by rw [Array.length_toList, hcs]; exact Nat.le_refl _)]
    exact Array.toList_inj.1 h2
end Go.Proofs.Ytffljcfpofhkgaa.Lo

set_option linter.unusedVariables false
set_option linter.unusedSimpArgs false
namespace Go.Proofs.Ytffljcfpofhkgaa.Lo
open Go.Proofs.Ytffljcfpofhkgaa.Bv

theorem take_get {α : Type} {l : List α} {t : Nat} {a : α} (h : l[t]? = some a) : l.take (t + 1) = l.take t ++ [a] := by
  rw [List.take_add_one, h]; rfl
def kidsT (L : List Str) (i t : Nat) : List Grp := ((Gs L).take i).flatMap (kids L) ++ (kids L (gd L i)).take t
def labsA (L : List Str) (i t : Nat) : List UInt8 := (kidsT L i t).map (labG L)
def grpsA (L : List Str) (i t : Nat) : List Grp := rootG L :: kidsT L i t
def shpA (L : List Str) (i t : Nat) : List Bool := shB L i ++ List.replicate t true
def endsI (L : List Str) (i : Nat) : List Bool := ((Gs L).take i).map (isS L)
def numsI (L : List Str) (i : Nat) : List Nat := (((Gs L).take i).filter (isS L)).map fun g => g.f
def nodI (L : List Str) (i : Nat) : List Nat := (List.range L.length).map fun id => if ndx L id < i then ndx L id else 0
theorem kidsT_step {L : List Str} {i t : Nat} (h : t < deg L i) : kidsT L i (t + 1) = kidsT L i t ++ [kid L i t] := by
  unfold kidsT; rw [take_get (kid_get h), List.append_assoc]
theorem kidsT_next {L : List Str} {i : Nat} (h : i < (Gs L).length) : kidsT L i (deg L i) = kidsT L (i + 1) 0 := by
  unfold kidsT deg
  rw [List.take_length, List.take_zero, List.append_nil, fm_succ _ (gd_get h)]
theorem kidsT_len {L : List Str} {i t : Nat} (h : t ≤ deg L i) : (kidsT L i t).length + 1 = off L i + t := by
  unfold kidsT off
  have : ((kids L (gd L i)).take t).length = t := by rw [List.length_take]; unfold deg at h; omega
  rw [List.length_append, this]; omega
theorem labsA_step {L : List Str} {i t : Nat} (h : t < deg L i) : labsA L i (t + 1) = labsA L i t ++ [labG L (kid L i t)] := by unfold labsA; rw [kidsT_step h]; simp
theorem grpsA_step {L : List Str} {i t : Nat} (h : t < deg L i) : grpsA L i (t + 1) = grpsA L i t ++ [kid L i t] := by unfold grpsA; rw [kidsT_step h]; rfl
theorem shpA_step (L : List Str) (i t : Nat) : shpA L i (t + 1) = shpA L i t ++ [true] := by unfold shpA; rw [List.replicate_succ', List.append_assoc]
theorem shpA_zero (L : List Str) (i : Nat) : shpA L i 0 = shB L i := by unfold shpA; simp
theorem shB_next {L : List Str} {i : Nat} (h : i < (Gs L).length) : shB L (i + 1) = shpA L i (deg L i) ++ [false] := by
  unfold shpA shB shG deg
  rw [fm_succ _ (gd_get h)]
  simp
theorem labsA_len {L : List Str} {i t : Nat} (h : t ≤ deg L i) : (labsA L i t).length + 1 = off L i + t := by unfold labsA; rw [List.length_map]; exact kidsT_len h
theorem grpsA_len {L : List Str} {i t : Nat} (h : t ≤ deg L i) : (grpsA L i t).length = off L i + t := by unfold grpsA; rw [List.length_cons]; exact kidsT_len h
theorem shpA_len {L : List Str} {i : Nat} (t : Nat) (h : i ≤ (Gs L).length) : (shpA L i t).length = off L i + i + 1 + t := by unfold shpA; rw [List.length_append, (shB_counts h).1, List.length_replicate]
theorem grpsA_eq {L : List Str} (hL : Ok L) (i : Nat) : grpsA L i 0 = (Gs L).take (off L i) := by rw [take_off hL]; unfold grpsA kidsT; simp
theorem grpsA_get {L : List Str} (hL : Ok L) {i : Nat} (h : i < (Gs L).length) : (grpsA L i 0)[i]? = some (gd L i) := by
  rw [grpsA_eq hL, List.getElem?_take, if_pos (off_gt hL h), gd_get h]
theorem endsI_step {L : List Str} {i : Nat} (h : i < (Gs L).length) : endsI L (i + 1) = endsI L i ++ [isS L (gd L i)] := by unfold endsI; rw [take_get (gd_get h)]; simp
theorem endsI_len {L : List Str} {i : Nat} (h : i ≤ (Gs L).length) : (endsI L i).length = i := by unfold endsI; rw [List.length_map, List.length_take]; omega
theorem numsI_yes {L : List Str} {i : Nat} (h : i < (Gs L).length) (hs : isS L (gd L i) = true) : numsI L (i + 1) = numsI L i ++ [(gd L i).f] := by unfold numsI; rw [take_get (gd_get h)]; simp [hs]
theorem numsI_no {L : List Str} {i : Nat} (h : i < (Gs L).length) (hs : isS L (gd L i) = false) : numsI L (i + 1) = numsI L i := by unfold numsI; rw [take_get (gd_get h)]; simp [hs]
theorem numsI_len {L : List Str} {i : Nat} (h : i ≤ (Gs L).length) : (numsI L i).length ≤ i := by
  unfold numsI
  rw [List.length_map]
  have := List.length_filter_le (isS L) ((Gs L).take i)
  rw [List.length_take] at this
  omega
theorem nodI_len (L : List Str) (i : Nat) : (nodI L i).length = L.length := by simp [nodI]
theorem nodI_zero (L : List Str) : nodI L 0 = List.replicate L.length 0 := by
  unfold nodI
  apply List.ext_getElem
  · simp
  · intro k h1 h2; simp
theorem nodI_yes {L : List Str} (hL : Ok L) {i : Nat} (h : i < (Gs L).length) (hs : isS L (gd L i) = true) : nodI L (i + 1) = (nodI L i).set (gd L i).f i := by
  apply List.ext_getElem?
  intro k
  rw [List.getElem?_set]
  unfold nodI
  by_cases hk : k < L.length
  · rw [List.getElem?_map, List.getElem?_map, List.getElem?_range hk]
    have h1 := ndx_eq hL hk h
    by_cases e : (gd L i).f = k
    · have e2 : ndx L k = i := h1.2 ⟨hs, e⟩
      rw [if_pos e]
      simp only [List.length_map, List.length_range]
      rw [if_pos (by omega)]
      simp [e2]
    · rw [if_neg e]
      have e2 : ndx L k ≠ i := fun e3 => e (h1.1 e3).2
      simp only [Option.map_some]
      congr 1
      by_cases e3 : ndx L k < i
      · rw [if_pos (by omega), if_pos e3]
      · rw [if_neg (by omega), if_neg e3]
  · rw [List.getElem?_eq_none (by simp; omega)]
    have hf := (isS_iff.1 hs).1
    have ht := (node_at hL h).tm
    rw [if_neg (by omega), List.getElem?_eq_none (by simp; omega)]
theorem nodI_no {L : List Str} (hL : Ok L) {i : Nat} (h : i < (Gs L).length) (hs : isS L (gd L i) = false) : nodI L (i + 1) = nodI L i := by
  unfold nodI
  apply List.map_congr_left
  intro k hk
  rw [List.mem_range] at hk
  have e2 : ndx L k ≠ i := fun e3 => by have := ((ndx_eq hL hk h).1 e3).1; rw [hs] at this; cases this
  by_cases e3 : ndx L k < i
  · rw [if_pos (by omega), if_pos e3]
  · rw [if_neg (by omega), if_neg e3]
/-- At the end. -/
theorem all_end {L : List Str} (hL : Ok L) : labsA L (Gs L).length 0 = labs L ∧ shB L (Gs L).length = shp L ∧ endsI L (Gs L).length = ends L ∧ numsI L (Gs L).length = nums L ∧ nodI L (Gs L).length = nods L := by
  refine ⟨?_, ?_, ?_, ?_, ?_⟩
  · unfold labsA kidsT labs; rw [List.take_length, List.take_zero, List.append_nil]
  · unfold shB shp; rw [List.take_length]
  · unfold endsI ends; rw [List.take_length]
  · unfold numsI nums; rw [List.take_length]
  · unfold nodI nods
    apply List.map_congr_left
    intro k hk
    rw [if_pos (ndx_is hL (List.mem_range.1 hk)).1]

/-! ### the children one after the other -/
/-- At child t of node i: it begins at string a. -/
structure Cur (L : List Str) (i t a : Nat) : Prop where
  le : t ≤ deg L i
  lo : (gd L i).f ≤ a
  hi : a ≤ (gd L i).t
  rest : kidI L ((gd L i).n + 1) a (gd L i).t = (kidI L ((gd L i).n + 1) (gd L i).f (gd L i).t).drop t
  reg : a = (gd L i).t ∨ st L ((gd L i).n + 1) a = true
theorem cur_no {L : List Str} (hL : Ok L) {i : Nat} (h : i < (Gs L).length) (hs : isS L (gd L i) = false) : Cur L i 0 (gd L i).f :=
  ⟨Nat.zero_le _, Nat.le_refl _, (node_at hL h).ft, rfl, kid_first hL (node_at hL h) hs⟩
theorem cur_yes {L : List Str} (hL : Ok L) {i : Nat} (h : i < (Gs L).length) (hs : isS L (gd L i) = true) : Cur L i 0 ((gd L i).f + 1) := by
  obtain ⟨h1, h2⟩ := kid_second hL (node_at hL h) hs
  exact ⟨Nat.zero_le _, by omega, (isS_iff.1 hs).1, h1.symm, h2⟩
theorem Cur.next {L : List Str} (hL : Ok L) {i t a : Nat} (h : i < (Gs L).length) (c : Cur L i t a) (ha : a < (gd L i).t) : t < deg L i ∧ kid L i t = gr L ((gd L i).n + 1) a ∧ Cur L i (t + 1) (en L ((gd L i).n + 1) a) := by
  have hg := node_at hL h
  have hs : st L ((gd L i).n + 1) a = true := by rcases c.reg with e | e; omega; exact e
  have hm := kid_more hL hg c.lo ha hs
  have hc := kid_cut hL hg c.lo ha hs
  have hd := c.rest
  rw [hm] at hd
  have hlen : t < deg L i := by
    rw [deg_kid]
    have := congrArg List.length hd
    rw [List.length_drop, List.length_cons] at this
    omega
  refine ⟨hlen, ?_, ⟨by omega, by have := en_gt L ((gd L i).n + 1) a; have := c.lo; omega, hc.1, ?_, hc.2⟩⟩
  · have h1 := kid_get hlen
    unfold kids at h1
    have h2 : (kidI L ((gd L i).n + 1) (gd L i).f (gd L i).t)[t]? = some a := by
      have := congrArg (fun l => l[0]?) hd
      simp only [List.getElem?_cons_zero, List.getElem?_drop, Nat.add_zero] at this
      exact this.symm
    rw [List.getElem?_map, h2] at h1
    exact (Option.some.inj h1).symm
  · have := congrArg List.tail hd
    rw [List.tail_cons, List.tail_drop] at this
    exact this
theorem Cur.done {L : List Str} {i t a : Nat} (c : Cur L i t a) (ha : ¬ a < (gd L i).t) : t = deg L i := by
  have h1 := c.rest
  have h2 := c.hi
  rw [show a = (gd L i).t by omega, kid_end] at h1
  have := congrArg List.length h1
  rw [List.length_drop, ← deg_kid] at this
  have := c.le
  simp at *
  omega
/-- What finding the first child wants. -/
theorem Cur.run {L : List Str} (hL : Ok L) {i t a : Nat} (h : i < (Gs L).length) (c : Cur L i t a) (ha : a < (gd L i).t) :
    (∀ y, a ≤ y → y < (gd L i).t → (gd L i).n < ln L y) ∧ (∀ y, a < y → y < en L ((gd L i).n + 1) a → (sg L y).getD (gd L i).n 0 = (sg L a).getD (gd L i).n 0) ∧
      (en L ((gd L i).n + 1) a = (gd L i).t ∨ (sg L (en L ((gd L i).n + 1) a)).getD (gd L i).n 0 ≠ (sg L a).getD (gd L i).n 0) := by
  have hg := node_at hL h
  have hs : st L ((gd L i).n + 1) a = true := by rcases c.reg with e | e; omega; exact e
  have hla : (gd L i).n < ln L a := (st_iff.1 hs).1
  have hc := kid_cut hL hg c.lo ha hs
  have hgt := en_gt L ((gd L i).n + 1) a
  have htm := hg.tm
  refine ⟨fun y h1 h2 => ?_, fun y h1 h2 => ?_, ?_⟩
  · by_cases e : y = a
    · rw [e]; exact hla
    · exact (byte_same hL hg c.lo (show a < y by omega) h2 hla).1
  · exact (byte_same hL hg c.lo h1 (by omega) hla).2.2 (en_same (st_iff.1 hs).1 (by omega) h2)
  · by_cases e : en L ((gd L i).n + 1) a = (gd L i).t
    · exact .inl e
    · right
      intro e2
      have h1 := (byte_same hL hg c.lo hgt (by omega) hla).2.1 e2
      have h2 := hL.run (by omega) h1 _ hgt (Nat.le_refl _)
      rcases en_end (L := L) (n := (gd L i).n + 1) (i := a) (by omega) with h3 | h3
      · omega
      · omega
end Go.Proofs.Ytffljcfpofhkgaa.Lo

set_option linter.unusedVariables false
set_option linter.unusedSimpArgs false
set_option maxRecDepth 100000
namespace Go.Proofs.Ytffljcfpofhkgaa.Lo
open Go Go.RowKit Go.Proofs.Ytffljcfpofhkgaa.Kit Go.Proofs.Ytffljcfpofhkgaa.Bv Go.Proofs.Ytffljcfpofhkgaa.Pk

def gcl (g : Grp) : List Value := [.int .i64 (g.f : Int), .int .i64 (g.t : Int), .int .i64 (g.n : Int)]
def gcs (gs : List Grp) : List Value := gs.flatMap gcl
theorem gcs_append (a b : List Grp) : gcs (a ++ b) = gcs a ++ gcs b := by simp [gcs]
theorem gcs_one (g : Grp) : gcs [g] = gcl g := by simp [gcs]
theorem gcs_len (gs : List Grp) : (gcs gs).length = gs.length * 3 := by
  induction gs with
  | nil => rfl
  | cons g gs ih => unfold gcs at *; rw [List.flatMap_cons, List.length_append, ih]; simp [gcl]; omega
theorem gcs_at : ∀ (gs : List Grp) (i : Nat) (g : Grp), gs[i]? = some g → (gcs gs)[i * 3]? = some (.int .i64 (g.f : Int)) ∧ (gcs gs)[i * 3 + 1]? = some (.int .i64 (g.t : Int)) ∧ (gcs gs)[i * 3 + 2]? = some (.int .i64 (g.n : Int))
  | [], i, g, h => by simp at h
  | x :: gs, 0, g, h => by cases h; exact ⟨rfl, rfl, rfl⟩
  | x :: gs, i + 1, g, h => by
    have := gcs_at gs i g h
    have e : gcs (x :: gs) = .int .i64 (x.f : Int) :: .int .i64 (x.t : Int) :: .int .i64 (x.n : Int) :: gcs gs := rfl
    rw [e, show (i + 1) * 3 = i * 3 + 1 + 1 + 1 by omega]
    exact this
theorem info_grp : (Try.prog.info? 92).map (fun i => (i.zero, i.size, i.bytes)) = some (some (.agg #[.int .i64 0, .int .i64 0, .int .i64 0]), 3, 24) := by kernel_rfl
/-- The rows of build, by what lies in them. -/
def rows5 (vl ve vn vs vd : Value) (labs : List UInt8) (ends : List Bool) (nums : List Nat) (shp : List Bool) (nods : List Nat) : List Ent :=
  [⟨vl, 5, 1, labs.length, u8s labs⟩, ⟨ve, 4, 1, ends.length, bls ends⟩, ⟨vn, 69, 1, nums.length, u64s nums⟩, ⟨vs, 4, 1, shp.length, bls shp⟩, ⟨vd, 69, 1, nods.length, u64s nods⟩]
def rows6 (vg vl ve vn vs vd : Value) (grps : List Grp) (labs : List UInt8) (ends : List Bool) (nums : List Nat) (shp : List Bool) (nods : List Nat) : List Ent :=
  ⟨vg, 92, 3, grps.length, gcs grps⟩ :: rows5 vl ve vn vs vd labs ends nums shp nods
theorem F6g {B : Nat} {w : World} {vg vl ve vn vs vd : Value} {grps : List Grp} {labs : List UInt8} {ends : List Bool} {nums : List Nat} {shp : List Bool} {nods : List Nat} (h : Fam B w (rows6 vg vl ve vn vs vd grps labs ends nums shp nods)) : w.ownsRow B 92 3 vg grps.length (gcs grps) := h.get 0 rfl
theorem F6d {B : Nat} {w : World} {fr : List Ent} {vg vl ve vn vs vd : Value} {grps : List Grp} {labs : List UInt8} {ends : List Bool} {nums : List Nat} {shp : List Bool} {nods : List Nat} (h : Fam B w (fr ++ rows6 vg vl ve vn vs vd grps labs ends nums shp nods)) : w.ownsRow B 69 1 vd nods.length (u64s nods) := h.get (fr.length + 5) (r := ⟨vd, 69, 1, nods.length, u64s nods⟩) (by rw [List.getElem?_append_right (by omega), Nat.add_sub_cancel_left]; rfl)
def boxE (b f t n : Nat) : Ent := ⟨.slice (some ⟨b, 0, none⟩) 1 1, 92, 3, 1, [.int .i64 (f : Int), .int .i64 (t : Int), .int .i64 (n : Int)]⟩

theorem Fam.put {B : Nat} {w : World} {l : List Ent} (h : Fam B w l) {r : Ent} (hown : w.ownsRow B r.e r.s r.v r.n r.xs) (hr : ∀ (i : Nat) (s : Ent), l[i]? = some s → Apart r.v s.v) : Fam B w (r :: l) := by
  constructor
  · intro i s hi
    cases i with
    | zero => cases hi; exact hown
    | succ i => exact h.1 i s hi
  · intro i j s t hne hi hj
    cases i with
    | zero =>
      cases hi
      cases j with
      | zero => exact absurd rfl hne
      | succ j => exact hr j t hj
    | succ i =>
      cases j with
      | zero => cases hj; exact (hr i s hi).symm
      | succ j => exact h.2 i j s t (by omega) hi hj
theorem apart_nil (u : Value) : Apart (.slice none 0 0) u := fun k h => by cases h
theorem own_slice {w : World} {base : Nat} {e : TypeId} {size : Nat} {v : Value} {n : Nat} {xs : List Value} (h : w.ownsRow base e size v n xs) : ∃ a c, v = .slice a n c := by
  rcases h.2 with ⟨rfl, h0⟩ | ⟨g, cap, cur, rfl, _⟩
  · exact ⟨none, 0, by rw [h0]⟩
  · exact ⟨_, _, rfl⟩
theorem own_cellsN {w : World} {base e size n cap : Nat} {a : Option Addr} {xs : List Value} (h : w.ownsRow base e size (.slice a n cap) n xs) (h0 : 0 < n) :
    ∃ g, a = some ⟨g, 0, none⟩ ∧ base ≤ g ∧ g < w.heap.size ∧ (∀ (k : Nat) x, xs[k]? = some x → w.cell? ⟨g, k, none⟩ = some x) ∧ ∀ k, w.frozen? ⟨g, k, none⟩ = false := by
  rcases h.2 with ⟨e1, h1⟩ | ⟨g, c, cur, e1, hb, hg, hnc, hcm, hcs, htake⟩
  · omega
  · cases e1
    refine ⟨g, rfl, hb, (Array.getElem?_eq_some_iff.1 hg).1, fun k x hx => ?_, fun k => by simp [World.frozen?, hg]⟩
    rw [cell_of_row w g k cur e (0, 0) hg]
    rw [← htake, List.getElem?_take] at hx
    split at hx
    · simpa using hx
    · cases hx
theorem fam_start {B m gs gd : Nat} {w : World} {zs : Array Value} (h1 : w.heap[gs]? = some (.cells #[.bool true, .bool false] 4 (0, 0))) (h2 : w.heap[gd]? = some (.cells zs 69 (0, 0))) (hz : zs.toList = u64s (List.replicate m 0)) (hne : gs ≠ gd) (hs : B ≤ gs) (hd : B ≤ gd) (hm : m ≤ maxLen) :
    Fam B w (rows5 (.slice none 0 0) (.slice none 0 0) (.slice none 0 0) (.slice (some ⟨gs, 0, none⟩) 2 2) (.slice (some ⟨gd, 0, none⟩) m m) [] [] [] [true, false] (List.replicate m 0)) := by
  have hzn : zs.size = m := by rw [← Array.length_toList, hz, u64s_len, List.length_replicate]
  have o1 : w.ownsRow B 4 1 (.slice (some ⟨gs, 0, none⟩) 2 2) 2 (bls [true, false]) :=
    ⟨rfl, .inr ⟨gs, 2, _, rfl, hs, h1, Nat.le_refl _, by simp [maxLen], rfl, rfl⟩⟩
  have o2 : w.ownsRow B 69 1 (.slice (some ⟨gd, 0, none⟩) m m) (List.replicate m 0).length (u64s (List.replicate m 0)) := by
    rw [List.length_replicate]
    exact ⟨by rw [u64s_len, List.length_replicate, Nat.mul_one], .inr ⟨gd, m, zs, rfl, hd, h2, Nat.le_refl _, hm, by rw [hzn, Nat.mul_one], by rw [Nat.mul_one, ← hz, List.take_of_length_le (by rw [Array.length_toList, hzn]; exact Nat.le_refl _)]⟩⟩
  have f0 : Fam B w [⟨.slice (some ⟨gd, 0, none⟩) m m, 69, 1, (List.replicate m 0).length, u64s (List.replicate m 0)⟩] := Fam.put (fam_nil B w) o2 (fun i s h => by simp at h)
  have f1 := Fam.put f0 (r := ⟨.slice (some ⟨gs, 0, none⟩) 2 2, 4, 1, [true, false].length, bls [true, false]⟩) o1 (fun i s h => by
    cases i with
    | zero => cases h; intro k k1 k2; cases k1; cases k2; exact hne rfl
    | succ i => simp at h)
  have f2 := Fam.put f1 (r := ⟨.slice none 0 0, 69, 1, ([] : List Nat).length, u64s []⟩) (own_nil _ _ _ _) (fun _ _ _ => apart_nil _)
  have f3 := Fam.put f2 (r := ⟨.slice none 0 0, 4, 1, ([] : List Bool).length, bls []⟩) (own_nil _ _ _ _) (fun _ _ _ => apart_nil _)
  exact Fam.put f3 (r := ⟨.slice none 0 0, 5, 1, ([] : List UInt8).length, u8s []⟩) (own_nil _ _ _ _) (fun _ _ _ => apart_nil _)

theorem set_fr {α : Type} (fr l : List α) (k : Nat) (x : α) : (fr ++ l).set (fr.length + k) x = fr ++ l.set k x := by
  rw [List.set_append_right _ _ (by omega), Nat.add_sub_cancel_left]
section
variable {B : Nat} {w : World} {fr : List Ent} {vg vl ve vn vs vd v' : Value} {G : List Grp} {La : List UInt8} {E : List Bool} {Nu : List Nat} {S : List Bool} {No : List Nat}
theorem fam_grps {g : Grp} (h : Fam B w ((fr ++ rows6 vg vl ve vn vs vd G La E Nu S No).set (fr.length + 0) ⟨v', 92, 3, G.length + 1, gcs G ++ gcl g⟩)) : Fam B w (fr ++ rows6 v' vl ve vn vs vd (G ++ [g]) La E Nu S No) := by
  rw [set_fr] at h
  unfold rows6 at h ⊢
  rw [List.length_append, gcs_append, gcs_one]
  exact h
theorem fam_labs {c : UInt8} (h : Fam B w ((fr ++ rows6 vg vl ve vn vs vd G La E Nu S No).set (fr.length + 1) ⟨v', 5, 1, La.length + 1, u8s La ++ [.int .u8 (c.toNat : Int)]⟩)) : Fam B w (fr ++ rows6 vg v' ve vn vs vd G (La ++ [c]) E Nu S No) := by
  rw [set_fr] at h
  unfold rows6 rows5 at h ⊢
  rw [List.length_append, u8s_append]
  exact h
theorem fam_ends {x : Bool} (h : Fam B w ((fr ++ rows6 vg vl ve vn vs vd G La E Nu S No).set (fr.length + 2) ⟨v', 4, 1, E.length + 1, bls E ++ [.bool x]⟩)) : Fam B w (fr ++ rows6 vg vl v' vn vs vd G La (E ++ [x]) Nu S No) := by
  rw [set_fr] at h
  unfold rows6 rows5 at h ⊢
  rw [List.length_append, show bls (E ++ [x]) = bls E ++ [.bool x] by simp [bls]]
  exact h
theorem fam_nums {x : Nat} (h : Fam B w ((fr ++ rows6 vg vl ve vn vs vd G La E Nu S No).set (fr.length + 3) ⟨v', 69, 1, Nu.length + 1, u64s Nu ++ [.int .u64 (x : Int)]⟩)) : Fam B w (fr ++ rows6 vg vl ve v' vs vd G La E (Nu ++ [x]) S No) := by
  rw [set_fr] at h
  unfold rows6 rows5 at h ⊢
  rw [List.length_append, u64s_append]
  exact h
theorem fam_shp {x : Bool} (h : Fam B w ((fr ++ rows6 vg vl ve vn vs vd G La E Nu S No).set (fr.length + 4) ⟨v', 4, 1, S.length + 1, bls S ++ [.bool x]⟩)) : Fam B w (fr ++ rows6 vg vl ve vn v' vd G La E Nu (S ++ [x]) No) := by
  rw [set_fr] at h
  unfold rows6 rows5 at h ⊢
  rw [List.length_append, show bls (S ++ [x]) = bls S ++ [.bool x] by simp [bls]]
  exact h
theorem fam_nods {i x : Nat} (h : Fam B w ((fr ++ rows6 vg vl ve vn vs vd G La E Nu S No).set (fr.length + 5) ⟨vd, 69, 1, No.length, (u64s No).set i (.int .u64 (x : Int))⟩)) : Fam B w (fr ++ rows6 vg vl ve vn vs vd G La E Nu S (No.set i x)) := by
  rw [set_fr] at h
  unfold rows6 rows5 at h ⊢
  rw [List.length_set, show u64s (No.set i x) = (u64s No).set i (.int .u64 (x : Int)) by simp [u64s, List.map_set]]
  exact h
end
/-- A group's box is in the family. -/
theorem Fam.box {B b f t n : Nat} {w : World} {l : List Ent} {j : Nat} (h : Fam B w l) (hj : l[j]? = some (boxE b f t n)) : Box3 w b (.int .i64 (f : Int)) (.int .i64 (t : Int)) (.int .i64 (n : Int)) := by
  obtain ⟨g, e, _, _, hc, hf⟩ := own_cellsN (h.get j hj) (by show 0 < 1; decide)
  cases e
  exact ⟨hc 0 _ rfl, hc 1 _ rfl, hc 2 _ rfl, hf⟩
theorem Fam.newbox {B b f t n : Nat} {w : World} {l : List Ent} (h : Fam B w l) (hB : B ≤ w.heap.size) (hb : b = w.heap.size) : Fam B (w.alloc (.cells #[.int .i64 (f : Int), .int .i64 (t : Int), .int .i64 (n : Int)] 92)) (boxE b f t n :: l) := by
  subst hb
  exact h.cons (r := boxE w.heap.size f t n) ((Below.refl _ w).alloc (Nat.le_refl _) _) (own_box _ B w.heap.size #[.int .i64 (f : Int), .int .i64 (t : Int), .int .i64 (n : Int)] 92 (heap_alloc_new w _) hB) (fun k hk => by cases hk; exact Nat.le_refl _)
theorem Fam.setbox {B b f t n : Nat} {w : World} {l : List Ent} (h : Fam B w l) (j : Nat) (hj : l[j]? = some (boxE b f t n)) (x : Nat) : Fam B (w.setCell ⟨b, 0, none⟩ (.int .i64 (x : Int))) (l.set j (boxE b x t n)) := by
  refine h.grow j hj (set_grown w b 0 _) ?_ (.inl rfl)
  have h1 := box_block (cs := #[.int .i64 (f : Int), .int .i64 (t : Int), .int .i64 (n : Int)]) (h.get j hj) rfl rfl
  have h2 := heap_setCell_same w b 0 _ _ (.int .i64 (x : Int)) h1
  exact own_box _ B b _ _ h2 ((h.get j hj).lt b rfl).1
theorem Fam.write' {B : Nat} {w : World} {l : List Ent} (F : Fam B w l) (j : Nat) {g : Nat} {e : TypeId} {n n' cap : Nat} {xs : List Value} (hj : l[j]? = some ⟨.slice (some ⟨g, 0, none⟩) n cap, e, 1, n', xs⟩) (hn : n' = n) {k : Nat} (hk : k < n) (u : Value) :
    Fam B (w.setCell ⟨g, k, none⟩ u) (l.set j ⟨.slice (some ⟨g, 0, none⟩) n cap, e, 1, n', xs.set k u⟩) := by
  subst hn
  exact F.write j hj hk u
theorem alloc_at (w : World) (o : Obj) (j : Nat) (hj : j = w.heap.size) : (w.alloc o).heap[j]? = some o := by rw [hj]; exact heap_alloc_new w o
theorem gd_eta {L : List Str} {i F T n : Nat} (h1 : (gd L i).f = F) (h2 : (gd L i).t = T) (h3 : (gd L i).n = n) : gd L i = ⟨F, T, n⟩ := by
  cases h : gd L i
  rw [h] at h1 h2 h3
  simp only at h1 h2 h3
  rw [h1, h2, h3]

set_option maxHeartbeats 8000000 in
theorem build_any (L : List Str) (hL : Ok L) (hN : (Gs L).length ≤ 524287) (hm : L.length ≤ 1048576) (a : Option Addr) (cap : Nat) (w : World) (hR : Reads w (.slice a L.length cap) (strs L)) :
    Calls Try.prog 39 #[.slice a L.length cap] w fun e w' => ∃ p, e = .returned (.pointer (some ⟨p, 0, none⟩)) ∧ TrieAt w.heap.size w'.heap.size w' p L ∧ Below w.heap.size w w' := by
  obtain ⟨i8, hi8, hz8, hs8, hb8⟩ := info_parts info_u8
  obtain ⟨ib, hib, hzb, hsb, hbb⟩ := info_parts info_bool
  obtain ⟨i6, hi6, hz6, hs6, hb6⟩ := info_parts info_u64
  obtain ⟨ig, hig, hzg, hsg, hbg⟩ := info_parts info_grp
  obtain ⟨m, hmm⟩ : ∃ m, L.length = m := ⟨_, rfl⟩
  have HM := Lib.hid hmm
  obtain ⟨zs, hzs⟩ : ∃ zs, madeCells (Value.int .u64 0).cells (m * 1) = zs := ⟨_, rfl⟩
  have HZL : Hid (zs.toList = u64s (List.replicate m 0)) := Lib.hid (by rw [← hzs, show (Value.int IntKind.u64 0).cells = #[Value.int IntKind.u64 0] from rfl, toList_madeCells_one, Nat.mul_one]; unfold u64s; rw [List.map_replicate]; rfl)
  have hmk : ∀ W, (Instr.makeSlice 79 (.int .i64 (m : Int)) (.int .i64 (m : Int))).run Try.prog W = .ok (.slice (some ⟨W.heap.size, 0, none⟩) m m) (W.alloc (.cells zs 69)) := by
    intro W
    have := run_make (P := Try.prog) W 79 69 i6 _ Try.underlying79 hi6 hz6 .i64 .i64 (m : Int) (m : Int) (by omega) (Int.le_refl _) (by rw [hb6]; omega) (by omega)
    rw [Int.toNat_natCast, hs6, hzs] at this
    exact this
  have hlen := hR.len.2
  unfold maxLen at hlen
  have HR := Lib.hid hR
  have HRC := Lib.hid (fun V (hV : Below w.heap.size w V) i (hi : i < L.length) => show ∃ b off, a = some ⟨b, off, none⟩ ∧ V.cell? ⟨b, off + i, none⟩ = some (.string (ba (sg L i))) by
    obtain ⟨b, off, e1, hb, hc⟩ := Reads.cell hR (strs_get hi)
    exact ⟨b, off, e1, by rw [hV.cell (p := ⟨b, off + i, none⟩) hb]; exact hc⟩)
  rw [hmm] at HR HRC hlen hm ⊢
  clear hR hzs hmm
  go_enter Try.func39, Try.ntmps39
  go_wp2
  go_upto_region 4 with fail
  go_cut [6, 7] (fun vs vd W => ∃ gs gd c, vs = .slice (some ⟨gs, 0, none⟩) 2 c ∧ vd = .slice (some ⟨gd, 0, none⟩) m m ∧ Fam w.heap.size W (rows5 (.slice none 0 0) (.slice none 0 0) (.slice none 0 0) vs vd [] [] [] [true, false] (List.replicate m 0)) ∧ Below w.heap.size w W)
  case first =>
    go_region
    all_goals go_wp2_with fail
    all_goals go_meet
    · refine ⟨w.heap.size, w.heap.size + 1, 2, rfl, rfl, fam_start (zs := zs) ?_ ?_ HZL.out (by omega) (Nat.le_refl _) (by omega) (by unfold maxLen; omega), (((Below.refl _ w).alloc (Nat.le_refl _) _).alloc (by simp) _).drew⟩
      · exact (Below.heap_alloc _ _ _ (by simp)).trans (heap_alloc_new w _)
      · have := heap_alloc_new (w.alloc (Obj.cells #[Value.bool true, Value.bool false] 4)) (Obj.cells zs 69)
        rwa [World.size_alloc] at this
    · refine ⟨w.heap.size + 1, w.heap.size, 2, rfl, rfl, fam_start (zs := zs) ?_ ?_ HZL.out (by omega) (by omega) (Nat.le_refl _) (by unfold maxLen; omega), (((Below.refl _ w).alloc (Nat.le_refl _) _).alloc (by simp) _).drew⟩
      · have := heap_alloc_new (w.alloc (Obj.cells zs 69)) (Obj.cells #[Value.bool true, Value.bool false] 4)
        rwa [World.size_alloc] at this
      · exact (Below.heap_alloc _ _ _ (by simp)).trans (heap_alloc_new w _)
  case rest =>
    obtain ⟨gs, gD, c, rfl, rfl, hF, hb⟩ := hcut
    have F0 := hF.cons (w' := wc.alloc (.cells #[.int .i64 0, .int .i64 (m : Int), .int .i64 0] 92)) (r := ⟨.slice (some ⟨wc.heap.size, 0, none⟩) 1 1, 92, 3, 1, gcs [rootG L]⟩) ((Below.refl _ _).alloc (Nat.le_refl _) _) (by
      have h1 := own_box (wc.alloc (.cells #[.int .i64 0, .int .i64 (m : Int), .int .i64 0] 92)) w.heap.size wc.heap.size #[.int .i64 0, .int .i64 (m : Int), .int .i64 0] 92 (heap_alloc_new wc _) hb.size
      have e : gcs [rootG L] = [.int .i64 0, .int .i64 (m : Int), .int .i64 0] := by rw [gcs_one]; unfold gcl rootG; simp only [HM.out]; rfl
      rw [e]
      exact h1) (fun k hk => by cases hk; exact Nat.le_refl _)
    have HF0 := Lib.hid F0
    have HB0 : Hid (Below w.heap.size w (wc.alloc (.cells #[.int .i64 0, .int .i64 (m : Int), .int .i64 0] 92))) := Lib.hid (hb.alloc hb.size _)
    clear F0 hF hb
    obtain ⟨N, hNN⟩ : ∃ N, (Gs L).length = N := ⟨_, rfl⟩
    have HNN := Lib.hid hNN
    rw [hNN] at hN
    clear hNN
    go_wp2
    go_loopw [3, 4, 5, 6, 8, 9] (fun vl ve vn vs vg vi wr => ∃ i : Nat, i ≤ N ∧ vi = .int .i64 (i : Int) ∧ Hid (Fam w.heap.size wr (rows6 vg vl ve vn vs (.slice (some ⟨gD, 0, none⟩) m m) (grpsA L i 0) (labsA L i 0) (endsI L i) (numsI L i) (shB L i) (nodI L i))) ∧ Below w.heap.size w wr) (fun _ _ _ _ _ vi _ => N - (intOf vi).toNat)
    case atStart =>
      refine ⟨0, Nat.zero_le _, rfl, Lib.hid ?_, HB0.out⟩
      have := HF0.out
      rw [nodI_zero, HM.out]
      exact this
    case round =>
      clear HF0 HB0
      obtain ⟨i, hi, rfl, hF, hb⟩ := hrel
      have hg0 := F6g hF.out
      obtain ⟨ag, cg, rfl⟩ := own_slice hg0
      by_cases hlt : i < N
      · have hiN : i < (Gs L).length := by rw [HNN.out]; exact hlt
        have hgl : (grpsA L i 0).length = off L i := by rw [grpsA_len (Nat.zero_le _), Nat.add_zero]
        have hoff := off_gt hL hiN
        have hofl := off_le hL (i := i) (by omega)
        rw [HNN.out] at hofl
        obtain ⟨gg, rfl, hgb, hgs, hgc, hgf⟩ := own_cellsN hg0 (by omega)
        obtain ⟨g0, g1, g2⟩ := gcs_at _ _ _ (grpsA_get hL hiN)
        have x0 := hgc _ _ g0
        have x1 := hgc _ _ g1
        have x2 := hgc _ _ g2
        have hnode := node_at hL hiN
        have hftm : (gd L i).f ≤ (gd L i).t ∧ (gd L i).t ≤ m ∧ (gd L i).n ≤ 256 := ⟨hnode.ft, by have := hnode.tm; rw [HM.out] at this; exact this, hnode.n256⟩
        have hmz : m ≤ 1048576 := by omega
        rw [hgl]
        obtain ⟨O, hO⟩ : ∃ O, off L i = O := ⟨_, rfl⟩
        have HO := Lib.hid hO
        rw [hO] at hgl hoff hofl ⊢
        have HGL := Lib.hid hgl
        have hiO : (i : Int) < (O : Int) := by omega
        have hi0 : (0 : Int) ≤ (i : Int) := by omega
        obtain ⟨F, hFf⟩ : ∃ F, (gd L i).f = F := ⟨_, rfl⟩
        obtain ⟨T, hTt⟩ : ∃ T, (gd L i).t = T := ⟨_, rfl⟩
        obtain ⟨n, hnn⟩ : ∃ n, (gd L i).n = n := ⟨_, rfl⟩
        rw [hFf] at x0 hftm
        rw [hTt] at x1 hftm
        rw [hnn] at x2 hftm
        have HFf := Lib.hid hFf
        have HTt := Lib.hid hTt
        have Hnn := Lib.hid hnn
        clear hg0 hgl hO hFf hTt hnn hgc hgf g0 g1 g2 hnode hoff hiN
        obtain ⟨b, hbq⟩ : ∃ b, wr.heap.size = b := ⟨_, rfl⟩
        obtain ⟨W1, hW1⟩ : ∃ W1, wr.alloc (.cells #[.int .i64 (F : Int), .int .i64 (T : Int), .int .i64 (n : Int)] 92) = W1 := ⟨_, rfl⟩
        have HW1 := Lib.hid hW1
        have hb1 : Below w.heap.size w W1 := by rw [← hW1]; exact hb.alloc hb.size _
        have F1 : Fam w.heap.size W1 (boxE b F T n :: rows6 (.slice (some ⟨gg, 0, none⟩) O cg) u3 u4 u5 u6 (.slice (some ⟨gD, 0, none⟩) m m) (grpsA L i 0) (labsA L i 0) (endsI L i) (numsI L i) (shB L i) (nodI L i)) := by
          rw [← hW1]
          have := hF.out
          rw [HGL.out] at this
          exact this.newbox hb.size hbq.symm
        have HIS := isString_any L ⟨F, T, n⟩ a cap W1 (by rw [HM.out]; exact HR.out.later hb1) (by rw [HM.out]; exact hftm.2.1)
        rw [HM.out, ← gd_eta HFf.out HTt.out Hnn.out] at HIS
        obtain ⟨eS, heS⟩ : ∃ eS, isS L (gd L i) = eS := ⟨_, rfl⟩
        rw [heS, gd_eta HFf.out HTt.out Hnn.out] at HIS
        have HES := Lib.hid heS
        have HIS := Lib.hid HIS
        have HF1 := Lib.hid F1
        have HB1 := Lib.hid hb1
        have HEN : Hid ((endsI L i).length = i) := Lib.hid (endsI_len (by rw [HNN.out]; omega))
        clear hW1 hb1 F1 heS hF
        go_wp2_with fail
        rw [HW1.out]
        clear hbq
        refine HIS.out.mono ?_
        rintro e W2 ⟨rfl, hb2⟩
        have HB2 : Hid (Below w.heap.size w W2) := Lib.hid (HB1.out.trans (hb2.mono HB1.out.size))
        have HF2 := Lib.hid (HF1.out.below hb2)
        have hs2 := HB2.out.size
        clear hb2
        go_wp2_with (at_builtin; refine wpList_push (HF2.out.alloc _) 3 rfl rfl _ _ _ rfl ib _ 1 Try.underlying78 hib hzb hsb hbb rfl Nat.one_pos rfl #[.bool eS] W2.heap.size (heap_alloc_new W2 _) rfl rfl (by simp [Value.oneCell']) ?c3 ?c4 ?c5 ?_)
        case c3 => show (endsI L i).length + 1 ≤ maxLen; have := HEN.out; unfold maxLen; omega
        case c4 => have := HEN.out; (try simp only [Nat.mul_one]); omega
        case c5 => simp; omega
        intro ve W3 hf3 hb3
        have HF3 := Lib.hid (fam_ends (fr := [boxE b F T n]) hf3)
        have HB3 : Hid (Below w.heap.size w W3) := Lib.hid ((HB2.out.alloc HB2.out.size _).trans hb3)
        clear hf3 hb3
        go_upto_if 38 with fail
        have hFi : F ≤ 1048576 := by omega
        go_cut [5] (fun vn W => ∃ a0, Hid (Cur L i 0 a0) ∧ Hid (Fam w.heap.size W ([boxE b a0 T n] ++ rows6 (.slice (some ⟨gg, 0, none⟩) O cg) u3 ve vn u6 (.slice (some ⟨gD, 0, none⟩) m m) (grpsA L i 0) (labsA L i 0) (endsI L (i + 1)) (numsI L (i + 1)) (shB L i) (nodI L (i + 1)))) ∧ Below w.heap.size w W)
        case first =>
          have hiG : i < (Gs L).length := by rw [HNN.out]; exact hlt
          have HEI := Lib.hid (endsI_step hiG)
          cases eS with
          | true =>
            have hcur := cur_yes hL hiG HES.out
            rw [HFf.out] at hcur
            have HCUR := Lib.hid hcur
            have HNY := numsI_yes hiG HES.out
            have HDY := nodI_yes hL hiG HES.out
            rw [HFf.out] at HNY HDY
            have HNY := Lib.hid HNY
            have HDY := Lib.hid HDY
            have hnl := numsI_len (L := L) (i := i) (by omega)
            have hFm : F < m := by
              have h1 := (isS_iff.1 HES.out).1
              rw [HFf.out, HTt.out] at h1
              omega
            rw [HES.out] at HEI
            have HNL := Lib.hid hnl
            obtain ⟨y0, y1, y2, yf⟩ := HF3.out.box (j := 0) rfl
            have hwF : IntKind.u64.wrap (F : Int) = (F : Int) := wrap_u64_nat F (by omega)
            have hwi : IntKind.u64.wrap (i : Int) = (i : Int) := wrap_u64_nat i (by omega)
            have hs3 := HB3.out.size
            clear hcur hnl
            go_wp2_with (at_builtin; refine wpList_push (HF3.out.alloc _) 4 rfl rfl _ _ _ rfl i6 _ 8 Try.underlying79 hi6 hz6 hs6 hb6 rfl Nat.one_pos rfl #[.int .u64 (F : Int)] W3.heap.size (heap_alloc_new W3 _) rfl rfl (by simp [Value.oneCell']) ?c3 ?c4 ?c5 ?_)
            case c3 => show (numsI L i).length + 1 ≤ maxLen; have := HNL.out; unfold maxLen; omega
            case c4 => have := HNL.out; (try simp only [Nat.mul_one]); omega
            case c5 => simp; omega
            intro vn W4 hf4 hb4
            have hF4 := fam_nums (fr := [boxE b F T n]) hf4
            have HB4 : Hid (Below w.heap.size w W4) := Lib.hid ((HB3.out.alloc HB3.out.size _).trans hb4)
            obtain ⟨y0, y1, y2, yf⟩ := hF4.box (j := 0) rfl
            have hnd := F6d (fr := [boxE b F T n]) hF4
            rw [nodI_len, HM.out] at hnd
            obtain ⟨gD', e1, hgD, _, hcD, hfD⟩ := own_cellsN hnd (by omega)
            cases e1
            have hNF : (u64s (nodI L i))[F]? = some (.int .u64 ((nodI L i).getD F 0 : Nat)) := u64s_get (by
              have h1 : F < (nodI L i).length := by rw [nodI_len, HM.out]; exact hFm
              rw [List.getD_eq_getElem?_getD, List.getElem?_eq_getElem h1]; rfl)
            have cD := hcD F _ hNF
            have fD := hfD F
            have hF5 := fam_nods (fr := [boxE b F T n]) (i := F) (x := i) (hF4.write' 6 rfl (by rw [nodI_len, HM.out]) (k := F) hFm (.int .u64 (i : Int)))
            rw [← HDY.out, ← HEI.out, ← HNY.out] at hF5
            obtain ⟨z0, z1, z2, zf⟩ := hF5.box (j := 0) rfl
            have hF6 := hF5.setbox 0 rfl (F + 1)
            have HF6 := Lib.hid hF6
            have hs4 := HB4.out.size
            have HB6 : Hid (Below w.heap.size w ((W4.setCell ⟨gD, F, none⟩ (.int .u64 (i : Int))).setCell ⟨b, 0, none⟩ (.int .i64 ((F + 1 : Nat) : Int)))) := Lib.hid ((HB4.out.setCell (by exact hgD) _).setCell (((hF4.get 0 rfl).lt b rfl).1) _)
            have HzF : Hid ((F : Int) + 1 = ((F + 1 : Nat) : Int)) := Lib.hid (by omega)
            have z00 := zf 0
            have y00 := yf 0
            have hFz : (F : Int) < (m : Int) := by omega
            have hF0 : (0 : Int) ≤ (F : Int) := by omega
            clear hf4 hb4 hF4 hF5 hF6 hnd hcD hfD hNF zf yf
            go_wp2_with fail
            go_meet
            exact ⟨F + 1, HCUR, Lib.hid (by rw [HzF.out]; exact HF6.out), by rw [HzF.out]; exact HB6.out⟩
          | false =>
            have hcur := cur_no hL hiG HES.out
            rw [HFf.out] at hcur
            have HCUR := Lib.hid hcur
            have HNY := Lib.hid (numsI_no hiG HES.out)
            have HDY := Lib.hid (nodI_no hL hiG HES.out)
            rw [HES.out] at HEI
            clear hcur
            go_wp2_with fail
            go_meet
            refine ⟨F, HCUR, Lib.hid ?_, HB3.out⟩
            rw [HEI.out, HNY.out, HDY.out]
            exact HF3.out
        case rest =>
          obtain ⟨a0, hcur, hF, hbW⟩ := hcut
          have hiG : i < (Gs L).length := by rw [HNN.out]; exact hlt
          have HIG := Lib.hid hiG
          have hn256 := hftm.2.2
          have hTm := hftm.2.1
          have hFF : Hid (Fam w.heap.size wc ([boxE b a0 T n] ++ rows6 (.slice (some ⟨gg, 0, none⟩) O cg) u3 ve u5 u6 (.slice (some ⟨gD, 0, none⟩) m m) (grpsA L i 0) (labsA L i 0) (endsI L (i + 1)) (numsI L (i + 1)) (shpA L i 0) (nodI L (i + 1)))) := Lib.hid (by rw [shpA_zero]; exact hF.out)
          have hCU : Hid (Cur L i 0 a0 ∧ a0 ≤ T) := Lib.hid ⟨hcur.out, by have := hcur.out.hi; rw [HTt.out] at this; exact this⟩
          clear hF hcur hiG HF1 HF2 HF3 HB1 HB2 HB3 HIS HGL HW1 hgb hgs
          go_wp2
          go_loopw [3, 6, 8] (fun vl vs vg V => ∃ t a1 : Nat, Hid (Cur L i t a1 ∧ a1 ≤ T) ∧ Hid (Fam w.heap.size V ([boxE b a1 T n] ++ rows6 vg vl ve u5 vs (.slice (some ⟨gD, 0, none⟩) m m) (grpsA L i t) (labsA L i t) (endsI L (i + 1)) (numsI L (i + 1)) (shpA L i t) (nodI L (i + 1)))) ∧ Below w.heap.size w V) (fun _ _ _ V => T - cellN V ⟨b, 0, none⟩)
          case atStart => exact ⟨0, a0, hCU, hFF, hbW⟩
          case round =>
            clear hFF hCU hbW
            obtain ⟨t, a1, hcu, hF, hb⟩ := hrel
            obtain ⟨y0, y1, y2, yf⟩ := hF.out.box (j := 0) rfl
            have haT := hcu.out.2
            have Hcn0 : Hid (cellN wr ⟨b, 0, none⟩ = a1) := Lib.hid (by rw [cellN_eq y0]; simp)
            by_cases ha : a1 < T
            · have hac : a1 < (gd L i).t := by rw [HTt.out]; exact ha
              obtain ⟨n1, n2, n3⟩ := hcu.out.1.next hL HIG.out hac
              obtain ⟨r1, r2, r3⟩ := hcu.out.1.run hL HIG.out hac
              rw [Hnn.out] at n2 n3 r1 r2 r3
              rw [HTt.out] at r1 r3
              have hgt := en_gt L (n + 1) a1
              have hle : en L (n + 1) a1 ≤ T := by have := n3.hi; rw [HTt.out] at this; exact this
              have hgr : gr L (n + 1) a1 = ⟨a1, en L (n + 1) a1, n + 1⟩ := rfl
              rw [hgr] at n2
              obtain ⟨e, he⟩ : ∃ e, en L (n + 1) a1 = e := ⟨_, rfl⟩
              rw [he] at n2 n3 r2 r3 hgt hle
              have HFC := Lib.hid (firstChild_any L a1 T n e a cap wr (by rw [HM.out]; exact HR.out.later hb) (by rw [HM.out]; exact hTm) hn256 hgt hle r1 r2 r3)
              unfold grV at HFC
              simp only at HFC
              rw [HM.out] at HFC
              obtain ⟨nn, hnn⟩ : ∃ nn, n + 1 = nn := ⟨_, rfl⟩
              rw [hnn] at HFC n2
              have HLS := Lib.hid (labsA_step n1)
              have HGS := Lib.hid (grpsA_step n1)
              have HSS := Lib.hid (shpA_step L i t)
              have HLL := Lib.hid (labsA_len (L := L) (i := i) (t := t) (by omega))
              have HGLn := Lib.hid (grpsA_len (L := L) (i := i) (t := t) (by omega))
              have HSL := Lib.hid (shpA_len (L := L) (i := i) t (by rw [HNN.out]; omega))
              have HOT : Hid (off L i + t ≤ N) := Lib.hid (by have := (kid_at hL HIG.out n1).1; rw [HNN.out] at this; omega)
              rw [n2] at HLS HGS
              have HCU : Hid (Cur L i (t + 1) e ∧ e ≤ T) := Lib.hid ⟨n3, hle⟩
              have hlab : labG L ⟨a1, e, nn⟩ = (sg L a1).getD n 0 := by unfold labG; simp only; rw [← hnn, Nat.add_sub_cancel]
              rw [hlab] at HLS
              have hlna := r1 a1 (Nat.le_refl _) ha
              have hid := fun W => ba_byte (sg L a1) n hlna W
              have hszb := ba_size (sg L a1)
              obtain ⟨A, hA⟩ : ∃ A, ba (sg L a1) = A := ⟨_, rfl⟩
              have HA := Lib.hid hA
              obtain ⟨c8, hc8⟩ : ∃ c, (sg L a1).getD n 0 = c := ⟨_, rfl⟩
              rw [hA] at hszb
              unfold ln at hlna
              have hnA : (n : Int) < (A.size : Int) := by omega
              simp only [hA, hc8] at hid
              rw [hc8] at HLS
              have ha1m : (a1 : Int) < (m : Int) := by omega
              have ha10 : (0 : Int) ≤ (a1 : Int) := by omega
              have hn0 : (0 : Int) ≤ (n : Int) := by omega
              have haz : (a1 : Int) < (T : Int) := by omega
              have HF := Lib.hid hF.out
              have ha1n : a1 < m := by omega
              have HB := Lib.hid hb
              have Hgt := Lib.hid hgt
              have hemax : e ≤ 1048576 := by omega
              have hnnmax : nn ≤ 257 := by omega
              clear n1 n2 n3 r1 r2 r3 hle hgr he hnn hlab hszb hA hc8 hac hlna hgt hcu
              go_wp2_with fail
              refine HFC.out.mono ?_
              rintro e' W2 ⟨rfl, hb2⟩
              have HB2 : Hid (Below w.heap.size w W2) := Lib.hid (HB.out.trans (hb2.mono HB.out.size))
              have hs2 := HB2.out.size
              have F3 := (HF.out.below hb2).newbox (b := W2.heap.size) (f := a1) (t := e) (n := nn) hs2 rfl
              have HF3 := Lib.hid F3
              have HB3 : Hid (Below w.heap.size w (W2.alloc (.cells #[.int .i64 (a1 : Int), .int .i64 (e : Int), .int .i64 (nn : Int)] 92))) := Lib.hid (HB2.out.alloc hs2 _)
              clear F3 hb2 hF
              go_wp2_with (at_builtin; refine wpList_push (HF3.out.alloc _) 6 rfl rfl _ _ _ rfl ib _ 1 Try.underlying78 hib hzb hsb hbb rfl Nat.one_pos rfl #[.bool true] (W2.heap.size + 1) (alloc_at _ _ _ (by simp)) rfl rfl (by simp [Value.oneCell']) ?c3 ?c4 ?c5 ?_)
              case c3 => show (shpA L i t).length + 1 ≤ maxLen; have := HSL.out; have := HOT.out; unfold maxLen; omega
              case c4 => have := HSL.out; have := HOT.out; (try simp only [Nat.mul_one]); omega
              case c5 => simp; omega
              intro vs W4 hf4 hb4
              have hF4 := fam_shp (fr := [boxE W2.heap.size a1 e nn, boxE b a1 T n]) hf4
              rw [← HSS.out] at hF4
              have HF4 := Lib.hid hF4
              have HB4 : Hid (Below w.heap.size w W4) := Lib.hid ((HB3.out.alloc HB3.out.size _).trans hb4)
              obtain ⟨y0, y1, y2, yf⟩ := hF4.box (j := 1) rfl
              obtain ⟨bb, oo, e1, sc⟩ := HRC.out W4 HB4.out a1 ha1n
              cases e1
              rw [HA.out] at sc
              have hs4 := HB4.out.size
              clear hf4 hb4 hF4
              go_upto_region 19 with fail
              have hll : (labsA L i t).length ≤ 600000 := by have := HLL.out; have := HOT.out; omega
              go_cut [3] (fun vl V => Hid (Fam w.heap.size V ([boxE W2.heap.size a1 e nn, boxE b a1 T n] ++ rows6 u8 vl ve u5 vs (.slice (some ⟨gD, 0, none⟩) m m) (grpsA L i t) (labsA L i (t + 1)) (endsI L (i + 1)) (numsI L (i + 1)) (shpA L i (t + 1)) (nodI L (i + 1)))) ∧ Hid (Below w.heap.size w V))
              case first =>
                go_region_law (refine step_push ((HF4.out.alloc _).drew) 3 rfl (by rfl) (.tmp 66) (.tmp 75) 51 (by rfl) i8 _ 1 Try.underlying51 hi8 hz8 hs8 hb8 rfl Nat.one_pos (by rfl) #[.int .u8 (c8.toNat : Int)] W4.heap.size (heap_alloc_new W4 _) (by rfl) rfl (by simp [Value.oneCell']) (by show (labsA L i t).length + 1 ≤ maxLen; unfold maxLen; omega) (by show ((labsA L i t).length + 1) * 1 ≤ _; omega) (by simp; omega) ?_; intro vl W5 hf5 hb5)
                all_goals go_wp2_with fail
                all_goals go_meet
                all_goals
                  have hF5 := fam_labs (fr := [boxE W2.heap.size a1 e nn, boxE b a1 T n]) hf5
                  rw [← HLS.out] at hF5
                  exact ⟨Lib.hid hF5, Lib.hid ((HB4.out.alloc hs4 _).drew.trans hb5)⟩
              case rest =>
                obtain ⟨HF5, HB5⟩ := hcut
                obtain ⟨x0, x1, x2, xf⟩ := HF5.out.box (j := 0) rfl
                obtain ⟨y0, y1, y2, yf⟩ := HF5.out.box (j := 1) rfl
                have hs5 := HB5.out.size
                have hgl : (grpsA L i t).length ≤ 600000 := by have := HGLn.out; have := HOT.out; omega
                have HGL5 := Lib.hid hgl
                clear hgl
                go_wp2_with (at_builtin; refine wpList_push (HF5.out.alloc _) 2 rfl rfl _ _ _ rfl ig _ 24 Try.underlying93 hig hzg hsg hbg rfl (by show 0 < 3; decide) rfl #[.int .i64 (a1 : Int), .int .i64 (e : Int), .int .i64 (nn : Int)] wc.heap.size (heap_alloc_new wc _) rfl rfl (by simp [Value.oneCell']) ?c3 ?c4 ?c5 ?_)
                case c3 => show (grpsA L i t).length + 1 ≤ maxLen; have := HGL5.out; unfold maxLen; omega
                case c4 => have := HGL5.out; omega
                case c5 => simp; omega
                intro vg W6 hf6 hb6
                have hF6 := fam_grps (fr := [boxE W2.heap.size a1 e nn, boxE b a1 T n]) (g := ⟨a1, e, nn⟩) hf6
                rw [← HGS.out] at hF6
                have HB6 : Hid (Below w.heap.size w W6) := Lib.hid ((HB5.out.alloc hs5 _).trans hb6)
                obtain ⟨x0, x1, x2, xf⟩ := hF6.box (j := 0) rfl
                obtain ⟨y0, y1, y2, yf⟩ := hF6.box (j := 1) rfl
                have y00 := yf 0
                have hF7 := (hF6.setbox 1 rfl e).tail
                have HF7 := Lib.hid hF7
                have HB7 : Hid (Below w.heap.size w (W6.setCell ⟨b, 0, none⟩ (.int .i64 (e : Int)))) := Lib.hid (HB6.out.setCell (((hF6.get 1 rfl).lt b rfl).1) _)
                have HCN : Hid (cellN (W6.setCell ⟨b, 0, none⟩ (.int .i64 (e : Int))) ⟨b, 0, none⟩ = e) := Lib.hid (by rw [cellN_eq (World.cell?_setCell_same' _ _ _ (by rw [y0]; rfl))]; simp)
                clear hf6 hb6 hF6 hF7 xf yf
                go_wp2
                refine ⟨⟨t + 1, e, HCU, HF7, HB7.out⟩, ?_⟩
                rw [HCN.out, Hcn0.out]
                have := Hgt.out
                omega
            · have htd := hcu.out.1.done (by rw [HTt.out]; exact ha)
              have HSN := Lib.hid (shB_next HIG.out)
              have HKN := Lib.hid (kidsT_next HIG.out)
              have HSL := Lib.hid (shpA_len (L := L) (i := i) t (by rw [HNN.out]; omega))
              have HOT : Hid (off L i + t ≤ N) := Lib.hid (by have := off_le hL (i := i + 1) (by rw [HNN.out]; omega); rw [off_succ HIG.out, HNN.out] at this; omega)
              have haz : ¬ (a1 : Int) < (T : Int) := by omega
              have hs := hb.size
              have HB := Lib.hid hb
              have HF := Lib.hid hF.out
              have HTD := Lib.hid htd
              clear htd hF hcu
              go_wp2_with (at_builtin; refine wpList_push (HF.out.alloc _) 5 rfl rfl _ _ _ rfl ib _ 1 Try.underlying78 hib hzb hsb hbb rfl Nat.one_pos rfl #[.bool false] wr.heap.size (heap_alloc_new wr _) rfl rfl (by simp [Value.oneCell']) ?c3 ?c4 ?c5 ?_)
              case c3 => show (shpA L i t).length + 1 ≤ maxLen; have := HSL.out; have := HOT.out; unfold maxLen; omega
              case c4 => have := HSL.out; have := HOT.out; (try simp only [Nat.mul_one]); omega
              case c5 => first | omega | (simp; omega)
              intro vs W4 hf4 hb4
              have hF4 := (fam_shp (fr := [boxE b a1 T n]) hf4).tail
              have hF5 : Fam w.heap.size W4 (rows6 u8 u3 ve u5 vs (.slice (some ⟨gD, 0, none⟩) m m) (grpsA L (i + 1) 0) (labsA L (i + 1) 0) (endsI L (i + 1)) (numsI L (i + 1)) (shB L (i + 1)) (nodI L (i + 1))) := by
                have e1 : grpsA L (i + 1) 0 = grpsA L i t := by unfold grpsA; rw [HTD.out, HKN.out]
                have e2 : labsA L (i + 1) 0 = labsA L i t := by unfold labsA; rw [HTD.out, HKN.out]
                rw [e1, e2, HSN.out, ← HTD.out]
                exact hF4
              have HF5 := Lib.hid hF5
              have HB4 : Hid (Below w.heap.size w W4) := Lib.hid ((HB.out.alloc hs _).trans hb4)
              clear hf4 hb4 hF4 hF5
              go_wp2
              exact ⟨⟨i + 1, by omega, by go_num, HF5, HB4.out⟩, by simp [intOf]; omega⟩
      · obtain rfl : i = N := by omega
        have hgl : (grpsA L i 0).length = i := by
          rw [grpsA_len (Nat.zero_le _), Nat.add_zero]
          have := off_all hL
          rwa [HNN.out] at this
        obtain ⟨e1, e2, e3, e4, e5⟩ := all_end hL
        rw [HNN.out] at e1 e2 e3 e4 e5
        have hF2 := hF.out
        rw [e1, e2, e3, e4, e5] at hF2
        have o1 : wr.ownsRow w.heap.size 5 1 u3 (labs L).length (u8s (labs L)) := hF2.get 1 rfl
        have o2 : wr.ownsRow w.heap.size 4 1 u4 (ends L).length (bls (ends L)) := hF2.get 2 rfl
        have o3 : wr.ownsRow w.heap.size 69 1 u5 (nums L).length (u64s (nums L)) := hF2.get 3 rfl
        have o4 : wr.ownsRow w.heap.size 4 1 u6 (shp L).length (bls (shp L)) := hF2.get 4 rfl
        have o5 : wr.ownsRow w.heap.size 69 1 (.slice (some ⟨gD, 0, none⟩) m m) (nods L).length (u64s (nods L)) := hF2.get 5 rfl
        obtain ⟨a1, c1, rfl⟩ := own_is o1
        obtain ⟨a2, c2, rfl⟩ := own_is o2
        obtain ⟨a3, c3, rfl⟩ := own_is o3
        obtain ⟨a4, c4, rfl⟩ := own_is o4
        have hnl : (nods L).length = m := by rw [nods_len, HM.out]
        rw [← hnl] at o5
        have HAS := assemble_any L hL (by rw [HNN.out]; omega) (by rw [HM.out]; omega) a4 a2 a1 a3 (some ⟨gD, 0, none⟩) c4 c2 c1 c3 m w.heap.size wr hb.size (own_reads o4) (own_reads o2) o1 (own_reads o3) (by have := own_reads o5; rw [hnl] at this ⊢; exact this)
        rw [hnl] at HAS
        have HAS := Lib.hid HAS
        have hsz := hb.size
        rw [hgl]
        obtain ⟨n1, k1⟩ : ∃ n, (shp L).length = n := ⟨_, rfl⟩
        obtain ⟨n2, k2⟩ : ∃ n, (ends L).length = n := ⟨_, rfl⟩
        obtain ⟨n3, k3⟩ : ∃ n, (labs L).length = n := ⟨_, rfl⟩
        obtain ⟨n4, k4⟩ : ∃ n, (nums L).length = n := ⟨_, rfl⟩
        rw [k1, k2, k3, k4] at HAS
        (try rw [k2]); (try rw [k3]); (try rw [k4]); (try rw [k1])
        clear k1 k2 k3 k4 hF hF2 o1 o2 o3 o4 o5 e1 e2 e3 e4 e5 hgl hg0 hnl
        go_wp2_with (go_at_call 66; (with_reducible refine HAS.out.mono ?_); rintro e w3 ⟨p, rfl, ht, hb3⟩)
        go_ret
        exact ⟨p, rfl, ht, hb.trans (hb3.mono hsz)⟩
end Go.Proofs.Ytffljcfpofhkgaa.Lo

set_option linter.unusedVariables false
set_option linter.unusedSimpArgs false
set_option maxRecDepth 100000
namespace Go.Proofs.Ytffljcfpofhkgaa.Lo
open Go Go.RowKit Go.Proofs.Ytffljcfpofhkgaa.Kit Go.Proofs.Ytffljcfpofhkgaa.Bv Go.Proofs.Ytffljcfpofhkgaa.Pk

theorem bytesLess_lt : ∀ (x y : Str), Op.bytesLess x y = decide (x < y)
  | [], [] => by simp [Op.bytesLess]
  | _ :: _, [] => by simp [Op.bytesLess]
  | [], _ :: _ => by simp [Op.bytesLess]
  | a :: x, b :: y => by
    rw [Op.bytesLess, bytesLess_lt x y]
    simp only [List.cons_lt_cons_iff]
    by_cases h1 : a < b <;> by_cases h2 : a = b <;> by_cases h3 : x < y <;> simp [h1, h2, h3]
/-- The first i strings are as those of a set. -/
def OkTo (L : List Str) (i : Nat) : Prop := ∀ j, j < i → 1 ≤ ln L j ∧ ln L j ≤ 256 ∧ (0 < j → sg L (j - 1) < sg L j)
theorem okTo_all {L : List Str} : OkTo L L.length ↔ Ok L := by
  constructor
  · intro h
    refine ⟨fun i hi => ⟨(h i hi).1, (h i hi).2.1⟩, fun i hi => ?_⟩
    have := (h (i + 1) hi).2.2 (by omega)
    rwa [Nat.add_sub_cancel] at this
  · intro h j hj
    refine ⟨(h.1 j hj).1, (h.1 j hj).2, fun h0 => ?_⟩
    have := h.2 (j - 1) (by omega)
    rwa [show j - 1 + 1 = j by omega] at this
/-- The string before string i. -/
def prevS (L : List Str) (i : Nat) : Str := if i = 0 then [] else sg L (i - 1)
theorem prevS_succ (L : List Str) (i : Nat) : prevS L (i + 1) = sg L i := by unfold prevS; rw [if_neg (by omega), Nat.add_sub_cancel]
theorem lcp_prev (L : List Str) (i : Nat) : lcp (prevS L i) (sg L i) = lc0 L i := by
  unfold prevS lc0 lc
  by_cases h : i = 0
  · rw [if_pos h, if_pos h]; rfl
  · rw [if_neg h, if_neg h]
theorem okTo_step {L : List Str} {i : Nat} (h : OkTo L i) (h1 : ln L i ≤ 256) (h2 : prevS L i < sg L i) : OkTo L (i + 1) := by
  intro j hj
  by_cases e : j = i
  · subst e
    have h3 : 1 ≤ ln L j := by
      have := lcp_lt h2
      unfold ln; omega
    refine ⟨h3, h1, fun h0 => ?_⟩
    unfold prevS at h2
    rwa [if_neg (by omega)] at h2
  · exact h j (by omega)
theorem okTo_of {L : List Str} (h : Ok L) {i : Nat} (hi : i < L.length) : ln L i ≤ 256 ∧ prevS L i < sg L i := by
  refine ⟨(h.1 i hi).2, ?_⟩
  unfold prevS
  by_cases h0 : i = 0
  · rw [if_pos h0]
    have := (h.1 i hi).1
    unfold ln at this
    cases hs : sg L i with
    | nil => rw [hs] at this; simp at this
    | cons a b => exact List.nil_lt_cons a b
  · rw [if_neg h0]
    have := h.2 (i - 1) (by omega)
    rwa [show i - 1 + 1 = i by omega] at this
theorem cntN_succ (L : List Str) (i : Nat) : cntN L (i + 1) = cntN L i + (ln L i - lc0 L i) := rfl
theorem cntN_le {L : List Str} : ∀ i, OkTo L i → cntN L i ≤ 1 + 256 * i := by
  intro i
  induction i with
  | zero => intro _; exact Nat.le_refl _
  | succ i ih =>
    intro h
    have h1 := ih (fun j hj => h j (by omega))
    have h2 := (h i (by omega)).2.1
    rw [cntN_succ]
    omega
theorem le_bool (s p : Str) : (Op.bytesLess s p || s == p) = !decide (p < s) := by
  rw [bytesLess_lt]
  by_cases h : p < s
  · have h1 : ¬ s < p := fun h1 => List.lt_irrefl _ (List.lt_trans h h1)
    have h2 : ¬ s = p := fun h2 => by subst h2; exact List.lt_irrefl _ h
    simp [h, h1, h2]
  · rw [decide_eq_false h]
    by_cases h1 : s < p
    · simp [h1]
    · have : s = p := List.le_antisymm (List.not_lt.1 h) (List.not_lt.1 h1)
      simp [this]

/-- What Build leaves. -/
def BldP (L : List Str) (w : World) (e : Ending) (w' : World) : Prop :=
  Below w.heap.size w w' ∧
    ((e = .returned (.tuple #[.pointer none, .int .i64 2]) ∧ (20000 < L.length ∨ (L.length ≤ 20000 ∧ Ok L ∧ 524287 < cntN L L.length))) ∨
     (e = .returned (.tuple #[.pointer none, .int .i64 1]) ∧ L.length ≤ 20000 ∧ ¬ Ok L) ∨
     (L.length ≤ 20000 ∧ Ok L ∧ cntN L L.length ≤ 524287 ∧ ∃ p, e = .returned (.tuple #[.pointer (some ⟨p, 0, none⟩), .int .i64 0]) ∧ TrieAt w.heap.size w'.heap.size w' p L))

set_option maxHeartbeats 4000000 in
theorem bld_any (L : List Str) (a : Option Addr) (cap : Nat) (w : World) (hR : Reads w (.slice a L.length cap) (strs L)) (hsz : ∀ i, i < L.length → ln L i ≤ 281474976710656) :
    Calls Try.prog 16 #[.slice a L.length cap] w (BldP L w) := by
  have hlen := hR.len.2
  unfold maxLen at hlen
  by_cases h20 : 20000 < L.length
  · have HP : Hid (BldP L w (.returned (.tuple #[.pointer none, .int .i64 2])) w) := Lib.hid ⟨Below.refl _ _, .inl ⟨rfl, .inl h20⟩⟩
    have hz : (20000 : Int) < (L.length : Int) := by omega
    clear h20 hR
    go_enter Try.func16, Try.ntmps16
    go_wp2
    go_ret2
    exact HP.out
  · have HR := Lib.hid (fun V (hV : Below w.heap.size w V) i (hi : i < L.length) => show ∃ b off, a = some ⟨b, off, none⟩ ∧ V.cell? ⟨b, off + i, none⟩ = some (.string (ba (sg L i))) by
      obtain ⟨b, off, e1, hb, hc⟩ := Reads.cell hR (strs_get hi)
      exact ⟨b, off, e1, by rw [hV.cell (p := ⟨b, off + i, none⟩) hb]; exact hc⟩)
    have HRR := Lib.hid hR
    have HSZ := Lib.hid hsz
    obtain ⟨m, hmm⟩ : ∃ m, L.length = m := ⟨_, rfl⟩
    have HM := Lib.hid hmm
    rw [hmm] at HR HRR hlen h20 HSZ ⊢
    have h20z : ¬ (20000 : Int) < (m : Int) := by omega
    have hm2 : m ≤ 20000 := by omega
    clear hR hmm hsz h20
    go_enter Try.func16, Try.ntmps16
    go_wp2
    go_loopw [4, 5, 13] (fun x y z wr => ∃ i : Nat, i ≤ m ∧ z = .int .i64 (i : Int) ∧ x = .int .i64 (cntN L i : Nat) ∧ y = .string (ba (prevS L i)) ∧ Hid (OkTo L i) ∧ Below w.heap.size w wr) (fun _ _ z _ => m - (intOf z).toNat)
    case atStart => exact ⟨0, Nat.zero_le _, rfl, rfl, rfl, Lib.hid (fun j h => by omega), Below.refl _ _⟩
    case round =>
      obtain ⟨i, hi, rfl, rfl, rfl, hok, hb⟩ := hrel
      have hcn := cntN_le i hok.out
      by_cases hlt : i < m
      · obtain ⟨b, off, rfl, hcell⟩ := HR.out _ hb i hlt
        have hls := ba_size (sg L i)
        have hbig := HSZ.out i hlt
        have hle := le_bool (sg L i) (prevS L i)
        have HT1 : (ba (sg L i)).toList = sg L i := by rw [ByteArray.toList_eq]; exact ba_list _
        have HT2 : (ba (prevS L i)).toList = prevS L i := by rw [ByteArray.toList_eq]; exact ba_list _
        by_cases h256 : ln L i ≤ 256
        · by_cases hpr : prevS L i < sg L i
          · have HOK := Lib.hid (okTo_step hok.out h256 hpr)
            have HPS := prevS_succ L i
            have HCN := cntN_succ L i
            have hlc := lc0_le L i
            have hpl : (prevS L i).length ≤ 256 := by
              unfold prevS
              split
              · simp
              · exact (hok.out (i - 1) (by omega)).2.1
            have HSH := (fun V => shared_any (prevS L i) (sg L i) V (by omega) (by unfold ln at h256; omega))
            rw [lcp_prev] at HSH
            rw [decide_eq_true hpr] at hle
            have q1 : Op.bytesLess (ba (sg L i)).toList (ba (prevS L i)).toList = false := by
              rw [HT1, HT2]
              cases hq : Op.bytesLess (sg L i) (prevS L i) with
              | false => rfl
              | true => rw [hq] at hle; cases hle
            have q2 : ((ba (sg L i)).toList == (ba (prevS L i)).toList) = false := by
              rw [HT1, HT2]
              cases hq : (sg L i == prevS L i) with
              | false => rfl
              | true => rw [hq, Bool.or_true] at hle; cases hle
            unfold ln at h256 HCN hlc
            have HPB : Hid (ba (prevS L (i + 1)) = ba (sg L i)) := Lib.hid (by rw [HPS])
            obtain ⟨S, hS⟩ : ∃ S, ba (sg L i) = S := ⟨_, rfl⟩
            obtain ⟨P, hP⟩ : ∃ P, ba (prevS L i) = P := ⟨_, rfl⟩
            simp only [hS, hP] at hcell hls q1 q2 HSH HPB ⊢
            rw [← hls] at HCN hlc h256
            obtain ⟨K, hK⟩ : ∃ K, lc0 L i = K := ⟨_, rfl⟩
            obtain ⟨C, hC⟩ : ∃ C, cntN L i = C := ⟨_, rfl⟩
            simp only [hK] at HSH HCN hlc
            rw [hC] at HCN hcn ⊢
            have HCN := Lib.hid HCN
            have HSH := Lib.hid HSH
            have h256z : ¬ (256 : Int) < (S.size : Int) := by omega
            have him : (i : Int) < (m : Int) := by omega
            have hi0 : (0 : Int) ≤ (i : Int) := by omega
            have hbs := hb.size
            clear hle HT1 HT2 hpr hS hP hK hC hls hbig hpl hlt HPS
            go_wp2_with (go_at_call 38; (with_reducible refine (HSH.out _).mono ?_); rintro e w1 ⟨rfl, hb1⟩; have hb2 := hb.trans (hb1.mono hbs))
            go_roundw
            case rel => exact ⟨i + 1, by omega, by go_num, by rw [HCN.out]; go_num, by rw [HPB.out], HOK, hb2⟩
            case measure => simp [intOf]; omega
          · have HNO : Hid (¬ Ok L) := Lib.hid (fun h => hpr (okTo_of h (by rw [HM.out]; exact hlt)).2)
            have HP : Hid (BldP L w (.returned (.tuple #[.pointer none, .int .i64 1])) wr) := Lib.hid ⟨hb, .inr (.inl ⟨rfl, by rw [HM.out]; exact hm2, HNO.out⟩)⟩
            rw [decide_eq_false hpr] at hle
            have q : Op.bytesLess (ba (sg L i)).toList (ba (prevS L i)).toList = true ∨ (Op.bytesLess (ba (sg L i)).toList (ba (prevS L i)).toList = false ∧ ((ba (sg L i)).toList == (ba (prevS L i)).toList) = true) := by
              rw [HT1, HT2]
              cases hq : Op.bytesLess (sg L i) (prevS L i) with
              | true => exact .inl rfl
              | false => rw [hq, Bool.false_or] at hle; exact .inr ⟨rfl, hle⟩
            unfold ln at h256
            obtain ⟨S, hS⟩ : ∃ S, ba (sg L i) = S := ⟨_, rfl⟩
            obtain ⟨P, hP⟩ : ∃ P, ba (prevS L i) = P := ⟨_, rfl⟩
            simp only [hS, hP] at hcell hls q ⊢
            rw [← hls] at h256
            have h256z : ¬ (256 : Int) < (S.size : Int) := by omega
            have him : (i : Int) < (m : Int) := by omega
            have hi0 : (0 : Int) ≤ (i : Int) := by omega
            clear hle HT1 HT2 hpr hS hP hls hbig hlt hok
            rcases q with q1 | ⟨q1, q2⟩
            · go_wp2
              go_ret2
              exact HP.out
            · go_wp2
              go_ret2
              exact HP.out
        · have HNO : Hid (¬ Ok L) := Lib.hid (fun h => h256 (okTo_of h (by rw [HM.out]; exact hlt)).1)
          have HP : Hid (BldP L w (.returned (.tuple #[.pointer none, .int .i64 1])) wr) := Lib.hid ⟨hb, .inr (.inl ⟨rfl, by rw [HM.out]; exact hm2, HNO.out⟩)⟩
          unfold ln at h256
          obtain ⟨S, hS⟩ : ∃ S, ba (sg L i) = S := ⟨_, rfl⟩
          simp only [hS] at hcell hls ⊢
          rw [← hls] at h256
          have h256z : (256 : Int) < (S.size : Int) := by omega
          have him : (i : Int) < (m : Int) := by omega
          have hi0 : (0 : Int) ≤ (i : Int) := by omega
          clear hle HT1 HT2 hS hls hbig hlt hok
          go_wp2
          go_ret2
          exact HP.out
      · obtain rfl : i = m := by omega
        have hOk : Ok L := by rw [← okTo_all, HM.out]; exact hok.out
        have hGl := Gs_len hOk
        rw [HM.out] at hGl
        by_cases hc : cntN L i ≤ 524287
        · have HB := build_any L hOk (by rw [hGl]; exact hc) (by rw [HM.out]; omega) a cap wr (by rw [HM.out]; exact HRR.out.later hb)
          rw [HM.out] at HB
          have HB := Lib.hid HB
          have hbs := hb.size
          have HX := Lib.hid (show L.length ≤ 20000 ∧ Ok L ∧ cntN L L.length ≤ 524287 by rw [HM.out]; exact ⟨hm2, hOk, hc⟩)
          obtain ⟨C, hC⟩ : ∃ C, cntN L i = C := ⟨_, rfl⟩
          rw [hC] at hcn hc ⊢
          have hcz : ¬ (524287 : Int) < (C : Int) := by omega
          clear hOk hGl hC hok hlt
          go_wp2_with (go_at_call 39; (with_reducible refine HB.out.mono ?_); rintro e w1 ⟨p, rfl, ht, hb1⟩)
          go_ret2
          exact ⟨hb.trans (hb1.mono hbs), .inr (.inr ⟨HX.out.1, HX.out.2.1, HX.out.2.2, p, rfl, ht.wide hbs (Nat.le_refl _)⟩)⟩
        · have HP : Hid (BldP L w (.returned (.tuple #[.pointer none, .int .i64 2])) wr) := Lib.hid ⟨hb, .inl ⟨rfl, .inr (by rw [HM.out]; exact ⟨hm2, hOk, by omega⟩)⟩⟩
          obtain ⟨C, hC⟩ : ∃ C, cntN L i = C := ⟨_, rfl⟩
          rw [hC] at hcn hc ⊢
          have hcz : (524287 : Int) < (C : Int) := by omega
          clear hOk hGl hC hok hlt hc
          go_wp2
          go_ret2
          exact HP.out
end Go.Proofs.Ytffljcfpofhkgaa.Lo
