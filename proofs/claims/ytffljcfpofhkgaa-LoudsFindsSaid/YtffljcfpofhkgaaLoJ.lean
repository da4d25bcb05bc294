/-
  Contracts of node of no trie, Find, Under.
-/
import Derived.Test.YtffljcfpofhkgaaLoI
import Derived.Test.YtffljcfpofhkgaaLoMathF
set_option linter.unusedVariables false
set_option linter.unusedSimpArgs false
set_option maxRecDepth 100000
namespace Go.Proofs.Ytffljcfpofhkgaa.Lo
open Go Go.RowKit Go.Shelf Go.Proofs.Ytffljcfpofhkgaa.Kit Go.Proofs.Ytffljcfpofhkgaa.Bv Go.Proofs.Ytffljcfpofhkgaa.Pk

section
attribute [local go_sem] Oper.semAt_some
set_option maxHeartbeats 4000000 in
theorem node_nil (S : ByteArray) (w : World) :
    Calls Try.prog 41 #[.pointer none, .string S] w fun e w' => e = .returned (ndV none) ∧ Below w.heap.size w w' := by
  refine (callsIn_wide (n := 3)).1 ?_
  refine callsIn_of_wp_marks Try.func41 rfl trivial ?_ rfl
  simp only [Try.ntmps41, List.size_toArray, List.length_cons, List.length_nil, Nat.reduceAdd, Nat.reduceSub, Array.replicate_succ, Array.replicate_zero, List.push_toArray, List.append_toArray, List.nil_append, List.cons_append]
  gi_wp2_with (refine ⟨trivial, ?_⟩; gi_at_call 43; refine (callsIn_wide.2 (along_any _ _ _)).mono ?_; rintro e w' ⟨rfl, rfl⟩)
  obtain ⟨W0, hW0⟩ : ∃ W0, ((((w.alloc (.cells #[.string S] 9)).alloc (.cells #[.int .i64 0] 3)).alloc (.cells #[.bool false] 4)).alloc (.cells #[.pointer none] 24)).alloc (.cells #[.string S] 9) = W0 := ⟨_, rfl⟩
  have b0 : Box W0 w.heap.size (.string S) := by rw [← hW0]; exact ((((box_new w _ _ _ rfl).alloc _).alloc _).alloc _).alloc _
  have b1 : Box W0 (w.heap.size + 1) (.int .i64 0) := by rw [← hW0]; exact (((box_new _ _ _ _ (by simp)).alloc _).alloc _).alloc _
  have b2 : Box W0 (w.heap.size + 1 + 1) (.bool false) := by rw [← hW0]; exact ((box_new _ _ _ _ (by simp)).alloc _).alloc _
  have b3 : Box W0 (w.heap.size + 1 + 1 + 1) (.pointer none) := by rw [← hW0]; exact (box_new _ _ _ _ (by simp)).alloc _
  have b4 : Box W0 (w.heap.size + 1 + 1 + 1 + 1) (.string S) := by rw [← hW0]; exact box_new _ _ _ _ (by simp)
  have hB0 : Below w.heap.size w W0 := by rw [← hW0]; exact (((((Below.refl _ w).alloc (Nat.le_refl _) _).alloc (by simp) _).alloc (by simp; omega) _).alloc (by simp; omega) _).alloc (by simp; omega) _
  have hs0 : W0.heap.size = w.heap.size + 5 := by rw [← hW0]; simp
  rw [hW0]
  clear hW0
  refine wpIn_rangeFunc_ownF rfl (by omega) (gf := 70) (lb := #[.pointer (some ⟨w.heap.size + 1 + 1 + 1, 0, none⟩), .pointer (some ⟨w.heap.size + 1 + 1 + 1 + 1, 0, none⟩)]) rfl trivial (enters_of Try.func70 (by kernel_rfl) rfl)
    (along_none 2 (by omega) (α := Nat × Nat) (fun x => #[.int .i64 (x.1 : Int), .int .i64 (x.2 : Int)]) (w.heap.size + 1 + 1 + 1) (w.heap.size + 1 + 1 + 1 + 1) w.heap.size W0 (by omega) b3.1) KpB.trans (KpB.put (by omega) (by omega) (by omega)) (Below.refl _ _) (fun _ => rfl)
    (fun pre W => (True ∧ Box W w.heap.size (.string S) ∧ Box W (w.heap.size + 1) (.int .i64 0) ∧ Box W (w.heap.size + 1 + 1) (.bool false)) ∧ Below w.heap.size w W)
    (fun _ _ _ => False)
    (OwnFrom.and (Own.from (fun s A B row hs hg hr => ⟨hs.1, hs.2.1.kept hg hr, hs.2.2.1.kept hg hr, hs.2.2.2.kept hg hr⟩) _) (ownFrom_below (Nat.le_refl _) (by omega)))
    (fun _ _ _ _ _ hs _ _ => hs)
    ⟨⟨by simp, b0, b1, b2⟩, hB0⟩
    (fun x => { tmps := #[.pointer none, .string S, undef, .pointer (some ⟨w.heap.size, 0, none⟩), .pointer (some ⟨w.heap.size + 1, 0, none⟩), .pointer (some ⟨w.heap.size + 1 + 1, 0, none⟩), .int .i64 (x.1 : Int), .int .i64 (x.2 : Int), .pointer none, .string S, .func (.func 70) #[] #[.pointer (some ⟨w.heap.size + 1 + 1 + 1, 0, none⟩), .pointer (some ⟨w.heap.size + 1 + 1 + 1 + 1, 0, none⟩)], .int .i64 (x.1 : Int), .int .i64 (x.2 : Int), undef, undef, undef, undef, undef], defers := [] }) ?assign ?body ?done ?stop
  case assign =>
    intro l x W K hK
    gi_wp2
    exact hK
  case body =>
    rintro l pre x W _ hlt
    exact absurd hlt (by omega)
  case done =>
    rintro D ys W hD hall ⟨⟨_, k0, k1, k2⟩, hBW⟩ hK
    have q1 := k1.1
    have q2 := k2.1
    have f1 := k1.2
    have f2 := k2.2
    have hne2 : w.heap.size + 1 + 1 ≠ w.heap.size + 1 := by omega
    have q2' : ∀ u, (W.setCell ⟨w.heap.size + 1, 0, none⟩ u).cell? ⟨w.heap.size + 1 + 1, 0, none⟩ = some (.bool false) := fun u => (k2.other hne2 0 u).1
    gi_wp2
    have hK' := ((KeepsOthers.setCell W ⟨w.heap.size + 1, 0, none⟩ (.int .i64 0)).trans (KeepsOthers.setCell _ ⟨w.heap.size + 1 + 1, 0, none⟩ (.bool false))).same D _ hK rfl
    refine ⟨by simp, .inl ⟨_, _, rfl, run_takeDeferred hK', ?_⟩⟩
    have hk5 := cell_kept ((k1.set (.int .i64 0)).other (c := w.heap.size + 1 + 1) (by omega) 0 (.bool false)).1 (grownBy_putObj' _ D (.deferred none)) (fun r e => by cases e; exact ⟨_, hK', rfl⟩)
    have hb5 := cell_kept ((k2.other hne2 0 (.int .i64 0)).set (.bool false)).1 (grownBy_putObj' _ D (.deferred none)) (fun r e => by cases e; exact ⟨_, hK', rfl⟩)
    refine ⟨.tuple #[.int .i64 0, .bool false], ?_, rfl, ((hBW.setCell (by show w.heap.size ≤ w.heap.size + 1; omega) _).setCell (by show w.heap.size ≤ w.heap.size + 1 + 1; omega) _).trans (belowK_b (w := w) (Nat.le_refl _) _ D _ _ (by omega) hK' rfl rfl)⟩
    simp [results, Try.f41, go_sem, hk5, hb5]
  case stop =>
    rintro D cd pre W hD hpre _ hK
    exact hpre.elim
end

set_option maxHeartbeats 1000000 in
theorem find_any {B0 B1 : Nat} {L : List Str} {p : Nat} {w : World} (h : TrieAt B0 B1 w p L) (hL : Ok L) (hN : (Gs L).length ≤ 524287) (hm : L.length ≤ 1048576) (hB : B1 ≤ w.heap.size) (s : Str) (hsl : s.length ≤ 281474976710656) :
    Calls Try.prog 20 #[.pointer (some ⟨p, 0, none⟩), .string (ba s)] w fun e w' => e = .returned (ndV (ixOf L s)) ∧ Below w.heap.size w w' := by
  have HN := node_any h hL hN hB s hsl
  obtain ⟨S, hS⟩ : ∃ S, ba s = S := ⟨_, rfl⟩
  rw [hS] at HN ⊢
  clear hS
  cases hn : nodeOf L s with
  | none =>
    rw [ix_none hL hn]
    rw [hn] at HN
    have HN1 : Hid (Calls Try.prog 41 #[.pointer (some ⟨p, 0, none⟩), .string S] w fun e w' => e = .returned (.tuple #[.int .i64 0, .bool false]) ∧ Below w.heap.size w w') := Lib.hid HN
    clear HN hn h hL hN hm hB hsl
    go_enter Try.func20, Try.ntmps20
    go_wp2_with (go_at_call 41; (with_reducible refine HN1.out.mono ?_); rintro e w1 ⟨rfl, hb1⟩)
    go_ret2
    exact ⟨rfl, hb1⟩
  | some k =>
    rw [ix_node hL hn]
    rw [hn] at HN
    have HN1 : Hid (Calls Try.prog 41 #[.pointer (some ⟨p, 0, none⟩), .string S] w fun e w' => e = .returned (.tuple #[.int .i64 (k : Int), .bool true]) ∧ Below w.heap.size w w') := Lib.hid HN
    have hk := ((nodeOf_some hL).1 hn).1
    cases hs : isS L (gd L k) with
    | true =>
      have HY := Lib.hid (fun W (hW : Below w.heap.size w W) => number_yes (h.below hW hB) hL hN hm (by have := hW.size; omega) hk hs)
      rw [if_pos rfl]
      obtain ⟨f, hf⟩ : ∃ f, (gd L k).f = f := ⟨_, rfl⟩
      rw [hf] at HY ⊢
      clear HN hn h hL hN hm hB hsl hs hf hk
      go_enter Try.func20, Try.ntmps20
      go_wp2_with (first
        | (go_at_call 41; (with_reducible refine HN1.out.mono ?_); rintro e w1 ⟨rfl, hb1⟩; have HY1 := Lib.hid (HY.out _ hb1))
        | (go_at_call 42; (with_reducible refine HY1.out.mono ?_); rintro e w2 ⟨rfl, hb2⟩; have hb3 := hb1.trans (hb2.mono hb1.size)))
      go_ret2
      exact ⟨rfl, hb3⟩
    | false =>
      have HY := Lib.hid (fun W (hW : Below w.heap.size w W) => number_no (h.below hW hB) hN (by have := hW.size; omega) hk hs)
      rw [if_neg (by decide)]
      clear HN hn h hL hN hm hB hsl hs hk
      go_enter Try.func20, Try.ntmps20
      go_wp2_with (first
        | (go_at_call 41; (with_reducible refine HN1.out.mono ?_); rintro e w1 ⟨rfl, hb1⟩; have HY1 := Lib.hid (HY.out _ hb1))
        | (go_at_call 42; (with_reducible refine HY1.out.mono ?_); rintro e w2 ⟨rfl, rfl⟩))
      go_ret2
      exact ⟨rfl, hb1⟩
theorem find_nil (S : ByteArray) (w : World) :
    Calls Try.prog 20 #[.pointer none, .string S] w fun e w' => e = .returned (ndV none) ∧ Below w.heap.size w w' := by
  have HN1 : Hid (Calls Try.prog 41 #[.pointer none, .string S] w fun e w' => e = .returned (.tuple #[.int .i64 0, .bool false]) ∧ Below w.heap.size w w') := Lib.hid (node_nil S w)
  go_enter Try.func20, Try.ntmps20
  go_wp2_with (go_at_call 41; (with_reducible refine HN1.out.mono ?_); rintro e w1 ⟨rfl, hb1⟩)
  go_ret2
  exact ⟨rfl, hb1⟩

/-! ### Under -/
def i64s (ns : List Nat) : List Value := ns.map fun n : Nat => Value.int .i64 (n : Int)
theorem i64s_len (ns : List Nat) : (i64s ns).length = ns.length := by simp [i64s]
theorem i64s_append (a b : List Nat) : i64s (a ++ b) = i64s a ++ i64s b := by simp [i64s]
theorem i64s_get {ns : List Nat} {i n : Nat} (h : ns[i]? = some n) : (i64s ns)[i]? = some (.int .i64 (n : Int)) := by
  unfold i64s; rw [List.getElem?_map, h]; rfl
theorem info_int : (Try.prog.info? 3).map (fun i => (i.zero, i.size, i.bytes)) = some (some (.int .i64 0), 1, 8) := by kernel_rfl
/-- What Under leaves. -/
def UnP (ns : List Nat) (w : World) (e : Ending) (w' : World) : Prop := ∃ a c, e = .returned (.slice a ns.length c) ∧ w'.ownsRow w.heap.size 3 1 (.slice a ns.length c) ns.length (i64s ns) ∧ Below w.heap.size w w'
theorem unP_nil {w w' : World} (hb : Below w.heap.size w w') : UnP [] w (.returned (.slice none 0 0)) w' := ⟨none, 0, rfl, own_nil _ _ _ _, hb⟩

set_option maxHeartbeats 2000000 in
theorem under_any {B0 B1 : Nat} {L : List Str} {p : Nat} {w : World} (h : TrieAt B0 B1 w p L) (hL : Ok L) (hN : (Gs L).length ≤ 524287) (hm : L.length ≤ 1048576) (hB : B1 ≤ w.heap.size) (s : Str) (hsl : s.length ≤ 281474976710656) (most : Int) :
    Calls Try.prog 25 #[.pointer (some ⟨p, 0, none⟩), .string (ba s), .int .i64 most] w (UnP (underK L s most) w) := by
  have HN := node_any h hL hN hB s hsl
  obtain ⟨S, hS⟩ : ∃ S, ba s = S := ⟨_, rfl⟩
  rw [hS] at HN ⊢
  clear hS
  cases hn : nodeOf L s with
  | none =>
    rw [underK_none hL hn]
    rw [hn] at HN
    have HN1 : Hid (Calls Try.prog 41 #[.pointer (some ⟨p, 0, none⟩), .string S] w fun e w' => e = .returned (.tuple #[.int .i64 0, .bool false]) ∧ Below w.heap.size w w') := Lib.hid HN
    clear HN hn h hL hN hm hB hsl
    go_enter Try.func25, Try.ntmps25
    go_wp2_with (go_at_call 41; (with_reducible refine HN1.out.mono ?_); rintro e w1 ⟨rfl, hb1⟩; have HE := Lib.hid (unP_nil hb1))
    go_ret
    exact HE.out
  | some k =>
    have hund := underK_node hL hn most
    rw [hn] at HN
    have HN1 : Hid (Calls Try.prog 41 #[.pointer (some ⟨p, 0, none⟩), .string S] w fun e w' => e = .returned (.tuple #[.int .i64 (k : Int), .bool true]) ∧ Below w.heap.size w w') := Lib.hid HN
    have hk := ((nodeOf_some hL).1 hn).1
    have hg := node_at hL hk
    have HL := Lib.hid (fun W (hW : Below w.heap.size w W) => tlen_any (h.below hW hB) hL)
    by_cases h0 : L.length = 0
    · have htm := hg.tm
      rw [show (gd L k).t - (gd L k).f = 0 by omega, Nat.min_zero] at hund
      rw [hund, show List.range' (gd L k).f 0 = [] from rfl]
      rw [h0, show ((0 : Nat) : Int) = 0 from rfl] at HL
      clear HN hn h hL hN hm hB hsl hk hg hund h0 htm
      go_enter Try.func25, Try.ntmps25
      go_wp2_with (first
        | (go_at_call 41; (with_reducible refine HN1.out.mono ?_); rintro e w1 ⟨rfl, hb1⟩; have HE := Lib.hid (unP_nil hb1); have HL1 := Lib.hid (HL.out _ hb1))
        | (go_at_call 35; (with_reducible refine HL1.out.mono ?_); rintro e w2 ⟨rfl, rfl⟩))
      go_ret
      exact HE.out
    · have hft : (gd L k).f < (gd L k).t := by
        by_cases hz : (gd L k).n = 0
        · have h1 := (nodeOf_some hL).1 hn
          have h2 : k = 0 := by
            apply pre_inj hL hk (gs_pos hL)
            rw [pre_zero hL]
            apply List.eq_nil_of_length_eq_zero
            rw [pre_len hL hk, hz]
          rw [h2, gd_zero hL]
          show 0 < L.length
          omega
        · exact (hg.lt_len hz).1
      have htm := hg.tm
      have HF := Lib.hid (fun W (hW : Below w.heap.size w W) => first_any (h.below hW hB) hL hN hm (by have := hW.size; omega) hk hft)
      have HLA := Lib.hid (fun W (hW : Below w.heap.size w W) => last_any (h.below hW hB) hL hN hm (by have := hW.size; omega) hk hft)
      have hlz : ((L.length : Int) == 0) = false := by rw [beq_eq_false_iff_ne]; omega
      obtain ⟨m, hmm⟩ : ∃ m, L.length = m := ⟨_, rfl⟩
      rw [hmm] at HL hlz htm hm
      obtain ⟨f, hf⟩ : ∃ f, (gd L k).f = f := ⟨_, rfl⟩
      obtain ⟨t, ht⟩ : ∃ t, (gd L k).t = t := ⟨_, rfl⟩
      rw [hf] at HF hft hund
      rw [ht] at HLA hft hund htm
      rw [hund]
      obtain ⟨i0, hi, hz0, hz1, hz2⟩ := info_parts info_int
      have hn0 := own_nil w w.heap.size 3 1
      clear HN hn h hL hN hB hsl hk hg hund h0 hmm hf ht
      go_enter Try.func25, Try.ntmps25
      go_wp2_with (first
        | (go_at_call 41; (with_reducible refine HN1.out.mono ?_); rintro e w1 ⟨rfl, hb1⟩; have HL1 := Lib.hid (HL.out _ hb1); have HF1 := Lib.hid (HF.out _ hb1))
        | (go_at_call 35; (with_reducible refine HL1.out.mono ?_); rintro e w2 ⟨rfl, rfl⟩)
        | (go_at_call 44; (with_reducible refine HF1.out.mono ?_); rintro e w3 ⟨rfl, hb3⟩; have hb4 := hb1.trans (hb3.mono hb1.size); have HLA1 := Lib.hid (HLA.out _ hb4))
        | (go_at_call 45; (with_reducible refine HLA1.out.mono ?_); rintro e w5 ⟨rfl, hb5⟩; have hb6 := hb4.trans (hb5.mono hb4.size)))
      clear hb1 hb3 hb4 hb5
      go_loopw [11, 12] (fun v y wr => ∃ j : Nat, j ≤ min most.toNat (t - f) ∧ y = .int .i64 ((f + j : Nat) : Int) ∧ wr.ownsRow w.heap.size 3 1 v j (i64s (List.range' f j)) ∧ Below w.heap.size w wr) (fun _ y _ => t - (intOf y).toNat)
      case atStart => exact ⟨0, Nat.zero_le _, by simp, own_nil _ _ _ _, hb6⟩
      case round =>
        clear hb6 hn0
        obtain ⟨j, hj, rfl, hown, hb⟩ := hrel
        by_cases hlt : j < min most.toNat (t - f)
        · have h1 : ((f + j : Nat) : Int) ≤ (t : Int) - 1 := by omega
          have h2 : (j : Int) < most := by omega
          have hst : Hid (i64s (List.range' f (j + 1)) = i64s (List.range' f j) ++ [.int .i64 ((f + j : Nat) : Int)]) := Lib.hid (by rw [List.range'_concat, i64s_append, Nat.one_mul]; rfl)
          have hjm : j ≤ 1048576 := by omega
          obtain ⟨z, hz⟩ : ∃ z, f + j = z := ⟨_, rfl⟩
          have HZ := Lib.hid hz
          rw [hz] at h1 hst ⊢
          have hzm : z ≤ 1048576 := by omega
          obtain ⟨av, cv, rfl⟩ := own_is hown
          have HOWN := Lib.hid hown
          have HJ : Hid (z < t ∧ j + 1 ≤ min most.toNat (t - f)) := Lib.hid (by omega)
          clear hz hown hlt
          go_wp2_with (at_builtin; refine wpList_append_own _ rfl _ _ _ rfl w.heap.size 3 i0 (.int .i64 0) 1 8 Try.underlying44 hi hz0 hz1 hz2 rfl (by decide) _ j (i64s (List.range' f j)) rfl (HOWN.out.alloc _) ⟨_, 0, none⟩ 1 1 [.int .i64 (z : Int)] rfl rfl (cell_one_new _ _ _) ?c2 ?c3 ?c4 ?c5 ?_)
          case c2 => simp [Value.oneCell']
          case c3 => unfold maxLen; omega
          case c4 => omega
          case c5 => have := hb.size; simp; omega
          intro v' w5 hown5 hg5 _
          have hb5 := below_own (hb.alloc hb.size _) (HOWN.out.alloc _) (Nat.le_refl _) (by have := hb.size; simp; omega) hg5
          have HO5 : Hid (w5.ownsRow w.heap.size 3 1 v' (j + 1) (i64s (List.range' f (j + 1)))) := Lib.hid (by rw [hst.out]; exact hown5)
          clear hown5 hg5
          go_wp2
          go_roundw
          case rel => exact ⟨j + 1, HJ.out.2, by have := HZ.out; go_num, HO5.out, hb5⟩
          case measure => have := HZ.out; have := HJ.out.1; simp [intOf]; omega
        · have hje : min most.toNat (t - f) = j := by omega
          obtain ⟨av, cv, rfl⟩ := own_is hown
          have HP : Hid (UnP (List.range' f (min most.toNat (t - f))) w (.returned (.slice av j cv)) wr) := Lib.hid (by rw [hje]; have e := List.length_range' (s := f) (n := j) (step := 1); exact ⟨av, cv, by rw [e], by rw [e]; exact hown, hb⟩)
          by_cases h1 : f + j < t
          · have h2 : ((f + j : Nat) : Int) ≤ (t : Int) - 1 := by omega
            have h3 : ¬ (j : Int) < most := by omega
            obtain ⟨z, hz⟩ : ∃ z, f + j = z := ⟨_, rfl⟩
            rw [hz] at h2 ⊢
            clear hz h1 hje hlt hown
            go_wp2
            go_ret
            exact HP.out
          · have h2 : ¬ ((f + j : Nat) : Int) ≤ (t : Int) - 1 := by omega
            obtain ⟨z, hz⟩ : ∃ z, f + j = z := ⟨_, rfl⟩
            rw [hz] at h2 ⊢
            clear hz h1 hje hlt hown
            go_wp2
            go_ret
            exact HP.out
theorem under_nil (S : ByteArray) (most : Int) (w : World) :
    Calls Try.prog 25 #[.pointer none, .string S, .int .i64 most] w (UnP [] w) := by
  have HN1 : Hid (Calls Try.prog 41 #[.pointer none, .string S] w fun e w' => e = .returned (.tuple #[.int .i64 0, .bool false]) ∧ Below w.heap.size w w') := Lib.hid (node_nil S w)
  go_enter Try.func25, Try.ntmps25
  go_wp2_with (go_at_call 41; (with_reducible refine HN1.out.mono ?_); rintro e w1 ⟨rfl, hb1⟩; have HE := Lib.hid (unP_nil hb1))
  go_ret
  exact HE.out
end Go.Proofs.Ytffljcfpofhkgaa.Lo
