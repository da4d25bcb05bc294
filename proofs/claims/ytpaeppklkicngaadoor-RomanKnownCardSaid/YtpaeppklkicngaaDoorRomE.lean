/-
  Contracts of the laws' Given, Taken, Few; the reference's Same; the laws' same.
-/
import Derived.Test.YtpaeppklkicngaaDoorRomEq
import Derived.Deep.RegionHeld3
import Derived.Deep.AppendLies
import Derived.Deep.DrawnRows
set_option linter.unusedVariables false
set_option linter.unusedSimpArgs false
set_option maxRecDepth 100000
namespace Go.Proofs.YtpaeppklkicngaaDoor.Rom
open Go Go.RowKit Go.Proofs.YtpaeppklkicngaaDoor.Kit Go.Proofs.YtpaeppklkicngaaDoor.Utf

theorem info_rule : (Tryd.prog.info? 40).map (fun i => (i.zero, i.size, i.bytes)) = some (some (.agg #[.string { data := #[] }, .string { data := #[] }, .string { data := #[] }]), 3, 48) := by kernel_rfl
theorem info_rrule : (Tryd.prog.info? 43).map (fun i => (i.zero, i.size, i.bytes)) = some (some (.agg #[.string { data := #[] }, .string { data := #[] }, .string { data := #[] }]), 3, 48) := by kernel_rfl

theorem rc_snoc (rs : List Rule) (r : Rule) : rc (rs ++ [r]) = rc rs ++ [.string r.k, .string r.o, .string r.n] := by rw [rc_append]; rfl
theorem len_take {rs : List Rule} {k : Nat} (h : k ≤ rs.length) : (rs.take k).length = k := by rw [List.length_take]; omega

set_option maxHeartbeats 3200000 in
theorem taken_any (v : Value) (rs : List Rule) (w : World) (hR : RowR w v rs) (hn : rs.length ≤ 1000000) :
    Calls Tryd.prog 27 #[v] w fun e w' => ∃ v', e = .returned v' ∧ w'.ownsRow w.heap.size 43 3 v' rs.length (rc rs) ∧ Below w.heap.size w w' := by
  obtain ⟨i0, hi0, hz0, hz1, hz2⟩ := info_parts info_rrule
  obtain ⟨a, len, cap, rfl, hlen, hcap, hmax, _⟩ := id hR
  subst hlen
  have HR := Lib.hid hR
  clear hR
  go_enter Tryd.func27, Tryd.ntmps27
  go_wp2
  go_loopw [4, 3] (fun i out wr => ∃ k : Nat, i = .int .i64 k ∧ k ≤ rs.length ∧ wr.ownsRow w.heap.size 43 3 out k (rc (rs.take k)) ∧ Below w.heap.size w wr) (fun i _ _ => rs.length - (intOf i).toNat)
  case atStart => exact ⟨0, rfl, Nat.zero_le _, World.ownsRow_nil _ _ _ _, Below.refl _ _⟩
  case round =>
    obtain ⟨k, rfl, hk, hown, hbw⟩ := hrel
    by_cases hkl : k < rs.length
    · obtain ⟨b, off, rfl, hb, hx⟩ := HR.out.at (by omega)
      obtain ⟨x0, x1, x2⟩ := hx k hkl
      rw [← hbw.cell (p := ⟨b, _, none⟩) hb] at x0 x1 x2
      have hsn := Lib.hid (rc_snoc (rs.take k) (ri rs k))
      have hts := Lib.hid (take_succ_ri rs k hkl)
      have hxl : (rc (rs.take k)).length = k * 3 := by rw [rc_len, len_take hk]
      generalize ri rs k = r at x0 x1 x2 hsn hts
      obtain ⟨rk, ro, rn⟩ := r
      simp only at x0 x1 x2
      have k0 : (0 : Int) ≤ k := by omega
      have k1 : (k : Int) < rs.length := by omega
      generalize rc (rs.take k) = xs at hown hsn hxl
      clear hx
      have hne : ∀ o : Value, wr.ownsRow w.heap.size 43 3 o k xs → o.ownBlock ≠ some b := by
        intro o ho e1
        rcases ho.2 with ⟨rfl, h0⟩ | ⟨g, c, cur, rfl, hbg, _⟩
        · simp [Value.ownBlock] at e1
        · simp [Value.ownBlock] at e1; omega
      have HNE := Lib.hid (hne _ hown)
      clear hne
      have hws := hbw.size
      go_wp2
      go_region_held3 (fun w' => w'.cell? ⟨b, off + k * 3, none⟩ = some (.string rk) ∧ w'.cell? ⟨b, off + k * 3 + 1, none⟩ = some (.string ro) ∧ w'.cell? ⟨b, off + k * 3 + 2, none⟩ = some (.string rn))
        (first
          | go_keep
          | (go_split_ands
             refine ⟨?_, ?_, ?_⟩
             · (rw [hgrow.cell_far _ (by simp; omega) (Ne.symm HNE.out)]; simp [*])
             · (rw [hgrow.cell_far _ (by simp; omega) (Ne.symm HNE.out)]; simp [*])
             · (rw [hgrow.cell_far _ (by simp; omega) (Ne.symm HNE.out)]; simp [*])))
        ((refine step_append_lies _ (by rfl) _ _ _ (by rfl) w.heap.size 43 i0 _ 3 48 Tryd.underlying26 hi0 hz0 hz1 hz2 rfl (by omega) _ k xs (by rfl) ((hown.alloc _).drew)
            ⟨wr.heap.size, 0, none⟩ 1 1 [.string rk, .string ro, .string rn] (by rfl) (by rfl) (World.news_of_block (cs := #[.string rk, .string ro, .string rn]) (t := 43) (fr := (0, 0)) (heap_alloc_new wr _)) (by simp [Value.oneCell'])
            (by omega) (by unfold maxLen; omega) (by omega) (by simp; omega) (wr.heap.size + 1) (by simp) ?_; intro gg cap1 w1 hown1 hgrow hat hlt))
      all_goals go_wp2
      all_goals exact ⟨⟨k + 1, by go_num, by omega, by rw [hts.out, hsn.out]; exact hown1, ((hbw.alloc hws _).drew).grown hgrow (by simp; omega) (fun j hj => (hown.lt j hj).1)⟩, by simp [intOf]; omega⟩
    · have e1 : k = rs.length := by omega
      subst e1
      rw [List.take_length] at hown
      go_wp2
      go_ret
      exact ⟨_, rfl, hown, hbw⟩

set_option maxHeartbeats 3200000 in
theorem given_any (v : Value) (rs : List Rule) (w : World) (hR : RowR w v rs) (hn : rs.length ≤ 1000000) :
    Calls Tryd.prog 16 #[v] w fun e w' => ∃ v', e = .returned v' ∧ w'.ownsRow w.heap.size 40 3 v' rs.length (rc rs) ∧ Below w.heap.size w w' := by
  obtain ⟨i0, hi0, hz0, hz1, hz2⟩ := info_parts info_rule
  obtain ⟨a, len, cap, rfl, hlen, hcap, hmax, _⟩ := id hR
  subst hlen
  have HR := Lib.hid hR
  clear hR
  go_enter Tryd.func16, Tryd.ntmps16
  go_wp2
  go_loopw [4, 3] (fun i out wr => ∃ k : Nat, i = .int .i64 k ∧ k ≤ rs.length ∧ wr.ownsRow w.heap.size 40 3 out k (rc (rs.take k)) ∧ Below w.heap.size w wr) (fun i _ _ => rs.length - (intOf i).toNat)
  case atStart => exact ⟨0, rfl, Nat.zero_le _, World.ownsRow_nil _ _ _ _, Below.refl _ _⟩
  case round =>
    obtain ⟨k, rfl, hk, hown, hbw⟩ := hrel
    by_cases hkl : k < rs.length
    · obtain ⟨b, off, rfl, hb, hx⟩ := HR.out.at (by omega)
      obtain ⟨x0, x1, x2⟩ := hx k hkl
      rw [← hbw.cell (p := ⟨b, _, none⟩) hb] at x0 x1 x2
      have hsn := Lib.hid (rc_snoc (rs.take k) (ri rs k))
      have hts := Lib.hid (take_succ_ri rs k hkl)
      have hxl : (rc (rs.take k)).length = k * 3 := by rw [rc_len, len_take hk]
      generalize ri rs k = r at x0 x1 x2 hsn hts
      obtain ⟨rk, ro, rn⟩ := r
      simp only at x0 x1 x2
      have k0 : (0 : Int) ≤ k := by omega
      have k1 : (k : Int) < rs.length := by omega
      generalize rc (rs.take k) = xs at hown hsn hxl
      clear hx
      have hne : ∀ o : Value, wr.ownsRow w.heap.size 40 3 o k xs → o.ownBlock ≠ some b := by
        intro o ho e1
        rcases ho.2 with ⟨rfl, h0⟩ | ⟨g, c, cur, rfl, hbg, _⟩
        · simp [Value.ownBlock] at e1
        · simp [Value.ownBlock] at e1; omega
      have HNE := Lib.hid (hne _ hown)
      clear hne
      have hws := hbw.size
      go_wp2
      go_region_held3 (fun w' => w'.cell? ⟨b, off + k * 3, none⟩ = some (.string rk) ∧ w'.cell? ⟨b, off + k * 3 + 1, none⟩ = some (.string ro) ∧ w'.cell? ⟨b, off + k * 3 + 2, none⟩ = some (.string rn))
        (first
          | go_keep
          | (go_split_ands
             refine ⟨?_, ?_, ?_⟩
             · (rw [hgrow.cell_far _ (by simp; omega) (Ne.symm HNE.out)]; simp [*])
             · (rw [hgrow.cell_far _ (by simp; omega) (Ne.symm HNE.out)]; simp [*])
             · (rw [hgrow.cell_far _ (by simp; omega) (Ne.symm HNE.out)]; simp [*])))
        ((refine step_append_lies _ (by rfl) _ _ _ (by rfl) w.heap.size 40 i0 _ 3 48 Tryd.underlying22 hi0 hz0 hz1 hz2 rfl (by omega) _ k xs (by rfl) ((hown.alloc _).drew)
            ⟨wr.heap.size, 0, none⟩ 1 1 [.string rk, .string ro, .string rn] (by rfl) (by rfl) (World.news_of_block (cs := #[.string rk, .string ro, .string rn]) (t := 40) (fr := (0, 0)) (heap_alloc_new wr _)) (by simp [Value.oneCell'])
            (by omega) (by unfold maxLen; omega) (by omega) (by simp; omega) (wr.heap.size + 1) (by simp) ?_; intro gg cap1 w1 hown1 hgrow hat hlt))
      all_goals go_wp2
      all_goals exact ⟨⟨k + 1, by go_num, by omega, by rw [hts.out, hsn.out]; exact hown1, ((hbw.alloc hws _).drew).grown hgrow (by simp; omega) (fun j hj => (hown.lt j hj).1)⟩, by simp [intOf]; omega⟩
    · have e1 : k = rs.length := by omega
      subst e1
      rw [List.take_length] at hown
      go_wp2
      go_ret
      exact ⟨_, rfl, hown, hbw⟩

theorem below_dr {B : Nat} {w w' : World} (h : Below B w w') (n : Nat) : Below B w (w'.drewN n) := h.trans ⟨rfl, rfl, rfl, Nat.le_refl _, fun _ _ => rfl⟩
/-- What Few tells. -/
def FewPost (rs : List Rule) (w : World) (e : Ending) (w' : World) : Prop := ∃ x, e = .returned (.bool x) ∧ w' = w ∧ (x = true → rs.length ≤ 200 ∧ ∀ r ∈ rs, r.k.size ≤ 100 ∧ r.o.size ≤ 100 ∧ r.n.size ≤ 100)
theorem few_any (v : Value) (rs : List Rule) (w : World) (hR : RowR w v rs) :
    Calls Tryd.prog 15 #[v] w (FewPost rs w) := by
  obtain ⟨a, len, cap, rfl, hlen, hcap, hmax, _⟩ := id hR
  subst hlen
  have HR := Lib.hid hR
  have hmx : rs.length ≤ maxLen := by omega
  unfold maxLen at hmx
  clear hR hmax
  go_enter Tryd.func15, Tryd.ntmps15
  go_wp2
  go_loopw [3] (fun i wr => ∃ k : Nat, i = .int .i64 k ∧ k ≤ rs.length ∧ k ≤ 200 ∧ Hid (∀ j, j < k → (ri rs j).k.size ≤ 100 ∧ (ri rs j).o.size ≤ 100 ∧ (ri rs j).n.size ≤ 100) ∧ wr = w) (fun i _ => 200 - (intOf i).toNat)
  case atStart => exact ⟨0, rfl, Nat.zero_le _, by omega, Lib.hid (fun j hj => by omega), rfl⟩
  case round =>
    obtain ⟨k, rfl, hk, hk2, hall, rfl⟩ := hrel
    by_cases hkl : k < rs.length
    · by_cases hk200 : k < 200
      · obtain ⟨b, off, rfl, hb, hx⟩ := HR.out.at (by omega)
        obtain ⟨x0, x1, x2⟩ := hx k hkl
        have HA := Lib.hid (show (ri rs k).k.size ≤ 100 → (ri rs k).o.size ≤ 100 → (ri rs k).n.size ≤ 100 → ∀ j, j < k + 1 → (ri rs j).k.size ≤ 100 ∧ (ri rs j).o.size ≤ 100 ∧ (ri rs j).n.size ≤ 100 from fun h1 h2 h3 j hj => by
          rcases Nat.lt_or_ge j k with h | h
          · exact hall.out j h
          · rw [show j = k by omega]; exact ⟨h1, h2, h3⟩)
        clear hx
        generalize ri rs k = r at x0 x1 x2 HA
        have k0 : (0 : Int) ≤ k := by omega
        have k1 : (k : Int) < rs.length := by omega
        by_cases h1 : r.k.size ≤ 100
        · by_cases h2 : r.o.size ≤ 100
          · by_cases h3 : r.n.size ≤ 100
            · have HA2 := Lib.hid (HA.out h1 h2 h3)
              go_wp2
              go_roundw
              case rel => exact ⟨k + 1, by go_num, by omega, by omega, HA2, trivial⟩
              case measure => simp [intOf]; omega
            · go_wp2
              go_ret
              exact ⟨false, rfl, rfl, fun h => by cases h⟩
          · go_wp2
            go_ret
            exact ⟨false, rfl, rfl, fun h => by cases h⟩
        · go_wp2
          go_ret
          exact ⟨false, rfl, rfl, fun h => by cases h⟩
      · have hpost : ∀ x, x = decide ((rs.length : Int) ≤ 200) → (x = true → rs.length ≤ 200 ∧ ∀ r ∈ rs, r.k.size ≤ 100 ∧ r.o.size ≤ 100 ∧ r.n.size ≤ 100) := by
          rintro x rfl h
          rw [decide_eq_true_eq] at h
          refine ⟨by omega, fun r hr => ?_⟩
          omega
        have HP := Lib.hid hpost
        clear hpost
        go_wp2
        go_ret
        exact ⟨_, rfl, rfl, HP.out _ (by simp)⟩
    · have hpost : ∀ x, x = decide ((rs.length : Int) ≤ 200) → (x = true → rs.length ≤ 200 ∧ ∀ r ∈ rs, r.k.size ≤ 100 ∧ r.o.size ≤ 100 ∧ r.n.size ≤ 100) := by
        rintro x rfl h
        rw [decide_eq_true_eq] at h
        refine ⟨by omega, fun r hr => ?_⟩
        obtain ⟨j, hj, rfl⟩ := List.getElem_of_mem hr
        have := hall.out j (by omega)
        unfold ri at this
        rw [List.getD_eq_getElem?_getD, List.getElem?_eq_getElem hj] at this
        exact this
      have HP := Lib.hid hpost
      clear hpost
      go_wp2
      go_ret
      exact ⟨_, rfl, rfl, HP.out _ (by simp)⟩

theorem rsame_any (v1 v2 : Value) (ra rb : List Rule) (w : World) (hA : RowR w v1 ra) (hC : RowR w v2 rb) :
    Calls Tryd.prog 38 #[v1, v2] w fun e w' => e = .returned (.bool (decide (ra = rb))) ∧ Below w.heap.size w w' := by
  obtain ⟨a, len, cap, rfl, hlen, hcap, hmax, _⟩ := id hA
  obtain ⟨a2, len2, cap2, rfl, hlen2, hcap2, hmax2, _⟩ := id hC
  subst hlen hlen2
  have HA := Lib.hid hA
  have HC := Lib.hid hC
  have hmx : ra.length ≤ maxLen := by omega
  have hmx2 : rb.length ≤ maxLen := by omega
  unfold maxLen at hmx hmx2
  clear hA hC hmax hmax2
  by_cases hne : ra.length = rb.length
  rotate_left
  · rw [decide_eq_false (fun e => hne (by rw [e]))]
    have hne2 : (((ra.length : Nat) : Int) != ((rb.length : Nat) : Int)) = true := by simp; omega
    go_enter Tryd.func38, Tryd.ntmps38
    go_wp2
    go_ret
    exact ⟨rfl, Below.refl _ _⟩
  obtain ⟨n, hn⟩ : ∃ n, ra.length = n := ⟨_, rfl⟩
  rw [← hne, hn]
  rw [hn] at hmx hcap
  rw [← hne, hn] at hcap2
  have HN := Lib.hid (show ra.length = n ∧ rb.length = n from ⟨hn, by omega⟩)
  clear hn hne hmx2
  obtain ⟨E, hE⟩ : ∃ E : Bool, decide (ra = rb) = E := ⟨_, rfl⟩
  rw [hE]
  have HP := Lib.hid (show ra ≠ rb → false = E from fun h => by rw [← hE, decide_eq_false h])
  have HP2 := Lib.hid (show ra = rb → true = E from fun h => by rw [← hE, decide_eq_true h])
  clear hE
  go_enter Tryd.func38, Tryd.ntmps38
  go_wp2
  go_loopw [5] (fun i wr => ∃ k : Nat, i = .int .i64 k ∧ k ≤ n ∧ Hid (ra.take k = rb.take k) ∧ Below w.heap.size w wr) (fun i _ => n - (intOf i).toNat)
  case atStart => exact ⟨0, rfl, Nat.zero_le _, Lib.hid rfl, Below.refl _ _⟩
  case round =>
    obtain ⟨k, rfl, hk, heq, hbw⟩ := hrel
    by_cases hkl : k < n
    · obtain ⟨b, off, rfl, hb, hx⟩ := HA.out.at (by have := HN.out; omega)
      obtain ⟨x0, x1, x2⟩ := hx k (by have := HN.out; omega)
      obtain ⟨b2, off2, rfl, hb2, hy⟩ := HC.out.at (by have := HN.out; omega)
      obtain ⟨y0, y1, y2⟩ := hy k (by have := HN.out; omega)
      rw [← hbw.cell (p := ⟨b, _, none⟩) hb] at x0 x1 x2
      rw [← hbw.cell (p := ⟨b2, _, none⟩) hb2] at y0 y1 y2
      clear hx hy
      have H1 := Lib.hid (take_succ_ri ra k (by have := HN.out; omega))
      have H2 := Lib.hid (take_succ_ri rb k (by have := HN.out; omega))
      generalize ri ra k = r at x0 x1 x2 H1
      generalize ri rb k = s at y0 y1 y2 H2
      have heqn := fun W => eq_rrule r s W
      have hgd := guard_rrule
      have k0 : (0 : Int) ≤ k := by omega
      have k1 : (k : Int) < n := by omega
      by_cases hq : r = s
      · have H3 := Lib.hid (show ra.take (k + 1) = rb.take (k + 1) by rw [H1.out, H2.out, heq.out, hq])
        rw [decide_eq_true hq] at heqn
        clear hq
        go_wp2
        go_quiet (fail)
        have hb4 := below_dr hbw nq
        go_wp2
        go_roundw
        case rel => exact ⟨k + 1, by go_num, by omega, H3, hb4⟩
        case measure => simp [intOf]; omega
      · have H3 := Lib.hid (show ra ≠ rb from fun e => by
          have h1 := H1.out; have h2 := H2.out
          rw [e, h2, ← e, heq.out] at h1
          have h3 := List.append_cancel_left h1
          simp at h3
          exact hq h3.symm)
        rw [decide_eq_false hq] at heqn
        clear hq
        go_wp2
        go_quiet (fail)
        have hb4 := below_dr hbw nq
        go_wp2
        go_ret
        exact ⟨ret_bool (HP.out H3.out), hb4⟩
    · have H3 := Lib.hid (show ra = rb by have h := heq.out; have := HN.out; rwa [List.take_of_length_le (by omega), List.take_of_length_le (by omega)] at h)
      go_wp2
      go_ret
      exact ⟨ret_bool (HP2.out H3.out), hbw⟩

/-- The laws' same: rules of the program against those of the document. -/
theorem same_any (v1 v2 : Value) (ra rb : List Rule) (w : World) (hA : RowR w v1 ra) (hB : RowR w v2 rb) (hn : ra.length ≤ 1000000) :
    Calls Tryd.prog 13 #[v1, v2] w fun e w' => e = .returned (.bool (decide (ra = rb))) ∧ Below w.heap.size w w' := by
  have HA := Lib.hid hA
  have HB := Lib.hid hB
  clear hA hB
  go_enter Tryd.func13, Tryd.ntmps13
  go_wp2_with (first
    | (go_at_call 27; (refine (taken_any _ ra _ HA.out hn).mono ?_); rintro e w1 ⟨v', rfl, hown, hb1⟩)
    | (go_at_call 38; (refine (rsame_any _ _ ra rb _ (row_of_own hown).1 (HB.out.later hb1 (Nat.le_refl _))).mono ?_); rintro e w2 ⟨rfl, hb2⟩))
  go_ret
  exact ⟨rfl, hb1.trans (hb2.mono hb1.size)⟩

end Go.Proofs.YtpaeppklkicngaaDoor.Rom
