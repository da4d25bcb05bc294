/-
  Contracts of package roman's Check; the reference's Allowed.
-/
import Derived.Test.YtmbccolkgephgaaRomC
set_option linter.unusedVariables false
set_option linter.unusedSimpArgs false
set_option maxRecDepth 100000
namespace Go.Proofs.Ytmbccolkgephgaa.Rom
open Go Go.RowKit Go.Proofs.Ytmbccolkgephgaa.Kit Go.Proofs.Ytmbccolkgephgaa.Utf

theorem OwnSet.setCell {w : World} {b : Nat} {ks : List ByteArray} (h : OwnSet w b ks) {a : Addr} (ha : b ≠ a.block) (u : Value) : OwnSet (w.setCell a u) b ks := by
  obtain ⟨h1, h2, D, hD, h3, h4⟩ := h
  exact ⟨h1, h2, D, hD.setCell ha u, h3, h4⟩

theorem rallowed_any (r : Rule) (w : World) (hs : Short r) :
    Calls Try.prog 33 #[ragg r] w fun e w' => e = .returned (.bool (okR r)) ∧ Below w.heap.size w w' := by
  obtain ⟨k, o, n⟩ := r
  obtain ⟨s1, s2, s3⟩ := hs
  simp only at s1 s2 s3
  have HA := fun w => keyed_any k 4 w (by omega) (by omega) (by omega)
  have HB := fun w => keyed_any n 3 w (by omega) (by omega) (by omega)
  have HC := fun w => rkana_any o w (by omega)
  have e : okR ⟨k, o, n⟩ = (decide ((1 : Int) ≤ k.size) && (keysOK (bs k) && decide ((k.size : Int) ≤ 4)) && kanaOK (bs o) && (keysOK (bs n) && decide ((n.size : Int) ≤ 3)) && decide ((n.size : Int) < k.size) && ((!o.toList.isEmpty) || (!n.toList.isEmpty))) := by
    rw [nonempty_str, nonempty_str]
    unfold okR
    generalize keysOK (bs k) = K1
    generalize keysOK (bs n) = K2
    generalize kanaOK (bs o) = K3
    simp only
    cases K1 <;> cases K2 <;> cases K3 <;> simp
    rw [Bool.eq_iff_iff]
    simp only [Bool.and_eq_true, Bool.or_eq_true, decide_eq_true_eq, Bool.not_eq_true', decide_eq_false_iff_not]
    generalize (¬o = ByteArray.empty ∨ ¬n = ByteArray.empty) = Q
    constructor
    · rintro ⟨h1, h⟩; exact ⟨by omega, h⟩
    · rintro ⟨h1, h⟩; exact ⟨by omega, h⟩
  rw [e]
  clear e
  have HAs : (keysOK (bs k) && decide ((k.size : Int) ≤ 4)) = true → (k.size : Int) ≤ 4 := by simp
  generalize (keysOK (bs k) && decide ((k.size : Int) ≤ 4)) = A at HA HAs ⊢
  generalize (keysOK (bs n) && decide ((n.size : Int) ≤ 3)) = B at HB ⊢
  generalize kanaOK (bs o) = C at HC ⊢
  have HA := Lib.hid HA
  have HB := Lib.hid HB
  have HC := Lib.hid HC
  have HAs := Lib.hid HAs
  unfold ragg
  simp only
  by_cases h1 : (1 : Int) ≤ k.size
  rotate_left
  · rw [decide_eq_false h1, Bool.false_and, Bool.false_and, Bool.false_and, Bool.false_and, Bool.false_and]
    go_enter Try.func33, Try.ntmps33
    go_wp2
    go_ret
    exact ⟨rfl, (Below.refl _ _).alloc (Nat.le_refl _) _⟩
  rw [decide_eq_true h1, Bool.true_and]
  cases A
  · go_enter Try.func33, Try.ntmps33
    go_wp2_with (go_at_call 49; (with_reducible refine (HA.out _).mono ?_); rintro e w1 ⟨rfl, hw1⟩; obtain rfl := hw1.symm)
    go_ret
    exact ⟨rfl, (Below.refl _ _).alloc (Nat.le_refl _) _⟩
  cases C
  · go_enter Try.func33, Try.ntmps33
    go_wp2_with (first
      | (go_at_call 49; (with_reducible refine (HA.out _).mono ?_); rintro e w1 ⟨rfl, hw1⟩; obtain rfl := hw1.symm)
      | (go_at_call 50; (with_reducible refine (HC.out _).mono ?_); rintro e w2 ⟨rfl, hb2⟩))
    go_ret
    exact ⟨rfl, ((Below.refl _ _).alloc (Nat.le_refl _) _).trans (hb2.mono (by simp))⟩
  have hall : ∀ (w2 : World) (o : Obj), Below (w.alloc o).heap.size (w.alloc o) w2 → Below w.heap.size w w2 := fun w2 o hb2 => ((Below.refl _ _).alloc (Nat.le_refl _) _).trans (hb2.mono (by simp))
  have HALL := Lib.hid hall
  clear hall
  cases B
  · go_enter Try.func33, Try.ntmps33
    go_wp2_with (first
      | (go_at_call 49; first | ((with_reducible refine (HA.out _).mono ?_); rintro e w1 ⟨rfl, hw1⟩; obtain rfl := hw1.symm) | ((with_reducible refine (HB.out _).mono ?_); rintro e w1 ⟨rfl, hw1⟩; obtain rfl := hw1.symm))
      | (go_at_call 50; (with_reducible refine (HC.out _).mono ?_); rintro e w2 ⟨rfl, hb2⟩; have hc0 := hb2.cell (p := ⟨w.heap.size, 0, none⟩) (by simp); have hc1 := hb2.cell (p := ⟨w.heap.size, 1, none⟩) (by simp); have hc2 := hb2.cell (p := ⟨w.heap.size, 2, none⟩) (by simp)))
    go_ret
    exact ⟨rfl, HALL.out _ _ hb2⟩
  by_cases h2 : (n.size : Int) < k.size
  rotate_left
  · rw [decide_eq_false h2]
    go_enter Try.func33, Try.ntmps33
    go_wp2_with (first
      | (go_at_call 49; first | ((with_reducible refine (HA.out _).mono ?_); rintro e w1 ⟨rfl, hw1⟩; obtain rfl := hw1.symm) | ((with_reducible refine (HB.out _).mono ?_); rintro e w1 ⟨rfl, hw1⟩; obtain rfl := hw1.symm))
      | (go_at_call 50; (with_reducible refine (HC.out _).mono ?_); rintro e w2 ⟨rfl, hb2⟩; have hc0 := hb2.cell (p := ⟨w.heap.size, 0, none⟩) (by simp); have hc1 := hb2.cell (p := ⟨w.heap.size, 1, none⟩) (by simp); have hc2 := hb2.cell (p := ⟨w.heap.size, 2, none⟩) (by simp)))
    go_ret
    exact ⟨rfl, HALL.out _ _ hb2⟩
  rw [decide_eq_true h2]
  obtain ⟨E1, hE1⟩ : ∃ E1, o.toList.isEmpty = E1 := ⟨_, rfl⟩
  obtain ⟨E2, hE2⟩ : ∃ E2, n.toList.isEmpty = E2 := ⟨_, rfl⟩
  rw [hE1, hE2]
  cases E1 <;> cases E2
  all_goals
    go_enter Try.func33, Try.ntmps33
    go_wp2_with (first
      | (go_at_call 49; first | ((with_reducible refine (HA.out _).mono ?_); rintro e w1 ⟨rfl, hw1⟩; obtain rfl := hw1.symm) | ((with_reducible refine (HB.out _).mono ?_); rintro e w1 ⟨rfl, hw1⟩; obtain rfl := hw1.symm))
      | (go_at_call 50; (with_reducible refine (HC.out _).mono ?_); rintro e w2 ⟨rfl, hb2⟩; have hc0 := hb2.cell (p := ⟨w.heap.size, 0, none⟩) (by simp); have hc1 := hb2.cell (p := ⟨w.heap.size, 1, none⟩) (by simp); have hc2 := hb2.cell (p := ⟨w.heap.size, 2, none⟩) (by simp)))
    go_ret
    exact ⟨rfl, HALL.out _ _ hb2⟩

theorem check_any (v : Value) (rs : List Rule) (w : World) (hR : RowR w v rs) (hs : ∀ r ∈ rs, Short r) :
    Calls Try.prog 30 #[v] w fun e w' => e = .returned (.int .i64 (checkL rs)) ∧ Below w.heap.size w w' := by
  obtain ⟨a, len, cap, rfl, hlen, hcap, hmax, _⟩ := id hR
  subst hlen
  unfold checkL
  by_cases h500 : rs.length > 500
  · rw [if_pos h500]
    go_enter Try.func30, Try.ntmps30
    go_wp2
    go_ret
    exact ⟨rfl, Below.refl _ _⟩
  rw [if_neg h500]
  have hmm := @run_makeMap Try.prog
  have HR := Lib.hid hR
  have HS := Lib.hid hs
  clear hs hR
  obtain ⟨E, hE⟩ : ∃ E : Int, (if okL rs = true then 0 else 50) = E := ⟨_, rfl⟩
  rw [hE]
  have HP := Lib.hid (show okL rs = false → (50 : Int) = E from fun h => by rw [← hE, h]; rfl)
  have HP2 := Lib.hid (show okL rs = true → (0 : Int) = E from fun h => by rw [← hE, h]; rfl)
  clear hE
  go_enter Try.func30, Try.ntmps30
  go_wp2
  clear hmm
  go_loopw [12] (fun i wr => ∃ k : Nat, i = .int .i64 k ∧ k ≤ rs.length ∧ Hid (okL (rs.take k) = true) ∧ OwnSet wr w.heap.size ((rs.take k).map Rule.k) ∧ Below w.heap.size w wr) (fun i _ => rs.length - (intOf i).toNat)
  case atStart => exact ⟨0, rfl, Nat.zero_le _, Lib.hid rfl, OwnSet.made w, (Below.refl _ _).alloc (Nat.le_refl _) _⟩
  case round =>
    obtain ⟨k, rfl, hk, hok, hset, hbw⟩ := hrel
    by_cases hkl : k < rs.length
    · obtain ⟨b, off, rfl, hb, hx⟩ := (HR.out.later hbw (Nat.le_refl _)).at (by omega)
      obtain ⟨x0, x1, x2⟩ := hx k hkl
      have hsr := Lib.hid (HS.out _ (ri_mem hkl))
      have hsn := okL_snoc (rs.take k) (ri rs k)
      rw [← take_succ_ri rs k hkl, hok.out, Bool.true_and] at hsn
      have hacc : accB ((rs.take k).map Rule.k) (ri rs k) = okL (rs.take (k + 1)) := by
        rw [hsn]; unfold accB
        have : ((rs.take k).map Rule.k).length = k := by rw [List.length_map, List.length_take]; omega
        rw [this, decide_eq_true (by omega), Bool.and_true]
      have hlk : ((rs.take k).map Rule.k).length ≤ 1000000 := by rw [List.length_map, List.length_take]; omega
      have hnx : (rs.take (k + 1)).map Rule.k = (rs.take k).map Rule.k ++ [(ri rs k).k] := by rw [take_succ_ri rs k hkl, List.map_append]; rfl
      have HNX := Lib.hid hnx
      have hwb : w.heap.size < wr.heap.size := hset.lt
      clear hx hnx hsn
      generalize ri rs k = r at *
      generalize (rs.take k).map Rule.k = ks at *
      have k0 : (0 : Int) ≤ k := by omega
      have k1 : (k : Int) < rs.length := by omega
      have hs1 : ∀ o, OwnSet (wr.alloc o) w.heap.size ks := fun o => hset.alloc o
      have HS1 := Lib.hid hs1
      cases hq : okL (rs.take (k + 1))
      · rw [hq] at hacc
        have HACC := Lib.hid hacc
        have HB := Lib.hid (okL_bad hq)
        clear hq hacc hs1
        go_wp2_with (go_at_call 47; (refine (accept_no w.heap.size ks r _ hsr.out (HS1.out _) HACC.out).mono ?_); rintro e w2 ⟨rfl, hs2, hg2⟩)
        go_ret
        exact ⟨ret_int (HP.out HB.out), (hbw.alloc hbw.size _).grown hg2 (by simp; omega) (fun j hj => by cases hj; exact Nat.le_refl _)⟩
      · rw [hq] at hacc
        have HACC := Lib.hid hacc
        have HQ := Lib.hid hq
        clear hq hacc hs1
        go_wp2_with (go_at_call 47; (refine (accept_yes w.heap.size ks r _ hsr.out (HS1.out _) hlk HACC.out).mono ?_); rintro e w2 ⟨rfl, hs2, hg2⟩)
        go_roundw
        case rel => exact ⟨k + 1, by go_num, by omega, HQ, by rw [HNX.out]; exact hs2, (hbw.alloc hbw.size _).grown hg2 (by simp; omega) (fun j hj => by cases hj; exact Nat.le_refl _)⟩
        case measure => simp [intOf]; omega
    · have e1 := Lib.hid (show okL rs = true by have := hok.out; rwa [List.take_of_length_le (by omega)] at this)
      clear hok
      go_wp2
      go_ret
      exact ⟨ret_int (HP2.out e1.out), hbw⟩

end Go.Proofs.Ytmbccolkgephgaa.Rom
