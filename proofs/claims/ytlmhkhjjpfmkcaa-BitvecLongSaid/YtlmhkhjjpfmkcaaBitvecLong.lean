/-
  BitvecLong returns true for both bools and every byte: a vector has at most MaxBits bits. Conditions: none.
-/
import Derived.Test.YtlmhkhjjpfmkcaaBvM
import Derived.Test.YtlmhkhjjpfmkcaaBvFr
import Derived.OpenShut
import Derived.ShutString
import Derived.ChangeOld
import Derived.HandedShaped
import Derived.LaidMore
import Derived.Lay
import Derived.SizedLaws
import Derived.Deep.DeepHandedRow
import Derived.Test.YtlmhkhjjpfmkcaaBvFr
set_option linter.unusedVariables false
set_option linter.unusedSimpArgs false
set_option maxRecDepth 100000
namespace Go.Proofs.Ytlmhkhjjpfmkcaa.bitvecLong
open Go Go.RowKit Go.ChangeShapes Go.WideShapes Go.ChangeAt Go.Proofs.Ytlmhkhjjpfmkcaa Go.Proofs.Ytlmhkhjjpfmkcaa.Kit Go.Proofs.Ytlmhkhjjpfmkcaa.Bv
open Go.ChangeMaps (open_string shut_string)
/-- Every d-th bit below i is true. -/
def mk (N d i : Nat) : List Bool := (List.range N).map fun t => decide (t % d = 0 ∧ t < i)
theorem mk_len (N d i : Nat) : (mk N d i).length = N := by simp [mk]
theorem mk_get {N d i t : Nat} (h : t < N) : (mk N d i)[t]? = some (decide (t % d = 0 ∧ t < i)) := by
  unfold mk; rw [List.getElem?_map, List.getElem?_range h]; rfl
theorem mk_bt {N d i t : Nat} (h : t < N) : bt (mk N d i) t = decide (t % d = 0 ∧ t < i) := by
  have h1 := bt_lt (l := mk N d i) (i := t) (by rw [mk_len]; exact h)
  rw [mk_get h] at h1
  exact (Option.some.inj h1).symm
theorem mk_zero (N d : Nat) : mk N d 0 = List.replicate N false := by
  apply List.ext_getElem (by simp [mk])
  intro i h1 h2
  simp [mk]
theorem mk_set {N d i : Nat} (hd : 0 < d) (h : i < N) (hi : i % d = 0) : (mk N d i).set i true = mk N d (i + d) := by
  apply List.ext_getElem?
  intro t
  rw [List.getElem?_set]
  by_cases ht : t < N
  · by_cases e : i = t
    · subst e; rw [if_pos rfl, if_pos (by rw [mk_len]; exact h), mk_get ht, decide_eq_true ⟨hi, by omega⟩]
    · rw [if_neg e, mk_get ht, mk_get ht]
      congr 1
      rw [decide_eq_decide]
      constructor
      · rintro ⟨h1, h2⟩; exact ⟨h1, by omega⟩
      · rintro ⟨h1, h2⟩
        refine ⟨h1, ?_⟩
        rcases Nat.lt_or_ge t i with h3 | h3
        · exact h3
        · exfalso
          have h4 : (t - i) % d = 0 := by
            have h5 := Nat.div_add_mod t d
            have h6 := Nat.div_add_mod i d
            rw [h1, Nat.add_zero] at h5
            rw [hi, Nat.add_zero] at h6
            have h7 : t - i = d * (t / d - i / d) := by rw [Nat.mul_sub]; omega
            rw [h7, Nat.mul_mod_right]
          rw [Nat.mod_eq_of_lt (by omega)] at h4
          omega
  · have h1 : (mk N d i)[t]? = none := List.getElem?_eq_none (by rw [mk_len]; omega)
    have h2 : (mk N d (i + d))[t]? = none := List.getElem?_eq_none (by rw [mk_len]; omega)
    rw [h1, h2, if_neg (by omega)]
theorem mk_end {N d i : Nat} (h : N ≤ i) : mk N d i = mk N d N := by
  unfold mk
  apply List.map_congr_left
  intro t ht
  have := List.mem_range.1 ht
  rw [decide_eq_decide]
  constructor
  · rintro ⟨h1, h2⟩; exact ⟨h1, this⟩
  · rintro ⟨h1, h2⟩; exact ⟨h1, by omega⟩
theorem div_up {d : Nat} (hd : 0 < d) (m : Nat) : (m + 1 + d - 1) / d = (m + d - 1) / d + if m % d = 0 then 1 else 0 := by
  have h := Nat.div_add_mod m d
  have hr := Nat.mod_lt m hd
  rw [show m + 1 + d - 1 = m + d by omega, Nat.add_div_right _ hd]
  obtain ⟨q, hq⟩ : ∃ q, m / d = q := ⟨_, rfl⟩
  obtain ⟨r, hr2⟩ : ∃ r, m % d = r := ⟨_, rfl⟩
  rw [hq, hr2] at h
  rw [hr2] at hr ⊢
  rw [hq]
  obtain ⟨p, hp⟩ : ∃ p, d * q = p := ⟨_, rfl⟩
  rw [hp] at h
  by_cases h0 : r = 0
  · rw [if_pos h0]
    have e : m + d - 1 = (d - 1) + d * q := by rw [hp]; omega
    rw [e, Nat.add_mul_div_left _ _ hd, Nat.div_eq_of_lt (by omega)]
    omega
  · rw [if_neg h0]
    have e : m + d - 1 = (r - 1) + d * (q + 1) := by rw [Nat.mul_add, hp]; omega
    rw [e, Nat.add_mul_div_left _ _ hd, Nat.div_eq_of_lt (by omega)]
    omega
theorem mk_rk {N d : Nat} (hd : 0 < d) : ∀ m, m ≤ N → rk (mk N d N) true m = (m + d - 1) / d := by
  intro m
  induction m with
  | zero => intro _; simp only [rk]; rw [Nat.zero_add, Nat.div_eq_of_lt (by omega)]
  | succ m ih =>
    intro h
    rw [rk_succ, ih (by omega), mk_bt (by omega), div_up hd]
    by_cases h0 : m % d = 0
    · rw [if_pos h0, if_pos (decide_eq_true ⟨h0, by omega⟩)]
    · rw [if_neg h0, if_neg (by rw [decide_eq_true_iff]; exact fun h => h0 h.1)]
theorem mk_facts {N d Q : Nat} (hd : 0 < d) (hN : 0 < N) (hQ : (N - 1) / d = Q) : rank (mk N d N) true (N : Int) = Q + 1 ∧ sel (mk N d N) true (Q : Int) = ((Q * d : Nat) : Int) ∧ sel (mk N d N) true ((Q : Int) + 1) = -1 := by
  have hl := mk_len N d N
  have hr : rk (mk N d N) true N = Q + 1 := by
    rw [mk_rk hd N (Nat.le_refl _), show N + d - 1 = (N - 1) + d by omega, Nat.add_div_right _ hd, hQ]
  have hq : Q * d ≤ N - 1 := by rw [← hQ]; exact Nat.div_mul_le_self _ _
  refine ⟨?_, ?_, ?_⟩
  · rw [rank_nat _ _ (by rw [hl]; exact Nat.le_refl _), hr]
  · refine sel_at (by rw [hl]; omega) ?_ ?_
    · rw [mk_bt (by omega), decide_eq_true_iff]
      exact ⟨Nat.mul_mod_left _ _, by omega⟩
    · rw [mk_rk hd _ (by omega), show Q * d + d - 1 = (d - 1) + d * Q by rw [Nat.mul_comm]; omega, Nat.add_mul_div_left _ _ hd, Nat.div_eq_of_lt (by omega)]
      omega
  · refine sel_no fun j hj h => ?_
    rw [hl] at hj
    have h1 := rk_mono (mk N d N) true (i := j + 1) (j := N) (by omega)
    rw [hr, rk_succ, if_pos h.1] at h1
    have := h.2
    omega
theorem quo_any (t : TypeId) (k d q : Nat) (hk : k < 4611686018427387904) (hd : 0 < d) (h : k / d = q) (K D : Int) (hK : K = (k : Int)) (hD : D = (d : Int)) : binOp .quo t (.int .i64 K) (.int .i64 D) = pure (.int .i64 (q : Int)) := by
  subst hK hD; exact quo_nat t k d q hk hd h
theorem mul_any (t : TypeId) (a b c : Nat) (h : a * b = c) (hc : c < 4611686018427387904) (A B : Int) (hA : A = (a : Int)) (hB : B = (b : Int)) : binOp .mul t (.int .i64 A) (.int .i64 B) = pure (.int .i64 (c : Int)) := by
  subst hA hB
  have h1 : IntKind.i64.wrap ((a : Int) * (b : Int)) = (c : Int) := by
    rw [show (a : Int) * (b : Int) = ((a * b : Nat) : Int) by simp, h, IntKind.wrap_i64]; omega
  simp [binOp, Op.intArith, h1]
/-- A set of bits as it stands in the row. -/
def mkV (N d i : Nat) : List Value := bls (mk N d i)

theorem bls_set (l : List Bool) (i : Nat) (b : Bool) : bls (l.set i b) = (bls l).set i (.bool b) := by simp [bls, List.map_set]
set_option maxHeartbeats 4000000 in
theorem walk_more (e : Nat) (he : e < 256) (w : World) :
    Calls Try.prog 10 #[.bool true, .int .u8 (e : Int)] w fun e w' => e = .returned (.bool true) ∧ Below w.heap.size w w' := by
  obtain ⟨i0, hi, hz0, hz1, hz2⟩ := info_parts info_bool
  obtain ⟨N, hN⟩ : ∃ N : Nat, N = 1048577 := ⟨_, rfl⟩
  have hNz : (1048577 : Int) = (N : Int) := by omega
  have HNZ := Lib.hid hNz
  have HN := Lib.hid hN
  have HWK := Lib.hid works_any
  have hNl : N ≤ 2000000 := by omega
  clear hN hNz
  go_enter Try.func10, Try.ntmps10
  go_wp2_with (at_make; refine wpList_make_full _ rfl _ _ _ rfl w.heap.size 4 i0 (.bool false) 1 Try.underlying22 hi hz0 hz1 _ _ _ _ N rfl rfl HNZ.out HNZ.out (by rw [hz2]; omega) (by unfold maxLen; omega) (Nat.le_refl _) ?_; intro w2 hown2 hg2)
  have hown3 : w2.ownsRow w.heap.size 4 1 (.slice (some ⟨w.heap.size, 0, none⟩) N N) N (mkV N (e + 1) 0) := by
    have h := hown2
    rw [show (Value.bool false).cells = #[Value.bool false] from rfl, toList_madeCells_one, Nat.mul_one] at h
    unfold mkV
    rw [mk_zero]
    unfold bls
    rw [List.map_replicate]
    exact h
  have hb3 : Below w.heap.size w w2 := (Below.refl _ w).grown hg2 (Nat.le_refl _) (fun j hj => by cases hj)
  obtain ⟨g, hg⟩ : ∃ g, w.heap.size = g := ⟨_, rfl⟩
  have HG := Lib.hid hg
  rw [hg] at hown3 hb3 ⊢
  clear hown2 hg2 hg
  go_loopw [7] (fun i W => ∃ z : Int, i = .int .i64 z ∧ 0 ≤ z ∧ z ≤ 1048577 + 255 ∧ Hid (z.toNat % (e + 1) = 0) ∧ W.ownsRow g 4 1 (.slice (some ⟨g, 0, none⟩) N N) N (mkV N (e + 1) z.toNat) ∧ Below g w W) (fun i _ => (2000000 - intOf i).toNat)
  case atStart => exact ⟨0, rfl, by omega, by omega, Lib.hid (by show 0 % _ = 0; exact Nat.zero_mod _), hown3, hb3⟩
  case round =>
    clear hown3 hb3
    obtain ⟨z, rfl, hz0', hz1', hdv, hown, hb⟩ := hrel
    by_cases hlt : z < 1048577
    · have hzN : z.toNat < N := by have := HN.out; omega
      obtain ⟨g', e1, _, _, hcs, hfr⟩ := own_cells hown (by omega)
      cases e1
      have hfz := hfr z.toNat
      have hold : ∃ x, wr.cell? ⟨g, z.toNat, none⟩ = some x := ⟨_, hcs z.toNat _ (List.getElem?_eq_getElem (by unfold mkV; rw [bls_len, mk_len]; exact hzN))⟩
      obtain ⟨x, hx⟩ := hold
      have hset := own_set hown hzN (.bool true)
      unfold mkV at hset
      rw [← bls_set, mk_set (by omega) hzN hdv.out] at hset
      have hz2 : (z + (e : Int) + 1).toNat = z.toNat + (e + 1) := by omega
      rw [← hz2] at hset
      have HSET : Hid ((wr.setCell ⟨g, z.toNat, none⟩ (.bool true)).ownsRow g 4 1 (.slice (some ⟨g, 0, none⟩) N N) N (mkV N (e + 1) (z + (e : Int) + 1).toNat)) := Lib.hid hset
      have HBS := Lib.hid (hb.setCell (p := ⟨g, z.toNat, none⟩) (Nat.le_refl g) (.bool true))
      have HDV : Hid ((z + (e : Int) + 1).toNat % (e + 1) = 0) := Lib.hid (by rw [hz2, Nat.add_mod_right]; exact hdv.out)
      have hzn : z < (N : Int) := by have := HNZ.out; omega
      clear hset hz2 hcs hfr hown
      go_wp2
      go_roundw
      case rel => exact ⟨z + (e : Int) + 1, by go_num, by omega, by omega, HDV, HSET.out, HBS.out⟩
      case measure => simp [intOf]; omega
    · have hNz : N ≤ z.toNat := by have := HN.out; omega
      unfold mkV at hown
      rw [mk_end hNz] at hown
      have hr := own_reads hown
      have hbw := hb
      rw [← HG.out] at hbw
      clear hown
      have HNW := Lib.hid (fun W => new_long N (some ⟨g, 0, none⟩) N W (by have := HN.out; omega) (by unfold maxLen; omega))
      clear hr
      go_wp2_with (first
        | (go_at_call 12; (with_reducible refine (HNW.out _).mono ?_); rintro e w5 ⟨rfl, rfl⟩)
        | (go_at_call 18; (with_reducible refine (HWK.out _).mono ?_); rintro e w9 ⟨rfl, hb9⟩))
      go_ret
      exact ⟨rfl, by rw [HG.out]; exact hb.trans (hb9.mono (by have := hb.size; rw [← HG.out]; exact this))⟩

set_option maxHeartbeats 4000000 in
theorem walk_less (e : Nat) (he : e < 256) (w : World) :
    Calls Try.prog 10 #[.bool false, .int .u8 (e : Int)] w fun e w' => e = .returned (.bool true) ∧ Below w.heap.size w w' := by
  obtain ⟨i0, hi, hz0, hz1, hz2⟩ := info_parts info_bool
  obtain ⟨N, hN⟩ : ∃ N : Nat, N = 1048576 := ⟨_, rfl⟩
  have hNz : (1048576 : Int) = (N : Int) := by omega
  have HNZ := Lib.hid hNz
  have HN := Lib.hid hN
  have HWK := Lib.hid works_any
  have hNl : N ≤ 2000000 := by omega
  obtain ⟨Q, hQ⟩ : ∃ Q, (N - 1) / (e + 1) = Q := ⟨_, rfl⟩
  have hfacts := mk_facts (d := e + 1) (N := N) (by omega) (by omega) hQ
  have HF := Lib.hid hfacts
  have hQl : Q ≤ 1048575 := by rw [← hQ]; exact Nat.le_trans (Nat.div_le_self _ _) (by omega)
  have hQm : Q * (e + 1) ≤ 1048575 := by rw [← hQ]; exact Nat.le_trans (Nat.div_mul_le_self _ _) (by omega)
  obtain ⟨S, hS⟩ : ∃ S, Q * (e + 1) = S := ⟨_, rfl⟩
  have hquo := quo_any 3 (N - 1) (e + 1) Q (by omega) (by omega) hQ 1048575 ((e : Int) + 1) (by omega) (by omega)
  have hmul := mul_any 3 Q (e + 1) S hS (by omega) (Q : Int) ((e : Int) + 1) rfl (by omega)
  have hlen : ((N : Int) != 1048576) = false := by rw [bne_eq_false_iff_eq]; omega
  have HS := Lib.hid hS
  clear hN hNz hfacts hQ hQm hS
  go_enter Try.func10, Try.ntmps10
  go_wp2_with (at_make; refine wpList_make_full _ rfl _ _ _ rfl w.heap.size 4 i0 (.bool false) 1 Try.underlying22 hi hz0 hz1 _ _ _ _ N rfl rfl HNZ.out HNZ.out (by rw [hz2]; omega) (by unfold maxLen; omega) (Nat.le_refl _) ?_; intro w2 hown2 hg2)
  have hown3 : w2.ownsRow w.heap.size 4 1 (.slice (some ⟨w.heap.size, 0, none⟩) N N) N (mkV N (e + 1) 0) := by
    have h := hown2
    rw [show (Value.bool false).cells = #[Value.bool false] from rfl, toList_madeCells_one, Nat.mul_one] at h
    unfold mkV
    rw [mk_zero]
    unfold bls
    rw [List.map_replicate]
    exact h
  have hb3 : Below w.heap.size w w2 := (Below.refl _ w).grown hg2 (Nat.le_refl _) (fun j hj => by cases hj)
  obtain ⟨g, hg⟩ : ∃ g, w.heap.size = g := ⟨_, rfl⟩
  have HG := Lib.hid hg
  rw [hg] at hown3 hb3 ⊢
  clear hown2 hg2 hg
  go_loopw [7] (fun i W => ∃ z : Int, i = .int .i64 z ∧ 0 ≤ z ∧ z ≤ 1048576 + 255 ∧ Hid (z.toNat % (e + 1) = 0) ∧ W.ownsRow g 4 1 (.slice (some ⟨g, 0, none⟩) N N) N (mkV N (e + 1) z.toNat) ∧ Below g w W) (fun i _ => (2000000 - intOf i).toNat)
  case atStart => exact ⟨0, rfl, by omega, by omega, Lib.hid (by show 0 % _ = 0; exact Nat.zero_mod _), hown3, hb3⟩
  case round =>
    clear hown3 hb3
    obtain ⟨z, rfl, hz0', hz1', hdv, hown, hb⟩ := hrel
    by_cases hlt : z < 1048576
    · have hzN : z.toNat < N := by have := HN.out; omega
      obtain ⟨g', e1, _, _, hcs, hfr⟩ := own_cells hown (by omega)
      cases e1
      have hfz := hfr z.toNat
      have hold : ∃ x, wr.cell? ⟨g, z.toNat, none⟩ = some x := ⟨_, hcs z.toNat _ (List.getElem?_eq_getElem (by unfold mkV; rw [bls_len, mk_len]; exact hzN))⟩
      obtain ⟨x, hx⟩ := hold
      have hset := own_set hown hzN (.bool true)
      unfold mkV at hset
      rw [← bls_set, mk_set (by omega) hzN hdv.out] at hset
      have hz2 : (z + (e : Int) + 1).toNat = z.toNat + (e + 1) := by omega
      rw [← hz2] at hset
      have HSET : Hid ((wr.setCell ⟨g, z.toNat, none⟩ (.bool true)).ownsRow g 4 1 (.slice (some ⟨g, 0, none⟩) N N) N (mkV N (e + 1) (z + (e : Int) + 1).toNat)) := Lib.hid hset
      have HBS := Lib.hid (hb.setCell (p := ⟨g, z.toNat, none⟩) (Nat.le_refl g) (.bool true))
      have HDV : Hid ((z + (e : Int) + 1).toNat % (e + 1) = 0) := Lib.hid (by rw [hz2, Nat.add_mod_right]; exact hdv.out)
      have hzn : z < (N : Int) := by have := HNZ.out; omega
      clear hset hz2 hcs hfr hown
      go_wp2
      go_roundw
      case rel => exact ⟨z + (e : Int) + 1, by go_num, by omega, by omega, HDV, HSET.out, HBS.out⟩
      case measure => simp [intOf]; omega
    · have hNz : N ≤ z.toNat := by have := HN.out; omega
      unfold mkV at hown
      rw [mk_end hNz] at hown
      have hr := own_reads hown
      have hbw := hb
      rw [← HG.out] at hbw
      clear hown
      have HNW : Hid (Calls Try.prog 12 #[.slice (some ⟨g, 0, none⟩) N N] wr (NewPost (mk N (e + 1) N) wr)) := Lib.hid (by
        have h := new_ok (mk N (e + 1) N) (some ⟨g, 0, none⟩) N wr (by rw [mk_len]; have := HN.out; omega) (by rw [mk_len]; exact hr)
        rw [mk_len] at h
        exact h)
      obtain ⟨L, hL⟩ : ∃ L, mk N (e + 1) N = L := ⟨_, rfl⟩
      have hLl : Hid (L.length = N) := Lib.hid (by rw [← hL]; exact mk_len _ _ _)
      have hLm : Hid (L.length ≤ 1048576) := Lib.hid (by rw [hLl.out]; have := HN.out; omega)
      rw [hL] at HNW HF
      have HB := Lib.hid hb
      clear hr hL hb
      go_wp2_with (first
        | (go_at_call 12; (with_reducible refine HNW.out.mono ?_); rintro e w5 ⟨p, rfl, hv, hb5⟩; have HLN := Lib.hid (len_any hv); have HR1 := Lib.hid (rank_any hv hLm.out true 1048576); have HS1 := Lib.hid (select_any hv (Nat.le_refl _) hLm.out true (Q : Int)); have HV := Lib.hid hv; have HB5 := Lib.hid (HB.out.trans (hb5.mono (by have := HB.out.size; rw [← HG.out]; exact this))); clear hv hb5; rw [hLl.out] at HLN; rw [HNZ.out, HF.out.1, show (((Q + 1 : Nat) : Int)) = (Q : Int) + 1 by omega] at HR1; rw [HF.out.2.1, HS.out] at HS1)
        | (go_at_call 14; (with_reducible refine HLN.out.mono ?_); rintro e w6 ⟨rfl, rfl⟩)
        | (go_at_call 19; rw [HNZ.out]; (with_reducible refine HR1.out.mono ?_); rintro e w6 ⟨rfl, rfl⟩)
        | (go_at_call 21; (with_reducible refine HS1.out.mono ?_); rintro e w7 ⟨rfl, hb7⟩; clear HS1; have HB7 := Lib.hid (HB5.out.trans (hb7.mono (by have := HB5.out.size; rw [← HG.out]; exact this))); have HS2 := Lib.hid (select_any (HV.out.below hb7 (Nat.le_refl _)) hb7.size hLm.out true ((Q : Int) + 1)); rw [HF.out.2.2] at HS2; clear hb7)
        | (go_at_call 21; (with_reducible refine HS2.out.mono ?_); rintro e w8 ⟨rfl, hb8⟩; have HB8 := Lib.hid (HB7.out.trans (hb8.mono (by have := HB7.out.size; rw [← HG.out]; exact this))); clear hb8)
        | (go_at_call 18; (with_reducible refine (HWK.out _).mono ?_); rintro e w9 ⟨rfl, hb9⟩))
      go_ret
      exact ⟨rfl, by rw [HG.out]; exact HB8.out.trans (hb9.mono (by have := HB8.out.size; rw [← HG.out]; exact this))⟩
theorem walk (a0 : Bool) (a1 : Int) (w : World) (w1 : (Lit.int .u8 a1).wf = true) :
    Calls Try.prog 10 #[.bool a0, .int .u8 a1] w fun e w' => e = .returned (.bool true) ∧ Below w.heap.size w w' := by
  have h2 : 0 ≤ a1 ∧ a1 < 256 := by
    simp [Lit.wf, IntKind.min, IntKind.max, IntKind.signed, IntKind.bits] at w1
    omega
  obtain ⟨e, rfl⟩ := Int.eq_ofNat_of_zero_le h2.1
  cases a0
  · exact walk_less e (by omega) w
  · exact walk_more e (by omega) w
theorem own : ownKnob Try.prog.godebug = none := by kernel_rfl
theorem laidOut : laidOutB Try.prog = true := by kernel_rfl

set_option maxRecDepth 100000 in
theorem lifted (os : Os) (started : os.Started) (H : Type) (enc : TypeId × Value → H) :
    ReturnsInHanded {} Try.checked os 10 .any (Rows.bitvecLongSpec.pre6 enc Try.prog Try.f10 Rows.bitvecLongRow.domain false) (Rows.bitvecLongSpec.post enc Try.prog Try.f10 false true false false) := by
  refine returnsInHanded_of_change_shaped (C := Try.checked) own started (by kernel_rfl) Try.func10
    (ChangeSpec.witness6 (enc := enc) (C := Try.checked) false ⟨#[], #[.bool false, .int .u8 0], []⟩ 8 (by kernel_rfl) (by kernel_rfl) (by kernel_rfl) (by kernel_rfl)) ?_
  intro W base args ds gs before hval0 hW hcnd hsz0 hsh _
  have hval : ∀ (j : Nat) t v, Try.f10.params[j]? = some t → args[j]? = some v → Value.okWide Try.prog W .any base t v := hval0
  have hW' := hW
  obtain ⟨p, q, hA0, hV, rfl, hfz, hnd⟩ := hW
  have hA : DataW.TrodAll enc Try.prog W 0 (fun _ => true) true Try.f10.params.toList args.toList ds p := hA0
  rw [Try.params10] at hA hval
  obtain ⟨v0, vs0, d0, ds0, p0, q0, hargs, rfl, rfl, h0, r0⟩ := trodAll_cons hA
  obtain ⟨v1, vs1, d1, ds1, p1, q1, rfl, rfl, rfl, h1, r1⟩ := trodAll_cons r0
  obtain ⟨rfl, rfl, rfl⟩ := trodAll_nil r1
  obtain rfl : args = #[v0, v1] := by cases args; simp_all
  obtain ⟨rfl, rfl⟩ := trodVars_none hV
  obtain ⟨a0, rfl, rfl, rfl⟩ := open_bool Try.underlying4 (hval 0 4 v0 rfl rfl) h0
  obtain ⟨a1, rfl, rfl, rfl, w1⟩ := open_int Try.underlying5 (hval 1 5 v1 rfl rfl) h1
  clear hA0 hval0
  refine (walk a0 a1 W w1).mono fun e W' ⟨he, bel⟩ => ?_
  subst he
  exact ⟨_, rfl, _, _, _, [], _, [], hW', trodAll_mk1 (shut_bool Try.underlying4 _), (trodAll_cons_mk (shut_bool Try.underlying4 a0) (trodAll_cons_mk (shut_int Try.underlying5 w1) trodAll_mk0)), rfl, bel.frame _, fun h => by cases h⟩

theorem over : Rows.bitvecLongRow.holds Try.pinned (OpenSpec.ofChange Rows.bitvecLongSpec) :=
  OpenClaim.holds_of_wide 10 Try.f10 rfl rfl rfl rfl rfl rfl rfl ⟨rfl, rfl, rfl, rfl, rfl⟩ rfl rfl rfl rfl rfl (by kernel_rfl) Try.func10 (by kernel_rfl)
    (of_decide_eq_true (by kernel_rfl)) (by unfold Func.isWrapper; first | (rw [if_pos (by decide +kernel)]; kernel_rfl) | (rw [if_neg (by decide +kernel)]; exact ⟨rfl, rfl⟩))
    (fun os started H enc _ => lifted os started H enc)

theorem proved : Rows.BitvecLongSaid := over
end Go.Proofs.Ytlmhkhjjpfmkcaa.bitvecLong
