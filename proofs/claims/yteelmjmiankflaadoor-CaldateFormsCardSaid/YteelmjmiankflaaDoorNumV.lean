/-
  Contracts of the reference's written, Kanji and Formal.
-/
import Derived.Test.YteelmjmiankflaaDoorNumU
set_option linter.unusedVariables false
set_option linter.unusedSimpArgs false
namespace Go.Proofs.YteelmjmiankflaaDoor.Num
open Go Go.RowKit Go.Proofs.YteelmjmiankflaaDoor.Kit Go.Proofs.YteelmjmiankflaaDoor.Utf

theorem uo_zero (h : Nat → Nat → List Int) (b : Bool) (a : Nat) (h4 : a % 4 ≠ 0) : uo h b 0 a = [] := by unfold uo; simp [h4]

theorem written_good (h D : Nat → Nat → List Int) (P U : Nat → List Int) (ones : Bool)
    (hh : ∀ d u, 1 ≤ d → d ≤ 9 → u ≤ 3 → h d u = (if 1 < d ∨ ones = true ∨ u = 0 then P d else []) ++ U u)
    (lP : ∀ d, d ≤ 9 → (encs (P d)).length ≤ 3) (lU : ∀ u, u ≤ 3 → (encs (U u)).length ≤ 3)
    (ds : List Nat) (s : ByteArray) (hd : DS ds) (hs : s = dg ds) (hnz : ds ≠ [0]) (g1 g2 : Nat) (w : World)
    (c1 : ∀ d, d < 10 → w.cell? ⟨g1, d, none⟩ = some (.string (tx (P d)))) (c2 : ∀ u, u < 4 → w.cell? ⟨g2, u, none⟩ = some (.string (tx (U u)))) (hg1 : g1 < w.heap.size) (hg2 : g2 < w.heap.size) :
    Calls Tryd.prog 47 #[.string s, .slice (some ⟨g1, 0, none⟩) 10 10, .slice (some ⟨g2, 0, none⟩) 4 4, .bool ones] w fun e w' => e = .returned (.string (tx (units h false ds))) ∧ Below w.heap.size w w' := by
  have hsz : s.size = ds.length := by rw [hs, dg_size]
  have hn20 := hd.2.1
  have HD := Lib.hid hd
  have HS := Lib.hid hs
  have ne : (s.toList == [48]) = false := by
    have := dg_head hd.2.2.1
    rw [ByteArray.toList_eq (bs := { data := #[48] })] at this
    rw [hs, show ((dg ds).toList == [48]) = _ from this]
    simpa using hnz
  have HNE := Lib.hid ne
  clear hd hs hnz ne
  have lh : ∀ d u, 1 ≤ d → d ≤ 9 → u ≤ 3 → (encs (h d u)).length ≤ 6 := fun d u h1 h9 h3 => by
    rw [hh d u h1 h9 h3, encs_append, List.length_append]
    have a1 := lP d h9
    have a2 := lU u h3
    have h0 : (encs ([] : List Int)).length = 0 := rfl
    split <;> omega
  have HH := Lib.hid hh; have HP := Lib.hid lP; have HU := Lib.hid lU; have HLH := Lib.hid lh
  have H1 := Lib.hid c1; have H2 := Lib.hid c2
  clear hh lP lU lh c1 c2
  obtain ⟨n, hn⟩ : ∃ n, ds.length = n := ⟨_, rfl⟩
  rw [hn] at hsz hn20
  have HN := Lib.hid hn; clear hn
  have HSZ := Lib.hid hsz; clear hsz
  have ne := HNE.out
  go_enter Tryd.func47, Tryd.ntmps47
  go_wp2
  clear ne
  go_loopw [9, 10, 11, 12, 13] (fun ov bv iv _ _ wr => ∃ (k : Nat) (b : Bool) (acc : List Int), iv = .int .i64 k ∧ bv = .bool b ∧ ov = .string (tx acc) ∧ k ≤ n ∧ Below w.heap.size w wr ∧ (encs acc).length ≤ 9 * k ∧ Hid (acc ++ units h b (ds.drop k) = units h false ds)) (fun _ _ iv _ _ _ => n - (intOf iv).toNat)
  case atStart => exact ⟨0, false, [], rfl, rfl, rfl, Nat.zero_le _, Below.refl _ _, by simp [encs], Lib.hid (by rw [List.drop_zero, List.nil_append])⟩
  case round =>
    obtain ⟨k, b, acc, rfl, rfl, rfl, hk, hb, hacc, heq⟩ := hrel
    by_cases hkn : k < n
    · have hp : k < s.size := by rw [HSZ.out]; exact hkn
      have hkd : k < ds.length := by rw [HN.out]; exact hkn
      have hby : (s[k]'hp).toNat = 48 + ds[k] := by
        have := HS.out
        subst this
        exact dg_byte ds k hkd HD.out.2.2.1 hp
      have hd9 : ds[k] ≤ 9 := HD.out.2.2.1 _ (List.getElem_mem hkd)
      have hcons : ds.drop k = ds[k] :: ds.drop (k + 1) := List.drop_eq_getElem_cons hkd
      have hdl : (ds.drop (k + 1)).length = n - 1 - k := by rw [List.length_drop, HN.out]; omega
      obtain ⟨d, hdd⟩ : ∃ d, ds[k] = d := ⟨_, rfl⟩
      rw [hdd] at hby hd9 hcons
      have heq2 : (acc ++ uo h b d (n - 1 - k)) ++ units h (un b d (n - 1 - k)) (ds.drop (k + 1)) = units h false ds := by
        rw [← heq.out, hcons, units_cons, hdl, List.append_assoc]
      obtain ⟨c, hc⟩ : ∃ c : Int, ((s[k]'hp).toNat : Int) = c := ⟨_, rfl⟩
      have hc1 : 48 ≤ c := by omega
      have hc2 : c ≤ 57 := by omega
      have hcd : c - 48 = (d : Int) := by omega
      have hs20 : s.size ≤ 20 := by rw [HSZ.out]; exact hn20
      obtain ⟨a, ha⟩ : ∃ a, n - 1 - k = a := ⟨_, rfl⟩
      have hya : ((s.size : Int) - 1 - (k : Int)) = (a : Int) := by rw [HSZ.out]; omega
      have ha19 : a ≤ 19 := by omega
      rw [ha] at heq2
      have HQ := Lib.hid heq2
      clear heq2 heq hcons hdl hdd hby hkd ha
      have hacc2 : (encs acc).length ≤ 200 := by omega
      have C1 : wr.cell? ⟨g1, d, none⟩ = some (.string (tx (P d))) := by rw [hb.cell (p := ⟨g1, d, none⟩) hg1]; exact H1.out d (by omega)
      have C2 : wr.cell? ⟨g2, a % 4, none⟩ = some (.string (tx (U (a % 4)))) := by rw [hb.cell (p := ⟨g2, a % 4, none⟩) hg2]; exact H2.out _ (by omega)
      have hpl := HP.out d hd9
      have hul := HU.out (a % 4) (by omega)
      have hgl := len_gu (a / 4) (by omega)
      have hi1 : (d : Int) < 10 := by omega
      have m1 : ((a : Int) % 4) < 4 := by omega
      by_cases hd0 : d = 0
      · subst hd0
        by_cases ha4 : a % 4 = 0
        · have t4 : (((a : Int) % 4) == 0) = true := by simp; omega
          cases b with
          | false =>
            have HE := Lib.hid (show acc ++ uo h false 0 a = acc by unfold uo; simp)
            have HN2 := Lib.hid (show un false 0 a = false by unfold un; rw [if_pos ha4])
            clear ha4
            go_wp2
            go_roundw
            case rel => exact ⟨k + 1, false, acc, by go_num, rfl, rfl, by omega, hb, by omega, Lib.hid (by have := HQ.out; rw [HE.out, HN2.out] at this; exact this)⟩
            case measure => simp [intOf] <;> omega
          | true =>
            obtain ⟨A1, hA1⟩ : ∃ A, acc ++ gu (a / 4) = A := ⟨_, rfl⟩
            have l1 : (encs A1).length ≤ 9 * (k + 1) := by rw [← hA1, encs_append, List.length_append]; omega
            have s1 := add_tx acc (gu (a / 4)) (by omega)
            rw [hA1] at s1
            have HE := Lib.hid (show acc ++ uo h true 0 a = A1 by rw [← hA1]; unfold uo; simp [ha4])
            have HN2 := Lib.hid (show un true 0 a = false by unfold un; rw [if_pos ha4])
            clear ha4 hA1
            go_wp2_with (go_at_call 57; refine (units_any _).mono ?_; rintro e w2 ⟨rfl, hat, hbu⟩; have cgu : w2.cell? ⟨wr.heap.size, a / 4, none⟩ = some (.string (tx (gu (a / 4)))) := hat.cell (range_get 5 _ (a / 4) (by omega)); clear hat)
            have hb2 := hb.trans (hbu.mono hb.size)
            go_roundw
            case rel => exact ⟨k + 1, false, A1, by go_num, rfl, rfl, by omega, hb2, l1, Lib.hid (by have := HQ.out; rw [HE.out, HN2.out] at this; exact this)⟩
            case measure => simp [intOf] <;> omega
        · have t4 : (((a : Int) % 4) == 0) = false := by simp; omega
          have HE := Lib.hid (show acc ++ uo h b 0 a = acc by rw [uo_zero h b a ha4, List.append_nil])
          have HN2 := Lib.hid (show un b 0 a = b by unfold un; rw [if_neg ha4]; cases b <;> rfl)
          clear ha4
          go_wp2
          go_roundw
          case rel => exact ⟨k + 1, b, acc, by go_num, rfl, rfl, by omega, hb, by omega, Lib.hid (by have := HQ.out; rw [HE.out, HN2.out] at this; exact this)⟩
          case measure => simp [intOf] <;> omega
      · have d1 : 1 ≤ d := by omega
        have dp : decide ((0 : Int) < (d : Int)) = true := by simp; omega
        have hhd := HH.out d (a % 4) d1 hd9 (by omega)
        have hcase : (1 < d ∧ decide ((1 : Int) < (d : Int)) = true) ∨ (d = 1 ∧ decide ((1 : Int) < (d : Int)) = false) := by
          by_cases e : 1 < d
          · left; exact ⟨e, by simp; omega⟩
          · right; exact ⟨by omega, by simp; omega⟩
        by_cases ha4 : a % 4 = 0
        · have t4 : (((a : Int) % 4) == 0) = true := by simp; omega
          rw [if_pos (.inr (.inr ha4))] at hhd
          have HE0 : uo h b d a = (P d ++ U (a % 4)) ++ gu (a / 4) := by unfold uo; rw [if_neg hd0, if_pos ⟨ha4, .inr hd0⟩, hhd]
          have HN2 := Lib.hid (show un b d a = false by unfold un; rw [if_pos ha4])
          obtain ⟨A1, hA1⟩ : ∃ A, acc ++ P d = A := ⟨_, rfl⟩
          obtain ⟨A2, hA2⟩ : ∃ A, A1 ++ U (a % 4) = A := ⟨_, rfl⟩
          obtain ⟨A3, hA3⟩ : ∃ A, A2 ++ gu (a / 4) = A := ⟨_, rfl⟩
          have l1 : (encs A1).length ≤ 9 * k + 3 := by rw [← hA1, encs_append, List.length_append]; omega
          have l2 : (encs A2).length ≤ 9 * k + 6 := by rw [← hA2, encs_append, List.length_append]; omega
          have l3 : (encs A3).length ≤ 9 * (k + 1) := by rw [← hA3, encs_append, List.length_append]; omega
          have s1 := add_tx acc (P d) (by omega)
          have s2 := add_tx A1 (U (a % 4)) (by omega)
          have s3 := add_tx A2 (gu (a / 4)) (by omega)
          rw [hA1] at s1
          rw [hA2] at s2
          rw [hA3] at s3
          have HE := Lib.hid (show acc ++ uo h b d a = A3 by rw [HE0, ← hA3, ← hA2, ← hA1]; simp only [List.append_assoc])
          clear HE0 hA1 hA2 hA3 hhd ha4 hd0
          rcases hcase with ⟨e, f⟩ | ⟨e, f⟩ <;> cases ones <;> clear e
          all_goals
            go_wp2_with (go_at_call 57; refine (units_any _).mono ?_; rintro e w2 ⟨rfl, hat, hbu⟩; have cgu : w2.cell? ⟨wr.heap.size, a / 4, none⟩ = some (.string (tx (gu (a / 4)))) := hat.cell (range_get 5 _ (a / 4) (by omega)); clear hat)
            have hb2 := hb.trans (hbu.mono hb.size)
            go_roundw
            case rel => exact ⟨k + 1, false, A3, by go_num, rfl, rfl, by omega, hb2, l3, Lib.hid (by have := HQ.out; rw [HE.out, HN2.out] at this; exact this)⟩
            case measure => simp [intOf] <;> omega
        · have t4 : (((a : Int) % 4) == 0) = false := by simp; omega
          have HN2 := Lib.hid (show un b d a = true by unfold un; rw [if_neg ha4]; cases b <;> simp [hd0])
          by_cases hyes : 1 < d ∨ ones = true
          · have HE0 : uo h b d a = P d ++ U (a % 4) := by
              unfold uo; rw [if_neg hd0, if_neg (fun e => ha4 e.1), List.append_nil, hhd, if_pos (by rcases hyes with e | e; exact .inl e; exact .inr (.inl e))]
            obtain ⟨A1, hA1⟩ : ∃ A, acc ++ P d = A := ⟨_, rfl⟩
            obtain ⟨A2, hA2⟩ : ∃ A, A1 ++ U (a % 4) = A := ⟨_, rfl⟩
            have l1 : (encs A1).length ≤ 9 * k + 3 := by rw [← hA1, encs_append, List.length_append]; omega
            have l2 : (encs A2).length ≤ 9 * (k + 1) := by rw [← hA2, encs_append, List.length_append]; omega
            have s1 := add_tx acc (P d) (by omega)
            have s2 := add_tx A1 (U (a % 4)) (by omega)
            rw [hA1] at s1
            rw [hA2] at s2
            have HE := Lib.hid (show acc ++ uo h b d a = A2 by rw [HE0, ← hA2, ← hA1]; simp only [List.append_assoc])
            clear HE0 hA1 hA2 hhd ha4 hd0
            rcases hcase with ⟨e, f⟩ | ⟨e, f⟩
            · clear hyes e
              go_wp2
              go_roundw
              case rel => exact ⟨k + 1, true, A2, by go_num, rfl, rfl, by omega, hb, l2, Lib.hid (by have := HQ.out; rw [HE.out, HN2.out] at this; exact this)⟩
              case measure => simp [intOf] <;> omega
            · have ho : ones = true := by rcases hyes with h | h; omega; exact h
              subst ho
              clear hyes e
              go_wp2
              go_roundw
              case rel => exact ⟨k + 1, true, A2, by go_num, rfl, rfl, by omega, hb, l2, Lib.hid (by have := HQ.out; rw [HE.out, HN2.out] at this; exact this)⟩
              case measure => simp [intOf] <;> omega
          · have ho : ones = false := by cases ones <;> simp_all
            have HE0 : uo h b d a = U (a % 4) := by
              unfold uo; rw [if_neg hd0, if_neg (fun e => ha4 e.1), List.append_nil, hhd, if_neg (by rintro (e | e | e); exact hyes (.inl e); exact hyes (.inr e); exact ha4 e)]; rfl
            obtain ⟨A2, hA2⟩ : ∃ A, acc ++ U (a % 4) = A := ⟨_, rfl⟩
            have l2 : (encs A2).length ≤ 9 * (k + 1) := by rw [← hA2, encs_append, List.length_append]; omega
            have s2 := add_tx acc (U (a % 4)) (by omega)
            rw [hA2] at s2
            have HE := Lib.hid (show acc ++ uo h b d a = A2 by rw [HE0, ← hA2])
            have f : decide ((1 : Int) < (d : Int)) = false := by rcases hcase with ⟨e, _⟩ | ⟨_, f⟩; exact absurd (.inl e) hyes; exact f
            subst ho
            clear HE0 hA2 hhd ha4 hd0 hyes hcase
            go_wp2
            go_roundw
            case rel => exact ⟨k + 1, true, A2, by go_num, rfl, rfl, by omega, hb, l2, Lib.hid (by have := HQ.out; rw [HE.out, HN2.out] at this; exact this)⟩
            case measure => simp [intOf] <;> omega
    · have hkn' : k = n := by omega
      subst hkn'
      have hfin : tx acc = tx (units h false ds) := by
        have := heq.out
        rw [List.drop_of_length_le (by rw [HN.out]; omega)] at this
        rw [← this]; show _ = tx (acc ++ []); rw [List.append_nil]
      have HF := Lib.hid hfin
      have hks : ¬ ((k : Int) < (s.size : Int)) := by rw [HSZ.out]; omega
      clear hfin heq hkn
      go_wp2
      go_ret
      exact ⟨by rw [← HF.out]; rfl, hb⟩

end Go.Proofs.YteelmjmiankflaaDoor.Num
