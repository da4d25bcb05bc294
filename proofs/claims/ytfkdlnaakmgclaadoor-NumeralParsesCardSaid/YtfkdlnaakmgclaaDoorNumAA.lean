/-
  Contract of the reference's narrow.
-/
import Derived.Test.YtfkdlnaakmgclaaDoorNumW
import Derived.Test.YtfkdlnaakmgclaaDoorNumX
import Derived.Test.YtfkdlnaakmgclaaDoorNumL
set_option linter.unusedVariables false
set_option linter.unusedSimpArgs false
namespace Go.Proofs.YtfkdlnaakmgclaaDoor.Num
open Go Go.RowKit Go.Proofs.YtfkdlnaakmgclaaDoor.Kit Go.Proofs.YtfkdlnaakmgclaaDoor.Utf

theorem drop_ofNat {s : ByteArray} {p n : Nat} (hp : p < s.size) (h : (s[p]'hp).toNat = n) : (bs s).drop p = UInt8.ofNat n :: (bs s).drop (p + 1) := by
  have e := bs_get hp
  rw [List.getElem?_eq_getElem (by rw [bs_len]; exact hp)] at e
  rw [List.drop_eq_getElem_cons (by rw [bs_len]; exact hp), Option.some.inj e, ← h, UInt8.ofNat_toNat]
theorem dec_asc {s : ByteArray} {p d : Nat} (hp : p < s.size) (h : (s[p]'hp).toNat = 48 + d) (hd : d ≤ 9) : dec1 ((bs s).drop p) = some (48 + (d : Int), 1) := by
  rw [drop_ofNat hp h]
  have := dec1_enc (48 + (d : Int)) ((valid_iff _).2 (by omega)) ((bs s).drop (p + 1))
  rw [dg_enc d hd] at this
  exact this
theorem enc_wide (d : Nat) (h : d ≤ 9) : enc (65296 + (d : Int)) = [239, 188, UInt8.ofNat (144 + d)] := by
  have : ∀ d : Nat, d ≤ 9 → enc (65296 + (d : Int)) = [239, 188, UInt8.ofNat (144 + d)] := by decide
  exact this d h
theorem dec_wide {s : ByteArray} {p d : Nat} (h3 : p + 3 ≤ s.size) (h0 : (s[p]'(by omega)).toNat = 239) (h1 : (s[p + 1]'(by omega)).toNat = 188) (h2 : (s[p + 2]'(by omega)).toNat = 144 + d) (hd : d ≤ 9) : dec1 ((bs s).drop p) = some (65296 + (d : Int), 3) := by
  rw [drop_ofNat _ h0, drop_ofNat _ h1, drop_ofNat _ h2]
  have := dec1_enc (65296 + (d : Int)) ((valid_iff _).2 (by omega)) ((bs s).drop (p + 2 + 1))
  rw [enc_wide d hd] at this
  exact this
theorem narrow_bad {s : ByteArray} {p : Nat} {pre : List Int} (hp : p < s.size) (hch : chars (bs s) = (chars ((bs s).drop p)).map (pre ++ ·)) (hA : ¬ (48 ≤ (s[p]'hp).toNat ∧ (s[p]'hp).toNat ≤ 57))
    (hB : ∀ h3 : p + 3 ≤ s.size, ¬ ((s[p]'hp).toNat = 239 ∧ (s[p + 1]'(by omega)).toNat = 188 ∧ 144 ≤ (s[p + 2]'(by omega)).toNat ∧ (s[p + 2]'(by omega)).toNat ≤ 153)) : rdOut readW s = { data := #[] } := by
  refine rdOut_bad fun cs hcs => ?_
  rw [hch] at hcs
  cases ht : chars ((bs s).drop p) with
  | none => rw [ht] at hcs; cases hcs
  | some t =>
    rw [ht] at hcs
    obtain rfl : pre ++ t = cs := Option.some.inj hcs
    obtain ⟨hv, hl⟩ := chars_some ht
    cases t with
    | nil => exact absurd hl (drop_ne hp)
    | cons x t =>
      have hat : ∀ k, (bs s)[p + k]? = (encs (x :: t))[k]? := fun k => by rw [← hl, List.getElem?_drop]
      refine readW_none t ?_
      unfold wd
      rw [if_neg, if_neg]
      · rintro ⟨x1, x2⟩
        obtain ⟨d, rfl⟩ : ∃ d : Nat, x = 65296 + (d : Int) := ⟨(x - 65296).toNat, by omega⟩
        have hd : d ≤ 9 := by omega
        rw [encs_cons, enc_wide d hd] at hl hat
        have hlen := congrArg List.length hl
        rw [List.length_drop, bs_len] at hlen
        simp only [List.length_append, List.length_cons] at hlen
        have h3 : p + 3 ≤ s.size := by omega
        have e0 := hat 0
        have e1 := hat 1
        have e2 := hat 2
        rw [bs_get (show p + 0 < s.size by omega)] at e0
        rw [bs_get (show p + 1 < s.size by omega)] at e1
        rw [bs_get (show p + 2 < s.size by omega)] at e2
        have e0' : s[p]'hp = 239 := Option.some.inj e0
        have e1' : s[p + 1]'(by omega) = 188 := Option.some.inj e1
        have e2' : s[p + 2]'(by omega) = UInt8.ofNat (144 + d) := Option.some.inj e2
        refine hB h3 ⟨by rw [e0']; rfl, by rw [e1']; rfl, ?_, ?_⟩
        · rw [e2', toNat_ofNat _ (by omega)]; omega
        · rw [e2', toNat_ofNat _ (by omega)]; omega
      · rintro ⟨x1, x2⟩
        obtain ⟨d, rfl⟩ : ∃ d : Nat, x = 48 + (d : Int) := ⟨(x - 48).toNat, by omega⟩
        have hd : d ≤ 9 := by omega
        rw [encs_cons, dg_enc d hd] at hat
        have e0 := hat 0
        rw [bs_get (show p + 0 < s.size by omega)] at e0
        have e0' : s[p]'hp = UInt8.ofNat (48 + d) := Option.some.inj e0
        refine hA ⟨?_, ?_⟩
        · rw [e0', toNat_ofNat _ (by omega)]; omega
        · rw [e0', toNat_ofNat _ (by omega)]; omega
theorem cut_one {s : ByteArray} {p d : Nat} (hp : p < s.size) (h : (s[p]'hp).toNat = 48 + d) : s.extract p (p + 1) = dg [d] := by
  apply ba_ext
  rw [Lib.extract_data]
  show ((bs s).drop p).take (p + 1 - p) = bs (dg [d])
  rw [drop_ofNat hp h, show p + 1 - p = 1 by omega, bs_dg]; rfl
theorem readW_le : ∀ {cs : List Int} {ds : List Nat}, readW cs = some ds → ∀ d ∈ ds, d ≤ 9 := by
  intro cs
  induction cs with
  | nil => intro ds h d hd; obtain rfl : [] = ds := Option.some.inj h; simp at hd
  | cons c cs ih =>
    intro ds h d hd
    simp only [readW] at h
    cases ha : wd c with
    | none => rw [ha] at h; cases h
    | some x =>
      rw [ha] at h
      simp only at h
      cases hp : readW cs with
      | none => rw [hp] at h; cases h
      | some y =>
        rw [hp] at h
        obtain rfl : x :: y = ds := Option.some.inj h
        rcases List.mem_cons.1 hd with rfl | hd
        · exact wd_le ha
        · exact ih hp d hd

set_option maxHeartbeats 1000000 in
theorem rnarrow_any (s : ByteArray) (w : World) (hs : s.size ≤ 140737488355000) :
    Calls Tryd.prog 48 #[.string s] w fun e w' => e = .returned (.tuple #[.string (rdOut readW s), .bool (isDec (rdOut readW s))]) ∧ w = w' := by
  go_enter Tryd.func48, Tryd.ntmps48
  go_wp2
  go_loopw [4, 5] (fun ov iv wr => ∃ (p : Nat) (pre : List Int) (ds : List Nat), iv = .int .i64 p ∧ ov = Value.string (dg ds) ∧ p ≤ s.size ∧ pre.length ≤ p ∧ Hid (readW pre = some ds) ∧ Hid (chars (bs s) = (chars ((bs s).drop p)).map (pre ++ ·)) ∧ wr = w) (fun _ iv _ => s.size - (intOf iv).toNat)
  case atStart => exact ⟨0, [], [], rfl, rfl, Nat.zero_le _, Nat.le_refl _, Lib.hid rfl, Lib.hid (by rw [List.drop_zero]; exact map_nil _), rfl⟩
  case round =>
    obtain ⟨p, pre, ds, rfl, rfl, hps, hpl, hre, hch, rfl⟩ := hrel
    have hdl := readW_len hre.out
    by_cases hp : p < s.size
    · obtain ⟨c, hc⟩ : ∃ c : Nat, (s[p]'hp).toNat = c := ⟨_, rfl⟩
      have hci : ((s[p]'hp).toNat : Int) = (c : Int) := by rw [hc]
      have hx0 : ∀ w, (Instr.index 9 (.string s) (.int .i64 (p : Int))).run Tryd.prog w = .ok (.int .u8 (c : Int)) w := fun w => by
        rw [run_index_string _ _ _ _ _ Tryd.underlying9, dif_pos ⟨by omega, by omega⟩]
        simp only [Int.toNat_natCast, hc]
      by_cases hA : 48 ≤ c ∧ c ≤ 57
      · obtain ⟨d, rfl⟩ : ∃ d : Nat, c = 48 + d := ⟨c - 48, by omega⟩
        have hd : d ≤ 9 := by omega
        have hdec := dec_asc hp hc hd
        have hre2 := Lib.hid (readW_snoc hre.out (show wd (48 + (d : Int)) = some d by unfold wd; rw [if_pos (by omega)]; congr 1; omega))
        have hch2 := Lib.hid (runes_len hch.out hdec)
        have hsl : ∀ w, (Instr.slice 9 (.string s) (some (.int .i64 p)) (some (.int .i64 ((p : Int) + 1))) none).run Tryd.prog w = .ok (.string (dg [d])) w := fun w => by
          have e1 : ((p : Int)).toNat = p := by omega
          have e2 : ((p : Int) + 1).toNat = p + 1 := by omega
          rw [run_slice_string_if w 9 _ .i64 .i64 _ _ Tryd.underlying9, e1, e2, cut_one hp hc]
          rw [if_pos (by omega), if_pos (by omega)]
        have hadd : ∀ w, (Op.stringOp .add (dg ds) (dg [d])).run Tryd.prog w = .ok (.string (dg (ds ++ [d]))) w := fun w => by
          rw [← dg_append]
          exact run_string_add_sum (P := Tryd.prog) (w := w) _ _ (by rw [dg_size, dg_size]; simp; omega)
        obtain ⟨x, hx⟩ : ∃ x : Int, ((48 + d : Nat) : Int) = x := ⟨_, rfl⟩
        rw [hx] at hx0
        have t1 : (48 : Int) ≤ x := by omega
        have t2 : x ≤ 57 := by omega
        clear hc hci hdec hx hA hre hch
        go_wp2
        go_roundw
        case rel => exact ⟨p + 1, pre ++ [48 + (d : Int)], ds ++ [d], by go_num, rfl, by omega, by simp; omega, hre2, hch2, trivial⟩
        case measure => simp [intOf] <;> omega
      · by_cases h3 : p + 3 ≤ s.size
        · obtain ⟨c1, hc1⟩ : ∃ c : Nat, (s[p + 1]'(by omega)).toNat = c := ⟨_, rfl⟩
          obtain ⟨c2, hc2⟩ : ∃ c : Nat, (s[p + 2]'(by omega)).toNat = c := ⟨_, rfl⟩
          have hx1 : ∀ w, (Instr.index 9 (.string s) (.int .i64 ((p : Int) + 1))).run Tryd.prog w = .ok (.int .u8 (c1 : Int)) w := fun w => by
            rw [run_index_string _ _ _ _ _ Tryd.underlying9, dif_pos ⟨by omega, by omega⟩]
            have e : ((p : Int) + 1).toNat = p + 1 := by omega
            simp only [e, hc1]
          have hx2 : ∀ w, (Instr.index 9 (.string s) (.int .i64 ((p : Int) + 2))).run Tryd.prog w = .ok (.int .u8 (c2 : Int)) w := fun w => by
            rw [run_index_string _ _ _ _ _ Tryd.underlying9, dif_pos ⟨by omega, by omega⟩]
            have e : ((p : Int) + 2).toNat = p + 2 := by omega
            simp only [e, hc2]
          by_cases hB : c = 239 ∧ c1 = 188 ∧ 144 ≤ c2 ∧ c2 ≤ 153
          · obtain ⟨rfl, rfl, b1, b2⟩ := hB
            obtain ⟨d, rfl⟩ : ∃ d : Nat, c2 = 144 + d := ⟨c2 - 144, by omega⟩
            have hd : d ≤ 9 := by omega
            have hdec := dec_wide h3 hc hc1 hc2 hd
            have hre2 := Lib.hid (readW_snoc hre.out (show wd (65296 + (d : Int)) = some d by unfold wd; rw [if_neg (by omega), if_pos (by omega)]; congr 1; omega))
            have hch2 := Lib.hid (runes_len hch.out hdec)
            have hsl := fun w => cut_digit d hd .i64 .i64 (d : Int) ((d : Int) + 1) rfl rfl w
            have hadd : ∀ w, (Op.stringOp .add (dg ds) (dg [d])).run Tryd.prog w = .ok (.string (dg (ds ++ [d]))) w := fun w => by
              rw [← dg_append]
              exact run_string_add_sum (P := Tryd.prog) (w := w) _ _ (by rw [dg_size, dg_size]; simp; omega)
            obtain ⟨x, hx⟩ : ∃ x : Int, ((144 + d : Nat) : Int) = x := ⟨_, rfl⟩
            rw [hx] at hx2
            have t1 : (144 : Int) ≤ x := by omega
            have t2 : x ≤ 153 := by omega
            have hw0 : x - 144 = (d : Int) := by omega
            have hw1 : IntKind.u8.wrap (x - 144) = (d : Int) := by rw [hw0]; exact IntWalk.u8_in _ ⟨by omega, by omega⟩
            have hw2 : IntKind.u8.wrap (d : Int) = (d : Int) := IntWalk.u8_in _ ⟨by omega, by omega⟩
            have d9 : (d : Int) ≤ 9 := by omega
            have d0 : (0 : Int) ≤ (d : Int) := by omega
            clear hc hc1 hc2 hci hdec hx hA hre hch b1 b2
            go_wp2
            go_roundw
            case rel => exact ⟨p + 3, pre ++ [65296 + (d : Int)], ds ++ [d], by go_num, rfl, by omega, by simp; omega, hre2, hch2, trivial⟩
            case measure => simp [intOf] <;> omega
          · have hbad : rdOut readW s = { data := #[] } := narrow_bad hp hch.out (by rw [hc]; exact hA) (fun h => by rw [hc, hc1, hc2]; exact hB)
            have HB := Lib.hid hbad
            obtain ⟨z0, hz0⟩ : ∃ z : Int, (c : Int) = z := ⟨_, rfl⟩
            obtain ⟨z1, hz1⟩ : ∃ z : Int, (c1 : Int) = z := ⟨_, rfl⟩
            obtain ⟨z2, hz2⟩ : ∃ z : Int, (c2 : Int) = z := ⟨_, rfl⟩
            have hcc : (z0 < 48 ∧ ¬ z0 = 239) ∨ (57 < z0 ∧ 48 ≤ z0 ∧ ¬ z0 = 239) ∨ (z0 = 239 ∧ ¬ z1 = 188) ∨ (z0 = 239 ∧ z1 = 188 ∧ z2 < 144) ∨ (z0 = 239 ∧ z1 = 188 ∧ 144 ≤ z2 ∧ 153 < z2) := by omega
            rw [hz0] at hx0
            rw [hz1] at hx1
            rw [hz2] at hx2
            clear hc hc1 hc2 hci hbad hA hB hre hch hdl hz0 hz1 hz2
            rcases hcc with ⟨t, t1⟩ | ⟨t, t1, t2⟩ | ⟨rfl, t⟩ | ⟨rfl, rfl, t⟩ | ⟨rfl, rfl, t, t1⟩
            all_goals
              go_wp2
              go_ret2
              exact ⟨by rw [HB.out]; rfl, rfl⟩
        · have hbad : rdOut readW s = { data := #[] } := narrow_bad hp hch.out (by rw [hc]; exact hA) (fun h => absurd h h3)
          have HB := Lib.hid hbad
          have hcc : (c : Int) < 48 ∨ (57 : Int) < c := by omega
          clear hc hci hbad hA hre hch hdl
          rcases hcc with t | t
          all_goals
            go_wp2
            go_ret2
            exact ⟨by rw [HB.out]; rfl, rfl⟩
    · have hall : chars (bs s) = some pre := by
        rw [hch.out, List.drop_of_length_le (by rw [bs_len]; omega), chars_nil]; simp
      have HG := Lib.hid (rdOut_good hall hre.out)
      have HD := Lib.hid (fun w => rdigits_any (dg ds) w (by rw [dg_size]; unfold maxLen; omega))
      have hp' : ¬ ((p : Int) < (s.size : Int)) := by omega
      clear hall hp hdl hre hch
      go_wp2_with (go_at_call 31; refine (HD.out _).mono ?_; rintro e w' ⟨rfl, rfl⟩)
      go_ret2
      exact ⟨by rw [HG.out]; rfl, rfl⟩

end Go.Proofs.YtfkdlnaakmgclaaDoor.Num
