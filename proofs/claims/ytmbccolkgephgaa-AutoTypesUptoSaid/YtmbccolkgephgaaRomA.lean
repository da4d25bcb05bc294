/-
  Contracts of the keys and kana of package roman: isKey, areKeys; the reference's keyed.
-/
import Derived.Test.YtmbccolkgephgaaRomMath
import Derived.Test.YtmbccolkgephgaaRows
import Derived.Test.YtmbccolkgephgaaKit
import Derived.Test.YtmbccolkgephgaaShelf
set_option linter.unusedVariables false
set_option linter.unusedSimpArgs false
set_option maxRecDepth 100000
namespace Go.Proofs.Ytmbccolkgephgaa.Rom
open Go Go.RowKit Go.Proofs.Ytmbccolkgephgaa.Kit Go.Proofs.Ytmbccolkgephgaa.Utf

theorem idx_other (b : Int) (h0 : 0 ≤ b) (h1 : b < 256) : decide (0 ≤ Lib.indexByte [45, 44, 46, 39] b.toNat.toUInt8) = decide (b = 45 ∨ b = 44 ∨ b = 46 ∨ b = 39) := by
  obtain ⟨n, rfl⟩ : ∃ n : Nat, b = n := ⟨b.toNat, by omega⟩
  have h : ∀ n, n < 256 → decide (0 ≤ Lib.indexByte [45, 44, 46, 39] n.toUInt8) = decide (n = 45 ∨ n = 44 ∨ n = 46 ∨ n = 39) := by decide +kernel
  rw [show ((n : Int)).toNat = n by omega, h n (by omega)]
  congr 1
  exact propext ⟨fun h => by omega, fun h => by omega⟩

theorem isKey_any (b : Int) (w : World) (h0 : 0 ≤ b) (h1 : b < 256) :
    Calls Try.prog 71 #[.int .u8 b] w fun e w' => e = .returned (.bool (isKeyZ b)) ∧ w' = w := by
  have HI := Lib.hid (Try.strings_IndexByte { data := #[45, 44, 46, 39] } b)
  have HE := Lib.hid (idx_other b h0 h1)
  generalize Lib.indexByte [45, 44, 46, 39] b.toNat.toUInt8 = x at HI HE
  by_cases h2 : 97 ≤ b ∧ b ≤ 122
  · obtain ⟨h3, h4⟩ := h2
    go_enter Try.func71, Try.ntmps71
    go_wp2
    go_ret
    refine ⟨ret_bool ?_, rfl⟩
    simp [isKeyZ]; omega
  · have e1 : isKeyZ b = decide (0 ≤ x) := by
      rw [HE.out]; unfold isKeyZ
      congr 1
      exact propext ⟨fun h => by omega, fun h => by omega⟩
    rw [e1]
    clear e1 HE
    go_enter Try.func71, Try.ntmps71
    go_wp2_with (go_at_call 75; (with_reducible refine (HI.out _).mono ?_); rintro e w1 ⟨rfl, hw1⟩; obtain rfl := hw1.symm)
    all_goals first | (exfalso; omega) | skip
    all_goals go_ret
    all_goals exact ⟨ret_bool (by first | (simp; done) | (simp; omega)), rfl⟩

/-- What a byte of a string is, as a number. -/
def bz (s : ByteArray) (i : Nat) : Int := ((bs s).getD i 0).toNat
theorem bz_bound (s : ByteArray) (i : Nat) : 0 ≤ bz s i ∧ bz s i < 256 := by unfold bz; have := ((bs s).getD i 0).toNat_lt; omega
theorem keys_take_all (s : ByteArray) (k : Nat) (h : s.size ≤ k) : keysOK ((bs s).take k) = keysOK (bs s) := by rw [List.take_of_length_le (by rw [bs_len]; exact h)]
theorem keys_succ (s : ByteArray) (k : Nat) (h : k < s.size) : keysOK ((bs s).take (k + 1)) = (keysOK ((bs s).take k) && isKeyZ (bz s k)) := by
  unfold keysOK bz
  rw [List.take_add_one, List.all_append, List.getD_eq_getElem?_getD, List.getElem?_eq_getElem (by rw [bs_len]; exact h)]
  simp
theorem keys_bad (s : ByteArray) (k : Nat) (h : keysOK ((bs s).take k) = false) : keysOK (bs s) = false := by
  cases h2 : keysOK (bs s)
  · rfl
  · unfold keysOK at *
    rw [List.all_eq_true] at h2
    have : ((bs s).take k).all (fun b => isKeyZ b.toNat) = true := List.all_eq_true.2 fun x hx => h2 x (List.mem_of_mem_take hx)
    rw [this] at h; cases h
theorem run_byte (s : ByteArray) (i : Nat) (h : i < s.size) (w : World) : (Instr.index 9 (.string s) (.int .i64 i)).run Try.prog w = .ok (.int .u8 (bz s i)) w := by
  rw [run_index_string w 9 s .i64 i Try.underlying9, dif_pos ⟨by omega, by omega⟩]
  congr 2
  unfold bz
  rw [List.getD_eq_getElem?_getD, List.getElem?_eq_getElem (by rw [bs_len]; exact h)]
  simp
  rfl

theorem areKeys_any (s : ByteArray) (a b : Int) (w : World) (hs : s.size ≤ 281474976710656) (ha : 0 ≤ a) (ha2 : a ≤ 4) (hb : -1 ≤ b) (hb2 : b ≤ 1000000000000000) :
    Calls Try.prog 67 #[.string s, .int .i64 a, .int .i64 b] w fun e w' => e = .returned (.bool (decide (a ≤ s.size ∧ s.size ≤ b) && keysOK (bs s))) ∧ w' = w := by
  by_cases h1 : (s.size : Int) < a
  · go_enter Try.func67, Try.ntmps67
    go_wp2
    go_ret
    refine ⟨ret_bool ?_, rfl⟩
    rw [decide_eq_false (by omega)]; rfl
  by_cases h2 : b < (s.size : Int)
  · go_enter Try.func67, Try.ntmps67
    go_wp2
    go_ret
    refine ⟨ret_bool ?_, rfl⟩
    rw [decide_eq_false (by omega)]; rfl
  have e1 : (decide (a ≤ (s.size : Int) ∧ (s.size : Int) ≤ b) && keysOK (bs s)) = keysOK (bs s) := by rw [decide_eq_true (by omega)]; rfl
  rw [e1]; clear e1
  go_enter Try.func67, Try.ntmps67
  go_wp2
  go_loopw [20] (fun i wr => ∃ k : Nat, i = .int .i64 k ∧ k ≤ s.size ∧ keysOK ((bs s).take k) = true ∧ wr = w) (fun i _ => s.size - (intOf i).toNat)
  case atStart => exact ⟨0, rfl, Nat.zero_le _, rfl, rfl⟩
  case round =>
    obtain ⟨k, rfl, hk, hok, rfl⟩ := hrel
    by_cases hkl : k < s.size
    · have hrun := run_byte s k hkl
      have hbz := bz_bound s k
      have hsu := Lib.hid (keys_succ s k hkl)
      have HO := Lib.hid hok; clear hok
      generalize bz s k = x at hrun hbz hsu
      obtain ⟨hb0, hb1⟩ := hbz
      cases hx : isKeyZ x
      · have HK := isKey_any x wr hb0 hb1
        rw [hx] at HK hsu
        clear hx hb0 hb1
        have HB := Lib.hid (keys_bad s (k + 1) (by rw [hsu.out]; simp))
        go_wp2_with (go_at_call 71; (with_reducible refine HK.mono ?_); rintro e w1 ⟨rfl, hw1⟩; obtain rfl := hw1.symm)
        go_ret
        exact ⟨ret_bool HB.out.symm, rfl⟩
      · have HK := isKey_any x wr hb0 hb1
        rw [hx] at HK hsu
        clear hx hb0 hb1
        go_wp2_with (go_at_call 71; (with_reducible refine HK.mono ?_); rintro e w1 ⟨rfl, hw1⟩; obtain rfl := hw1.symm)
        go_roundw
        case rel => exact ⟨k + 1, by go_num, by omega, by rw [hsu.out, HO.out]; rfl, trivial⟩
        case measure => simp [intOf]; omega
    · have e1 := Lib.hid (keys_take_all s k (by omega))
      rw [hok] at e1
      clear hok
      go_wp2
      go_ret
      exact ⟨ret_bool e1.out, rfl⟩

theorem keyed_any (s : ByteArray) (b : Int) (w : World) (hs : s.size ≤ 281474976710656) (hb : -1 ≤ b) (hb2 : b ≤ 1000000000000000) :
    Calls Try.prog 49 #[.string s, .int .i64 b] w fun e w' => e = .returned (.bool (keysOK (bs s) && decide (s.size ≤ b))) ∧ w' = w := by
  go_enter Try.func49, Try.ntmps49
  go_wp2
  go_loopw [5] (fun i wr => ∃ k : Nat, i = .int .i64 k ∧ k ≤ s.size ∧ keysOK ((bs s).take k) = true ∧ wr = w) (fun i _ => s.size - (intOf i).toNat)
  case atStart => exact ⟨0, rfl, Nat.zero_le _, rfl, rfl⟩
  case round =>
    obtain ⟨k, rfl, hk, hok, rfl⟩ := hrel
    by_cases hkl : k < s.size
    · have hrun := run_byte s k hkl
      have hbz := bz_bound s k
      have hsu := Lib.hid (keys_succ s k hkl)
      have HO := Lib.hid hok; clear hok
      generalize bz s k = x at hrun hbz hsu
      have hbad : isKeyZ x = false → keysOK (bs s) = false := fun h => keys_bad s (k + 1) (by rw [hsu.out, h]; simp)
      have HB := Lib.hid hbad; clear hbad
      by_cases h1 : 97 ≤ x <;> by_cases h2 : x ≤ 122 <;> cases h3 : (x == 45) <;> cases h4 : (x == 44) <;> cases h5 : (x == 46) <;> cases h6 : (x == 39)
      all_goals (have p3 := h3; have p4 := h4; have p5 := h5; have p6 := h6; simp only [beq_eq_false_iff_ne, ne_eq, beq_iff_eq] at p3 p4 p5 p6)
      all_goals first | (exfalso; omega) | skip
      all_goals go_wp2
      all_goals first
        | (go_roundw
           case rel => exact ⟨k + 1, by go_num, by omega, by rw [hsu.out, HO.out]; unfold isKeyZ; rw [decide_eq_true (by omega)]; rfl, trivial⟩
           case measure => simp [intOf]; omega)
        | (go_ret
           refine ⟨ret_bool ?_, rfl⟩
           rw [HB.out (by unfold isKeyZ; exact decide_eq_false (by omega)), Bool.false_and])
    · have e1 := Lib.hid (keys_take_all s k (by omega))
      rw [hok] at e1
      clear hok
      go_wp2
      go_ret
      refine ⟨ret_bool ?_, rfl⟩
      rw [← e1.out]; rfl

end Go.Proofs.Ytmbccolkgephgaa.Rom
