/-
  Joined texts: UtfG, UtfH, Kit2, Kit3, RomIB.
-/
import Derived.Test.YtamdlbefiggkfaaGreatM2
import Derived.Test.YtamdlbefiggkfaaGreatM1
import Derived.OneCell
set_option linter.unusedVariables false
set_option linter.unusedSimpArgs false
namespace Go.Proofs.YtamdlbefiggkfaaGreat.Utf
open Go Go.RowKit Go.Proofs.YtamdlbefiggkfaaGreat.Kit

/-- What Next returns. -/
def nx (l : List UInt8) : Int × Nat := match dec1 l with | none => (0, 0) | some p => p
theorem nx_none {l : List UInt8} (h : dec1 l = none) : nx l = (0, 0) := by unfold nx; rw [h]
theorem nx_some {l : List UInt8} {p : Int × Nat} (h : dec1 l = some p) : nx l = p := by unfold nx; rw [h]

theorem byte_at (s : ByteArray) (at0 i : Nat) (h : at0 + i < s.size) : (s[at0 + i]'h).toNat = bt ((bs s).drop at0) i := by
  have e : (bs s)[at0 + i]? = some (s[at0 + i]'h) := by
    rw [List.getElem?_eq_getElem (by rw [bs_len]; exact h)]; rfl
  unfold bt
  rw [List.getD_eq_getElem?_getD, List.getElem?_drop, e]; rfl

theorem ret_nx {l : List UInt8} {c : Int} {n : Int} (h : nx l = (c, n.toNat)) (hn : 0 ≤ n) : Ending.returned (.tuple #[.int .i32 c, .int .i64 n]) = .returned (.tuple #[.int .i32 (nx l).1, .int .i64 (nx l).2]) := by
  rw [h]; simp only [Int.toNat_of_nonneg hn]

theorem length_is (b : UInt8) (w : World) (n c0 : Nat) (N : Int) (h : lead b.toNat = (n, c0)) (hN : N = n) :
    Calls Tryz.prog 88 #[.int .u8 b.toNat] w fun e w' => e = .returned (.tuple #[.int .i64 N, .int .i32 c0]) ∧ w = w' := by
  have := length_any b w
  rw [h] at this
  rw [hN]; exact this

theorem character_is (c : Int) (w : World) {b : Bool} (h : validRune c = b) :
    Calls Tryz.prog 89 #[.int .i32 c] w fun e w' => e = .returned (.bool b) ∧ w = w' := by
  have := character_any c w
  rw [h] at this
  exact this

theorem at_len {s : ByteArray} {at0 : Nat} {l : List UInt8} (hL : (bs s).drop at0 = l) : l.length = s.size - at0 := by rw [← hL, List.length_drop, bs_len]
theorem at_byte {s : ByteArray} {at0 : Nat} {l : List UInt8} (hL : (bs s).drop at0 = l) (i : Nat) (h : at0 + i < s.size) : (s[at0 + i]'h).toNat = bt l i := by rw [← hL]; exact byte_at s at0 i h
theorem conts_more {l : List UInt8} {k : Nat} (h : ∀ j, 1 ≤ j → j < k → isCont l j) (h1 : k < l.length) (h2 : ¬ bt l k < 128) (h3 : ¬ 191 < bt l k) : ∀ j, 1 ≤ j → j < k + 1 → isCont l j := fun j a b => by
  by_cases e : j < k
  · exact h j a e
  · obtain rfl : j = k := by omega
    exact ⟨h1, by omega, by omega⟩
theorem acc_step (l : List UInt8) (c0 k : Nat) (h : 1 ≤ k) : acc l c0 (k + 1 - 1) = 64 * acc l c0 (k - 1) + (bt l k - 128) := by
  obtain ⟨m, rfl⟩ : ∃ m, k = m + 1 := ⟨k - 1, by omega⟩
  rfl

/-- No code begins there: the first byte, or the end of the string. -/
theorem next_short (s : ByteArray) (at0 : Nat) (w : World) (hs : s.size ≤ 1099511627776) (hp : at0 < s.size) (l : List UInt8) (hL : (bs s).drop at0 = l) (n c0 : Nat) (hld : lead (bt l 0) = (n, c0)) (hn : n = 0 ∨ s.size - at0 < n) :
    Calls Tryz.prog 73 #[.string s, .int .i64 at0] w fun e w' => e = .returned (.tuple #[.int .i32 (nx l).1, .int .i64 (nx l).2]) ∧ Below w.heap.size w w' := by
  have hx : nx l = (0, 0) := by
    have h1 := at_len hL
    rcases hn with rfl | hn
    · exact nx_none (dec1_lead0 hld)
    · exact nx_none (dec1_short hld (by omega) (by omega))
  have HX := Lib.hid hx; clear hx
  have hb1 : (s[at0]'hp).toNat = bt l 0 := at_byte hL 0 (by omega)
  have hlen := length_is (s[at0]'hp) w n c0 n (by rw [hb1]; exact hld) rfl
  rw [hb1] at hlen
  clear hL hld
  by_cases hz : n = 0
  · subst hz
    clear hn
    go_enter Tryz.func73, Tryz.ntmps73
    go_wp2_with (go_at_call 88; refine hlen.mono ?_; rintro e w' ⟨rfl, rfl⟩)
    go_ret2
    exact ⟨ret_nx HX.out (by omega), Below.refl _ _⟩
  · have hz1 : ((n : Int) == 0) = false := by simpa using hz
    have hn2 : s.size - at0 < n := by omega
    clear hn
    go_enter Tryz.func73, Tryz.ntmps73
    go_wp2_with (go_at_call 88; refine hlen.mono ?_; rintro e w' ⟨rfl, rfl⟩)
    go_ret2
    exact ⟨ret_nx HX.out (by omega), Below.refl _ _⟩

set_option maxRecDepth 100000 in
set_option maxHeartbeats 400000 in
theorem next_1 (s : ByteArray) (at0 : Nat) (w : World) (hs : s.size ≤ 1099511627776) (hp : at0 < s.size) (l : List UInt8) (hL : (bs s).drop at0 = l) (c0 : Nat) (hld : lead (bt l 0) = (1, c0)) (hn : 1 ≤ s.size - at0) :
    Calls Tryz.prog 73 #[.string s, .int .i64 at0] w fun e w' => e = .returned (.tuple #[.int .i32 (nx l).1, .int .i64 (nx l).2]) ∧ Below w.heap.size w w' := by
  have HL := Lib.hid (at_len hL)
  have hbi := Lib.hid (at_byte hL)
  have hb1 : (s[at0]'hp).toNat = bt l 0 := at_byte hL 0 (by omega)
  have hlen := length_is (s[at0]'hp) w 1 c0 1 (by rw [hb1]; exact hld) rfl
  rw [hb1] at hlen
  have HLD := Lib.hid hld; clear hL hld
  go_enter Tryz.func73, Tryz.ntmps73
  go_wp2_with (go_at_call 88; refine hlen.mono ?_; rintro e w' ⟨rfl, rfl⟩)
  clear hlen hb1
  go_loop [7, 8, 9] (fun c i _ => ∃ k : Nat, 1 ≤ k ∧ k ≤ 1 ∧ i = .int .i64 k ∧ c = .int .i32 (acc l c0 (k - 1)) ∧ ∀ j, 1 ≤ j → j < k → isCont l j) (fun _ i _ => 1 - (intOf i).toNat)
  case atStart => exact ⟨1, by omega, by omega, rfl, rfl, fun j h1 h2 => by omega⟩
  case round =>
    obtain ⟨k, hk1, hkn, rfl, rfl, hcs⟩ := hrel
    have HC := Lib.hid hcs; clear hcs
    have hlt : ¬ k < 1 := by omega
    have hkk : k = 1 := by omega
    · have hke := Lib.hid hkk; clear hkk
      obtain ⟨A, hA⟩ : ∃ A, acc l c0 (k - 1) = A := ⟨_, rfl⟩
      have hd : dec1 l = if A < least 1 ∨ validRune (A : Int) = false then none else some ((A : Int), 1) := by
        have hc := HC.out
        rw [hke.out] at hA hc
        rw [← hA]; exact dec1_conts HLD.out (by omega) (by have := HL.out; omega) hc
      rw [hA]
      have HD := Lib.hid hd; clear hd hA
      have hle : (0 : Int) ≤ (A : Int) := by omega
      cases hv : validRune (A : Int) with
      | false =>
        have hx := Lib.hid (nx_none (show dec1 l = none by rw [HD.out, if_pos (.inr hv)]))
        have hch := Lib.hid (fun w => character_is (A : Int) w hv); clear hv
        clear HD HC HLD HL hbi hkn hk1
        obtain ⟨C, hC⟩ : ∃ C : Int, (A : Int) = C := ⟨_, rfl⟩
        simp only [hC] at *
        clear hC
        go_wp2_with (go_at_call 89; (with_reducible refine (hch.out _).mono ?_); clear hch; rintro e w' ⟨rfl, rfl⟩)
        go_ret2
        exact ⟨ret_nx hx.out (by omega), (Below.refl _ _).alloc (Nat.le_refl _) _⟩
      | true =>
        have hx := Lib.hid (nx_some (show dec1 l = some ((A : Int), 1) by rw [HD.out, if_neg (by simp [hv, least] <;> omega)]))
        have hch := Lib.hid (fun w => character_is (A : Int) w hv); clear hv
        clear HD HC HLD HL hbi hkn hk1
        obtain ⟨C, hC⟩ : ∃ C : Int, (A : Int) = C := ⟨_, rfl⟩
        simp only [hC] at *
        clear hC
        go_wp2_with (go_at_call 89; (with_reducible refine (hch.out _).mono ?_); clear hch; rintro e w' ⟨rfl, rfl⟩)
        go_ret2
        exact ⟨ret_nx hx.out (by omega), (Below.refl _ _).alloc (Nat.le_refl _) _⟩

set_option maxRecDepth 100000 in
set_option maxHeartbeats 400000 in
theorem next_2 (s : ByteArray) (at0 : Nat) (w : World) (hs : s.size ≤ 1099511627776) (hp : at0 < s.size) (l : List UInt8) (hL : (bs s).drop at0 = l) (c0 : Nat) (hld : lead (bt l 0) = (2, c0)) (hn : 2 ≤ s.size - at0) :
    Calls Tryz.prog 73 #[.string s, .int .i64 at0] w fun e w' => e = .returned (.tuple #[.int .i32 (nx l).1, .int .i64 (nx l).2]) ∧ Below w.heap.size w w' := by
  have HL := Lib.hid (at_len hL)
  have hbi := Lib.hid (at_byte hL)
  have hb1 : (s[at0]'hp).toNat = bt l 0 := at_byte hL 0 (by omega)
  have hlen := length_is (s[at0]'hp) w 2 c0 2 (by rw [hb1]; exact hld) rfl
  rw [hb1] at hlen
  have HLD := Lib.hid hld; clear hL hld
  go_enter Tryz.func73, Tryz.ntmps73
  go_wp2_with (go_at_call 88; refine hlen.mono ?_; rintro e w' ⟨rfl, rfl⟩)
  clear hlen hb1
  go_loop [7, 8, 9] (fun c i _ => ∃ k : Nat, 1 ≤ k ∧ k ≤ 2 ∧ i = .int .i64 k ∧ c = .int .i32 (acc l c0 (k - 1)) ∧ ∀ j, 1 ≤ j → j < k → isCont l j) (fun _ i _ => 2 - (intOf i).toNat)
  case atStart => exact ⟨1, by omega, by omega, rfl, rfl, fun j h1 h2 => by omega⟩
  case round =>
    obtain ⟨k, hk1, hkn, rfl, rfl, hcs⟩ := hrel
    have HC := Lib.hid hcs; clear hcs
    by_cases hlt : k < 2
    · have hbk := hbi.out k (by omega)
      have q1 := bt_lt l k
      have hac := acc_lt l 2 c0 HLD.out (k - 1) (by omega)
      by_cases hlo : bt l k < 128
      · have hx := Lib.hid (nx_none (dec1_nocont HLD.out hk1 hlt (fun hc => by have := hc.2.1; omega)))
        go_wp2
        go_ret2
        exact ⟨ret_nx hx.out (by omega), Below.refl _ _⟩
      · by_cases hhi : 191 < bt l k
        · have hx := Lib.hid (nx_none (dec1_nocont HLD.out hk1 hlt (fun hc => by have := hc.2.2; omega)))
          go_wp2
          go_ret2
          exact ⟨ret_nx hx.out (by omega), Below.refl _ _⟩
        · have HST := Lib.hid (acc_step l c0 k hk1)
          have hcs2 := Lib.hid (conts_more HC.out (by have := HL.out; omega) hlo hhi)
          obtain ⟨A, hA⟩ : ∃ A, acc l c0 (k - 1) = A := ⟨_, rfl⟩
          obtain ⟨B, hB⟩ : ∃ B, bt l k = B := ⟨_, rfl⟩
          rw [hA] at hac HST ⊢
          rw [hB] at hbk q1 hlo hhi HST
          clear hA hB
          go_wp2
          go_round
          case rel => exact ⟨k + 1, by omega, by omega, by go_num, by rw [HST.out]; go_num, hcs2.out⟩
          case measure => simp [intOf]; omega
    · have hke := Lib.hid (show k = 2 by omega)
      obtain ⟨A, hA⟩ : ∃ A, acc l c0 (k - 1) = A := ⟨_, rfl⟩
      have hd : dec1 l = if A < least 2 ∨ validRune (A : Int) = false then none else some ((A : Int), 2) := by
        have hc := HC.out
        rw [hke.out] at hA hc
        rw [← hA]; exact dec1_conts HLD.out (by omega) (by have := HL.out; omega) hc
      rw [hA]
      have HD := Lib.hid hd; clear hd hA
      by_cases hle : A < 128
      · have hx := Lib.hid (nx_none (show dec1 l = none by rw [HD.out, if_pos (.inl (by simp [least]; omega))]))
        go_wp2
        go_ret2
        exact ⟨ret_nx hx.out (by omega), (Below.refl _ _).alloc (Nat.le_refl _) _⟩
      replace hle : (128 : Int) ≤ (A : Int) := by omega
      cases hv : validRune (A : Int) with
      | false =>
        have hx := Lib.hid (nx_none (show dec1 l = none by rw [HD.out, if_pos (.inr hv)]))
        have hch := Lib.hid (fun w => character_is (A : Int) w hv); clear hv
        clear HD HC HLD HL hbi hkn hk1
        obtain ⟨C, hC⟩ : ∃ C : Int, (A : Int) = C := ⟨_, rfl⟩
        simp only [hC] at *
        clear hC
        go_wp2_with (go_at_call 89; (with_reducible refine (hch.out _).mono ?_); clear hch; rintro e w' ⟨rfl, rfl⟩)
        go_ret2
        exact ⟨ret_nx hx.out (by omega), (Below.refl _ _).alloc (Nat.le_refl _) _⟩
      | true =>
        have hx := Lib.hid (nx_some (show dec1 l = some ((A : Int), 2) by rw [HD.out, if_neg (by simp [hv, least] <;> omega)]))
        have hch := Lib.hid (fun w => character_is (A : Int) w hv); clear hv
        clear HD HC HLD HL hbi hkn hk1
        obtain ⟨C, hC⟩ : ∃ C : Int, (A : Int) = C := ⟨_, rfl⟩
        simp only [hC] at *
        clear hC
        go_wp2_with (go_at_call 89; (with_reducible refine (hch.out _).mono ?_); clear hch; rintro e w' ⟨rfl, rfl⟩)
        go_ret2
        exact ⟨ret_nx hx.out (by omega), (Below.refl _ _).alloc (Nat.le_refl _) _⟩

set_option maxRecDepth 100000 in
set_option maxHeartbeats 400000 in
theorem next_3 (s : ByteArray) (at0 : Nat) (w : World) (hs : s.size ≤ 1099511627776) (hp : at0 < s.size) (l : List UInt8) (hL : (bs s).drop at0 = l) (c0 : Nat) (hld : lead (bt l 0) = (3, c0)) (hn : 3 ≤ s.size - at0) :
    Calls Tryz.prog 73 #[.string s, .int .i64 at0] w fun e w' => e = .returned (.tuple #[.int .i32 (nx l).1, .int .i64 (nx l).2]) ∧ Below w.heap.size w w' := by
  have HL := Lib.hid (at_len hL)
  have hbi := Lib.hid (at_byte hL)
  have hb1 : (s[at0]'hp).toNat = bt l 0 := at_byte hL 0 (by omega)
  have hlen := length_is (s[at0]'hp) w 3 c0 3 (by rw [hb1]; exact hld) rfl
  rw [hb1] at hlen
  have HLD := Lib.hid hld; clear hL hld
  go_enter Tryz.func73, Tryz.ntmps73
  go_wp2_with (go_at_call 88; refine hlen.mono ?_; rintro e w' ⟨rfl, rfl⟩)
  clear hlen hb1
  go_loop [7, 8, 9] (fun c i _ => ∃ k : Nat, 1 ≤ k ∧ k ≤ 3 ∧ i = .int .i64 k ∧ c = .int .i32 (acc l c0 (k - 1)) ∧ ∀ j, 1 ≤ j → j < k → isCont l j) (fun _ i _ => 3 - (intOf i).toNat)
  case atStart => exact ⟨1, by omega, by omega, rfl, rfl, fun j h1 h2 => by omega⟩
  case round =>
    obtain ⟨k, hk1, hkn, rfl, rfl, hcs⟩ := hrel
    have HC := Lib.hid hcs; clear hcs
    by_cases hlt : k < 3
    · have hbk := hbi.out k (by omega)
      have q1 := bt_lt l k
      have hac := acc_lt l 3 c0 HLD.out (k - 1) (by omega)
      by_cases hlo : bt l k < 128
      · have hx := Lib.hid (nx_none (dec1_nocont HLD.out hk1 hlt (fun hc => by have := hc.2.1; omega)))
        go_wp2
        go_ret2
        exact ⟨ret_nx hx.out (by omega), Below.refl _ _⟩
      · by_cases hhi : 191 < bt l k
        · have hx := Lib.hid (nx_none (dec1_nocont HLD.out hk1 hlt (fun hc => by have := hc.2.2; omega)))
          go_wp2
          go_ret2
          exact ⟨ret_nx hx.out (by omega), Below.refl _ _⟩
        · have HST := Lib.hid (acc_step l c0 k hk1)
          have hcs2 := Lib.hid (conts_more HC.out (by have := HL.out; omega) hlo hhi)
          obtain ⟨A, hA⟩ : ∃ A, acc l c0 (k - 1) = A := ⟨_, rfl⟩
          obtain ⟨B, hB⟩ : ∃ B, bt l k = B := ⟨_, rfl⟩
          rw [hA] at hac HST ⊢
          rw [hB] at hbk q1 hlo hhi HST
          clear hA hB
          go_wp2
          go_round
          case rel => exact ⟨k + 1, by omega, by omega, by go_num, by rw [HST.out]; go_num, hcs2.out⟩
          case measure => simp [intOf]; omega
    · have hke := Lib.hid (show k = 3 by omega)
      obtain ⟨A, hA⟩ : ∃ A, acc l c0 (k - 1) = A := ⟨_, rfl⟩
      have hd : dec1 l = if A < least 3 ∨ validRune (A : Int) = false then none else some ((A : Int), 3) := by
        have hc := HC.out
        rw [hke.out] at hA hc
        rw [← hA]; exact dec1_conts HLD.out (by omega) (by have := HL.out; omega) hc
      rw [hA]
      have HD := Lib.hid hd; clear hd hA
      by_cases hle : A < 2048
      · have hx := Lib.hid (nx_none (show dec1 l = none by rw [HD.out, if_pos (.inl (by simp [least]; omega))]))
        go_wp2
        go_ret2
        exact ⟨ret_nx hx.out (by omega), (Below.refl _ _).alloc (Nat.le_refl _) _⟩
      replace hle : (2048 : Int) ≤ (A : Int) := by omega
      cases hv : validRune (A : Int) with
      | false =>
        have hx := Lib.hid (nx_none (show dec1 l = none by rw [HD.out, if_pos (.inr hv)]))
        have hch := Lib.hid (fun w => character_is (A : Int) w hv); clear hv
        clear HD HC HLD HL hbi hkn hk1
        obtain ⟨C, hC⟩ : ∃ C : Int, (A : Int) = C := ⟨_, rfl⟩
        simp only [hC] at *
        clear hC
        go_wp2_with (go_at_call 89; (with_reducible refine (hch.out _).mono ?_); clear hch; rintro e w' ⟨rfl, rfl⟩)
        go_ret2
        exact ⟨ret_nx hx.out (by omega), (Below.refl _ _).alloc (Nat.le_refl _) _⟩
      | true =>
        have hx := Lib.hid (nx_some (show dec1 l = some ((A : Int), 3) by rw [HD.out, if_neg (by simp [hv, least] <;> omega)]))
        have hch := Lib.hid (fun w => character_is (A : Int) w hv); clear hv
        clear HD HC HLD HL hbi hkn hk1
        obtain ⟨C, hC⟩ : ∃ C : Int, (A : Int) = C := ⟨_, rfl⟩
        simp only [hC] at *
        clear hC
        go_wp2_with (go_at_call 89; (with_reducible refine (hch.out _).mono ?_); clear hch; rintro e w' ⟨rfl, rfl⟩)
        go_ret2
        exact ⟨ret_nx hx.out (by omega), (Below.refl _ _).alloc (Nat.le_refl _) _⟩

set_option maxRecDepth 100000 in
set_option maxHeartbeats 400000 in
theorem next_4 (s : ByteArray) (at0 : Nat) (w : World) (hs : s.size ≤ 1099511627776) (hp : at0 < s.size) (l : List UInt8) (hL : (bs s).drop at0 = l) (c0 : Nat) (hld : lead (bt l 0) = (4, c0)) (hn : 4 ≤ s.size - at0) :
    Calls Tryz.prog 73 #[.string s, .int .i64 at0] w fun e w' => e = .returned (.tuple #[.int .i32 (nx l).1, .int .i64 (nx l).2]) ∧ Below w.heap.size w w' := by
  have HL := Lib.hid (at_len hL)
  have hbi := Lib.hid (at_byte hL)
  have hb1 : (s[at0]'hp).toNat = bt l 0 := at_byte hL 0 (by omega)
  have hlen := length_is (s[at0]'hp) w 4 c0 4 (by rw [hb1]; exact hld) rfl
  rw [hb1] at hlen
  have HLD := Lib.hid hld; clear hL hld
  go_enter Tryz.func73, Tryz.ntmps73
  go_wp2_with (go_at_call 88; refine hlen.mono ?_; rintro e w' ⟨rfl, rfl⟩)
  clear hlen hb1
  go_loop [7, 8, 9] (fun c i _ => ∃ k : Nat, 1 ≤ k ∧ k ≤ 4 ∧ i = .int .i64 k ∧ c = .int .i32 (acc l c0 (k - 1)) ∧ ∀ j, 1 ≤ j → j < k → isCont l j) (fun _ i _ => 4 - (intOf i).toNat)
  case atStart => exact ⟨1, by omega, by omega, rfl, rfl, fun j h1 h2 => by omega⟩
  case round =>
    obtain ⟨k, hk1, hkn, rfl, rfl, hcs⟩ := hrel
    have HC := Lib.hid hcs; clear hcs
    by_cases hlt : k < 4
    · have hbk := hbi.out k (by omega)
      have q1 := bt_lt l k
      have hac := acc_lt l 4 c0 HLD.out (k - 1) (by omega)
      by_cases hlo : bt l k < 128
      · have hx := Lib.hid (nx_none (dec1_nocont HLD.out hk1 hlt (fun hc => by have := hc.2.1; omega)))
        go_wp2
        go_ret2
        exact ⟨ret_nx hx.out (by omega), Below.refl _ _⟩
      · by_cases hhi : 191 < bt l k
        · have hx := Lib.hid (nx_none (dec1_nocont HLD.out hk1 hlt (fun hc => by have := hc.2.2; omega)))
          go_wp2
          go_ret2
          exact ⟨ret_nx hx.out (by omega), Below.refl _ _⟩
        · have HST := Lib.hid (acc_step l c0 k hk1)
          have hcs2 := Lib.hid (conts_more HC.out (by have := HL.out; omega) hlo hhi)
          obtain ⟨A, hA⟩ : ∃ A, acc l c0 (k - 1) = A := ⟨_, rfl⟩
          obtain ⟨B, hB⟩ : ∃ B, bt l k = B := ⟨_, rfl⟩
          rw [hA] at hac HST ⊢
          rw [hB] at hbk q1 hlo hhi HST
          clear hA hB
          go_wp2
          go_round
          case rel => exact ⟨k + 1, by omega, by omega, by go_num, by rw [HST.out]; go_num, hcs2.out⟩
          case measure => simp [intOf]; omega
    · have hke := Lib.hid (show k = 4 by omega)
      obtain ⟨A, hA⟩ : ∃ A, acc l c0 (k - 1) = A := ⟨_, rfl⟩
      have hd : dec1 l = if A < least 4 ∨ validRune (A : Int) = false then none else some ((A : Int), 4) := by
        have hc := HC.out
        rw [hke.out] at hA hc
        rw [← hA]; exact dec1_conts HLD.out (by omega) (by have := HL.out; omega) hc
      rw [hA]
      have HD := Lib.hid hd; clear hd hA
      by_cases hle : A < 65536
      · have hx := Lib.hid (nx_none (show dec1 l = none by rw [HD.out, if_pos (.inl (by simp [least]; omega))]))
        go_wp2
        go_ret2
        exact ⟨ret_nx hx.out (by omega), (Below.refl _ _).alloc (Nat.le_refl _) _⟩
      replace hle : (65536 : Int) ≤ (A : Int) := by omega
      cases hv : validRune (A : Int) with
      | false =>
        have hx := Lib.hid (nx_none (show dec1 l = none by rw [HD.out, if_pos (.inr hv)]))
        have hch := Lib.hid (fun w => character_is (A : Int) w hv); clear hv
        clear HD HC HLD HL hbi hkn hk1
        obtain ⟨C, hC⟩ : ∃ C : Int, (A : Int) = C := ⟨_, rfl⟩
        simp only [hC] at *
        clear hC
        go_wp2_with (go_at_call 89; (with_reducible refine (hch.out _).mono ?_); clear hch; rintro e w' ⟨rfl, rfl⟩)
        go_ret2
        exact ⟨ret_nx hx.out (by omega), (Below.refl _ _).alloc (Nat.le_refl _) _⟩
      | true =>
        have hx := Lib.hid (nx_some (show dec1 l = some ((A : Int), 4) by rw [HD.out, if_neg (by simp [hv, least] <;> omega)]))
        have hch := Lib.hid (fun w => character_is (A : Int) w hv); clear hv
        clear HD HC HLD HL hbi hkn hk1
        obtain ⟨C, hC⟩ : ∃ C : Int, (A : Int) = C := ⟨_, rfl⟩
        simp only [hC] at *
        clear hC
        go_wp2_with (go_at_call 89; (with_reducible refine (hch.out _).mono ?_); clear hch; rintro e w' ⟨rfl, rfl⟩)
        go_ret2
        exact ⟨ret_nx hx.out (by omega), (Below.refl _ _).alloc (Nat.le_refl _) _⟩

theorem next_any (s : ByteArray) (at0 : Nat) (w : World) (hs : s.size ≤ 1099511627776) (hp : at0 < s.size) :
    Calls Tryz.prog 73 #[.string s, .int .i64 at0] w fun e w' => e = .returned (.tuple #[.int .i32 (nx ((bs s).drop at0)).1, .int .i64 (nx ((bs s).drop at0)).2]) ∧ Below w.heap.size w w' := by
  obtain ⟨⟨n, c0⟩, hld⟩ : ∃ p, lead (bt ((bs s).drop at0) 0) = p := ⟨_, rfl⟩
  by_cases h : n = 0 ∨ s.size - at0 < n
  · exact next_short s at0 w hs hp _ rfl n c0 hld h
  · rcases lead_cases _ _ _ hld with ⟨rfl, _⟩ | ⟨rfl, _⟩ | ⟨rfl, _⟩ | ⟨rfl, _⟩ | ⟨rfl, _⟩
    · exact next_1 s at0 w hs hp _ rfl c0 hld (by omega)
    · exact next_2 s at0 w hs hp _ rfl c0 hld (by omega)
    · exact next_3 s at0 w hs hp _ rfl c0 hld (by omega)
    · exact next_4 s at0 w hs hp _ rfl c0 hld (by omega)
    · omega

end Go.Proofs.YtamdlbefiggkfaaGreat.Utf

set_option linter.unusedVariables false
set_option linter.unusedSimpArgs false
set_option maxRecDepth 100000
namespace Go.Proofs.YtamdlbefiggkfaaGreat.Utf
open Go Go.RowKit Go.Proofs.YtamdlbefiggkfaaGreat.Kit

theorem next_is (s : ByteArray) (at0 : Nat) (w : World) (hs : s.size ≤ 1099511627776) (hp : at0 < s.size) (c : Int) (n : Nat) (h : nx ((bs s).drop at0) = (c, n)) :
    Calls Tryz.prog 73 #[.string s, .int .i64 at0] w fun e w' => e = .returned (.tuple #[.int .i32 c, .int .i64 n]) ∧ Below w.heap.size w w' := by
  have := next_any s at0 w hs hp
  rw [h] at this
  exact this

/-- What the reference's Runes returns, whatever the string. -/
def RunesPost (s : ByteArray) (w : World) (e : Ending) (w' : World) : Prop :=
  (chars (bs s) = none → e = .returned (.tuple #[.slice none 0 0, .bool false])) ∧
  (∀ cs, chars (bs s) = some cs → ∃ v, e = .returned (.tuple #[v, .bool true]) ∧ w'.ownsRow w.heap.size 21 1 v cs.length (ints cs)) ∧ Below w.heap.size w w'

theorem rrunes_any (s : ByteArray) (w : World) (hs : s.size ≤ 1099511627776) :
    Calls Tryz.prog 47 #[.string s] w (RunesPost s w) := by
  obtain ⟨i0, hi, hz0, hz1, hz2⟩ := info_parts info_i32
  go_enter Tryz.func47, Tryz.ntmps47
  go_wp2
  go_loopw [4, 5] (fun out a wr => ∃ (pos : Nat) (pre : List Int), a = .int .i64 pos ∧ wr.ownsRow w.heap.size 21 1 out pre.length (ints pre) ∧ Below w.heap.size w wr ∧ pos ≤ s.size ∧ pre.length ≤ pos ∧ chars (bs s) = (chars ((bs s).drop pos)).map (pre ++ ·)) (fun _ a _ => s.size - (intOf a).toNat)
  case atStart => exact ⟨0, [], rfl, World.ownsRow_nil _ _ _ _, Below.refl _ _, by omega, Nat.le_refl _, by rw [List.drop_zero]; exact map_nil _⟩
  case round =>
    obtain ⟨pos, pre, rfl, hown, hb, hps, hpl, hc⟩ := hrel
    by_cases hp : pos < s.size
    · cases hd : dec1 ((bs s).drop pos) with
      | none =>
        have hpost : ∀ w', Below w.heap.size w w' → RunesPost s w (.returned (.tuple #[.slice none 0 0, .bool false])) w' := fun w' h => by
          refine ⟨fun _ => rfl, fun cs h2 => ?_, h⟩
          rw [hc, chars_bad (drop_ne hp) hd] at h2; cases h2
        have hnx := Lib.hid (nx_none hd)
        have HP := Lib.hid hpost
        clear hpost hc hd
        go_wp2_with (go_at_call 73; refine (next_is _ _ _ hs hp _ _ hnx.out).mono ?_; rintro e w' ⟨rfl, hb2⟩)
        go_ret2
        exact HP.out _ (hb.trans (hb2.mono hb.size))
      | some p =>
        obtain ⟨c, n⟩ := p
        have hdp := dec1_pos hd
        rw [List.length_drop, bs_len] at hdp
        have hnx := Lib.hid (nx_some hd)
        have hc2 := Lib.hid (runes_len hc hd)
        have hn0 : ((n : Int) == 0) = false := by simp; omega
        clear hd hc
        go_wp2_with (first
          | (go_at_call 73; refine (next_is _ _ _ hs hp _ _ hnx.out).mono ?_; rintro e w4 ⟨rfl, hb2⟩; have hown4 := own_later hown hb2; have hb4 := hb.trans (hb2.mono hb.size); clear hown hb hb2)
          | (at_builtin; refine wpList_append_own _ rfl _ _ _ rfl w.heap.size 21 i0 (.int .i32 0) 1 4 Tryz.underlying79 hi hz0 hz1 hz2 rfl (by decide) _ pre.length (ints pre) rfl (hown4.alloc _) ⟨w4.heap.size, 0, none⟩ 1 1 [.int .i32 c] rfl rfl (cell_one_new _ _ _) ?c2 ?c3 ?c4 ?c5 ?_))
        case c2 => simp [Value.oneCell']
        case c3 => unfold maxLen; omega
        case c4 => omega
        case c5 => have := hb4.size; simp; omega
        intro v' w5 hown5 hg5 _
        have hb5 := below_own (hb4.alloc hb4.size _) (hown4.alloc _) (Nat.le_refl _) (by have := hb4.size; simp; omega) hg5
        have hown6 : w5.ownsRow w.heap.size 21 1 v' (pre ++ [c]).length (ints (pre ++ [c])) := by simpa using hown5
        clear hown5 hg5 hb4 hown4
        go_wp2
        go_roundw
        case rel => exact ⟨pos + n, pre ++ [c], by go_num, hown6, hb5, by omega, by simp; omega, hc2.out⟩
        case measure => simp [intOf]; omega
    · have hpost : ∀ v w', w'.ownsRow w.heap.size 21 1 v pre.length (ints pre) → Below w.heap.size w w' → RunesPost s w (.returned (.tuple #[v, .bool true])) w' := fun v w' h1 h2 => by
        rw [List.drop_of_length_le (by rw [bs_len]; omega), chars_nil] at hc
        simp only [Option.map_some, List.append_nil] at hc
        refine ⟨fun h => (by rw [hc] at h; cases h), fun cs h => ?_, h2⟩
        rw [hc] at h
        obtain rfl := Option.some.inj h
        exact ⟨v, rfl, h1⟩
      have HP := Lib.hid hpost
      clear hpost hc
      go_wp2
      go_ret2
      exact HP.out _ _ hown hb

theorem rrunes_good (s : ByteArray) (w : World) (hs : s.size ≤ 1099511627776) (cs : List Int) (hc : chars (bs s) = some cs) :
    Calls Tryz.prog 47 #[.string s] w fun e w' => ∃ a cap, e = .returned (.tuple #[.slice a cs.length cap, .bool true]) ∧ w'.ownsRow w.heap.size 21 1 (.slice a cs.length cap) cs.length (ints cs) ∧ cs.length ≤ cap ∧ Below w.heap.size w w' := by
  refine (rrunes_any s w hs).mono ?_
  rintro e w' ⟨_, h, hb⟩
  obtain ⟨v, rfl, hown⟩ := h cs hc
  obtain ⟨a, len, cap, rfl, hl, hlc, hcm, _⟩ := own_reads hown
  rw [List.length_map] at hl
  subst hl
  exact ⟨a, cap, rfl, hown, hlc, hb⟩

theorem rrunes_bad (s : ByteArray) (w : World) (hs : s.size ≤ 1099511627776) (hc : chars (bs s) = none) :
    Calls Tryz.prog 47 #[.string s] w fun e w' => e = .returned (.tuple #[.slice none 0 0, .bool false]) ∧ Below w.heap.size w w' := by
  refine (rrunes_any s w hs).mono ?_
  rintro e w' ⟨h, _, hb⟩
  exact ⟨h hc, hb⟩

theorem rcount_any (s : ByteArray) (w : World) (hs : s.size ≤ 1099511627776) :
    Calls Tryz.prog 40 #[.string s] w fun e w' => e = .returned (.int .i64 (count (bs s))) ∧ Below w.heap.size w w' := by
  cases hc : chars (bs s) with
  | none =>
    have hcn := Lib.hid (count_none hc)
    go_enter Tryz.func40, Tryz.ntmps40
    go_wp2_with (go_at_call 47; refine (rrunes_bad _ _ hs hc).mono ?_; clear hc; rintro e w' ⟨rfl, hb⟩)
    go_ret
    exact ⟨ret_int hcn.out.symm, hb⟩
  | some cs =>
    have hcn := Lib.hid (count_some hc)
    have HC := Lib.hid hc; clear hc
    go_enter Tryz.func40, Tryz.ntmps40
    go_wp2_with (go_at_call 47; refine (rrunes_good _ _ hs cs HC.out).mono ?_; rintro e w' ⟨a, cap, rfl, hown, hcap, hb⟩)
    go_ret
    exact ⟨ret_int hcn.out.symm, hb⟩

end Go.Proofs.YtamdlbefiggkfaaGreat.Utf

set_option linter.unusedVariables false
set_option linter.unusedSimpArgs false
namespace Go.Proofs.YtamdlbefiggkfaaGreat.Kit
open Go Go.RowKit

theorem IsRow.news {k : IntKind} {w w' : World} {x : Addr} {len cap : Nat} {zs : List Int} (h : IsRow k w (some x) len cap zs) (hb : Below w.heap.size w w') :
    ∀ j u, ((zs.take len).map (Value.int k))[j]? = some u → w'.cell? (x.add j) = some u := by
  rcases h with ⟨h, _⟩ | ⟨y, hy, hl, hm, hz, hcell, hwf⟩
  · cases h
  · obtain rfl := Option.some.inj hy
    intro j u hu
    rw [List.getElem?_map, List.getElem?_take] at hu
    split at hu
    · rename_i hj
      have hjz : j < zs.length := by omega
      have h2 := hcell j hjz
      rw [List.getElem?_eq_getElem hjz] at hu
      simp only [Option.map_some, Option.some.injEq] at hu
      rw [hb.cell (World.block_lt_of_cell? w _ h2), h2, ← hu, List.getD_eq_getElem?_getD, List.getElem?_eq_getElem hjz]; rfl
    · cases hu

theorem IsRow.len {k : IntKind} {w : World} {a : Option Addr} {len cap : Nat} {zs : List Int} (h : IsRow k w a len cap zs) : len ≤ cap ∧ cap ≤ maxLen ∧ zs.length = cap := by
  rcases h with ⟨rfl, rfl, rfl, rfl⟩ | ⟨y, hy, hl, hm, hz, hcell, hwf⟩
  · exact ⟨Nat.le_refl _, Nat.zero_le _, rfl⟩
  · exact ⟨hl, hm, hz⟩

theorem IsRow.wf {k : IntKind} {w : World} {a : Option Addr} {len cap : Nat} {zs : List Int} (h : IsRow k w a len cap zs) : ∀ n ∈ zs, (Lit.int k n).wf = true := by
  rcases h with ⟨rfl, rfl, rfl, rfl⟩ | ⟨y, hy, hl, hm, hz, hcell, hwf⟩
  · intro n hn; cases hn
  · exact hwf

/-- An empty block that the call has just laid is a row of its own. -/
theorem own_empty (w : World) (e : TypeId) (base B size : Nat) (hB : B = w.heap.size) (hb : base ≤ w.heap.size) : (w.alloc (.cells #[] e)).ownsRow base e size (.slice (some ⟨B, 0, none⟩) 0 0) 0 [] := by
  subst hB
  exact World.ownsRow_made w #[] 0 hb (Nat.zero_le _) (by simp)

theorem ints_oneCell (k : IntKind) (l : List Int) : ∀ u ∈ l.map (Value.int k), u.oneCell' = true := by
  intro u hu
  obtain ⟨n, _, rfl⟩ := List.mem_map.1 hu
  rfl

/-- wpList_append_own at an operation that has a guard which says yes. -/
theorem wpList_append_own_g {P : Program} (w : World) {ops : Array Oper} {rest : List Oper} {o : Oper} {a : Act} {Q : Exit → Act → World → Prop} (hw : Region.wanted o (yielded ops a.tmps) = true) (s x : Operand) (t : TypeId)
    (ho : o.op = .call { callee := .builtin .append, args := #[s, x], argTypes := #[t, t] })
    (base : Nat) (e : TypeId) (i : TypeInfo) (z : Value) (size bytes : Nat) (ht : P.underlying t = some (.slice e)) (hi : P.info? e = some i) (hz : i.zero = some z)
    (hsize : i.size = size) (hby : i.bytes = bytes) (hzs : z.cells.size = size) (hsz : 0 < size)
    (v : Value) (n : Nat) (xs : List Value) (hs : a.eval s = v) (hown : w.ownsRow base e size v n xs)
    (ad : Addr) (m c : Nat) (news : List Value) (hx : a.eval x = .slice (some ad) m c) (hl : news.length = m * size) (hnews : ∀ j u, news[j]? = some u → w.cell? (ad.add j) = some u) (h1 : ∀ u ∈ news, u.oneCell' = true)
    (h63 : n + m ≤ maxLen) (hbytes : (n + m) * bytes ≤ 140737488355328) (hbase : base ≤ w.heap.size)
    (h : ∀ v' w', w'.ownsRow base e size v' (n + m) (xs ++ news) → w.grownBy w' v.ownBlock → (v' = .slice none 0 0 ↔ v = .slice none 0 0 ∧ m = 0) → wpList P ops Q rest (a.put o.dst v') w') : wpList P ops Q (o :: rest) a w :=
  wpList_step fun K hK => by rw [if_pos hw]; exact wp_append_own w s x t ho base e i z size bytes ht hi hz hsize hby hzs hsz v n xs hs hown ad m c news hx hl hnews h1 h63 hbytes hbase fun v' w' h2 h3 h4 => hK _ _ (h v' w' h2 h3 h4)

end Go.Proofs.YtamdlbefiggkfaaGreat.Kit

set_option linter.unusedVariables false
set_option linter.unusedSimpArgs false
namespace Go.Proofs.YtamdlbefiggkfaaGreat.Kit
open Go Go.RowKit

/-- The cells of an owned row: which block, what they hold, that they may be written. -/
theorem own_cells {w : World} {base e n cap : Nat} {a : Option Addr} {xs : List Value} (h : w.ownsRow base e 1 (.slice a n cap) n xs) (h0 : 0 < n) :
    ∃ g, a = some ⟨g, 0, none⟩ ∧ base ≤ g ∧ g < w.heap.size ∧ (∀ (k : Nat) x, xs[k]? = some x → w.cell? ⟨g, k, none⟩ = some x) ∧ ∀ k, w.frozen? ⟨g, k, none⟩ = false := by
  rcases h.2 with ⟨e1, h1⟩ | ⟨g, c, cur, e1, hb, hg, hnc, hcm, hcs, htake⟩
  · omega
  · cases e1
    refine ⟨g, rfl, hb, (Array.getElem?_eq_some_iff.1 hg).1, fun k x hx => ?_, fun k => by simp [World.frozen?, hg]⟩
    rw [cell_of_row w g k cur e (0, 0) hg]
    rw [← htake, List.getElem?_take] at hx
    split at hx
    · simpa using hx
    · cases hx

theorem own_set {w : World} {base e n cap g : Nat} {xs : List Value} (h : w.ownsRow base e 1 (.slice (some ⟨g, 0, none⟩) n cap) n xs) {k : Nat} (hk : k < n) (u : Value) :
    (w.setCell ⟨g, k, none⟩ u).ownsRow base e 1 (.slice (some ⟨g, 0, none⟩) n cap) n (xs.set k u) := by
  refine ⟨by rw [List.length_set]; exact h.1, ?_⟩
  rcases h.2 with ⟨e1, h1⟩ | ⟨g', c, cur, e1, hb, hg, hnc, hcm, hcs, htake⟩
  · omega
  · cases e1
    refine .inr ⟨g, cap, cur.setIfInBounds k u, rfl, hb, heap_setCell_same w g k cur e u hg, hnc, hcm, by simpa using hcs, ?_⟩
    rw [Array.toList_setIfInBounds, List.take_set, htake]

theorem own_setCell_below {w : World} {base e n : Nat} {v : Value} {xs : List Value} (h : w.ownsRow base e 1 v n xs) {p : Addr} (hp : p.block < base) (u : Value) : (w.setCell p u).ownsRow base e 1 v n xs := ownsRow_setCell_below h hp u

/-- The first k values turned by h, the others as they are. -/
def mixed (h : Int → Int) (cs : List Int) (k : Nat) : List Int := (cs.take k).map h ++ cs.drop k
theorem mixed_zero (h : Int → Int) (cs : List Int) : mixed h cs 0 = cs := by simp [mixed]
theorem mixed_len (h : Int → Int) (cs : List Int) (k : Nat) : (mixed h cs k).length = cs.length := by simp [mixed]; omega
theorem mixed_all (h : Int → Int) (cs : List Int) (k : Nat) (hk : cs.length ≤ k) : mixed h cs k = cs.map h := by simp [mixed, List.take_of_length_le hk, List.drop_of_length_le hk]
theorem mixed_get (h : Int → Int) (cs : List Int) (k : Nat) (hk : k < cs.length) : (mixed h cs k)[k]? = some cs[k] := by
  unfold mixed
  rw [List.getElem?_append_right (by simp; omega)]
  simp [Nat.min_eq_left (Nat.le_of_lt hk)]
theorem mixed_set (h : Int → Int) (cs : List Int) (k : Nat) (hk : k < cs.length) : (mixed h cs k).set k (h cs[k]) = mixed h cs (k + 1) := by
  unfold mixed
  rw [List.set_append_right _ _ (by simp; omega)]
  simp only [List.length_map, List.length_take, Nat.min_eq_left (Nat.le_of_lt hk), Nat.sub_self]
  have e2 : (cs.take (k + 1)).map h = (cs.take k).map h ++ [h cs[k]] := by rw [List.take_succ_eq_append_getElem hk, List.map_append]; rfl
  rw [e2, List.drop_eq_getElem_cons hk, List.set_cons_zero, List.append_assoc]
  rfl
theorem mixed_skip (h : Int → Int) (cs : List Int) (k : Nat) (hk : k < cs.length) (he : h cs[k] = cs[k]) : mixed h cs k = mixed h cs (k + 1) := by
  rw [← mixed_set h cs k hk, he]
  apply List.ext_getElem?
  intro i
  rw [List.getElem?_set]
  split
  · rename_i e; subst e; rw [mixed_get h cs k hk, if_pos (by rw [mixed_len]; exact hk)]
  · rfl

end Go.Proofs.YtamdlbefiggkfaaGreat.Kit

set_option linter.unusedVariables false
set_option linter.unusedSimpArgs false
set_option maxRecDepth 100000
namespace Go.Proofs.YtamdlbefiggkfaaGreat.Rom
open Go Go.RowKit Go.Proofs.YtamdlbefiggkfaaGreat.Kit Go.Proofs.YtamdlbefiggkfaaGreat.Utf

def isMark (x : Nat) : Bool := decide (x = 12540 ∨ x = 12289 ∨ x = 12290)

theorem rb_at (R : ByteArray) (j : Nat) (h : j < R.size) (w : World) : (Instr.index 9 (.string R) (.int .i64 j)).run Tryz.prog w = .ok (.int .u8 (((bs R).getD j 0).toNat : Int)) w := run_byte R j h w
def rbOf (r : Int) (j : Nat) : Int := (((enc r).getD j 0).toNat : Int)
theorem rb_of (r : Int) (l : Nat) (h1 : 1 ≤ l) (h3 : l ≤ 3) (hl : (enc r).length = l + 1) (z0 : 128 ≤ rbOf r l) (z1 : rbOf r l < 192) : RB (Utf8.encode r) l (rbOf r) := by
  have hs : (Utf8.encode r).size = l + 1 := by rw [← bs_len]; exact hl
  exact ⟨hs, h1, h3, fun j hj w => rb_at _ j (by omega) w, z0, z1⟩

theorem sb_lead : ∀ p, p < 9 → 192 ≤ sb p → (p = 0 ∨ p = 3 ∨ p = 6) ∧ sb p = 227 := by decide
theorem occ_pos {l : Nat} {rb : Nat → Int} (h0 : 192 ≤ rb 0) : Occ l rb → ∃ p, (p = 0 ∨ p = 3 ∨ p = 6) ∧ ∀ j, j ≤ l → sb (p + j) = rb j := by
  intro ⟨p, hp, ho⟩
  have := ho 0 (Nat.zero_le _)
  exact ⟨p, (sb_lead p (by omega) (by rw [show p = p + 0 by omega, this]; exact h0)).1, ho⟩

/-- The runes of two to four bytes. -/
theorem ir_val (r : Int) (h128 : 128 ≤ r) (hmax : r ≤ 1114111) (h65 : (r == 65533) = false) (hv : Go.validRune r = true) (w : World) :
    Calls Tryz.prog 119 #[.string { data := #[227, 131, 188, 227, 128, 129, 227, 128, 130] }, .int .i32 r] w fun e w' => ∃ v, e = .returned (.int .i64 v) ∧ (0 ≤ v ↔ isMark r.toNat = true) ∧ Below w.heap.size w w' := by
  obtain ⟨x, rfl⟩ : ∃ x : Nat, r = x := ⟨r.toNat, by omega⟩
  have hx : ((x : Nat) : Int).toNat = x := by omega
  rw [hx]
  rcases enc_forms x hv with ⟨hc, _⟩ | ⟨_, hc, e⟩ | ⟨hc1, hc, e⟩ | ⟨hc, _, e⟩
  · omega
  · rw [hx] at e
    have r0 : rbOf x 0 = 192 + x / 64 := by unfold rbOf; rw [e]; show ((UInt8.ofNat _).toNat : Int) = _; rw [toNat_ofNat _ (by omega)]; omega
    have r1 : rbOf x 1 = 128 + x % 64 := by unfold rbOf; rw [e]; show ((UInt8.ofNat _).toNat : Int) = _; rw [toNat_ofNat _ (by omega)]; omega
    refine (ir_at x _ 1 (rbOf x) h128 h65 hv rfl (rb_of x 1 (by decide) (by decide) (by rw [e]; rfl) (by rw [r1]; omega) (by rw [r1]; omega)) w).mono ?_
    rintro e' w' ⟨v, rfl, hov, hb⟩
    refine ⟨v, rfl, hov.trans ⟨fun ho => ?_, fun hs => ?_⟩, hb⟩
    · obtain ⟨p, hp, h⟩ := ho
      have h0 := h 0 (by omega)
      have := (sb_lead p (by omega) (by rw [show p = p + 0 by omega, h0, r0]; omega)).2
      rw [show p = p + 0 by omega, h0, r0] at this
      omega
    · simp only [isMark, decide_eq_true_eq] at hs; omega
  · rw [hx] at e
    have r0 : rbOf x 0 = 224 + x / 4096 := by unfold rbOf; rw [e]; show ((UInt8.ofNat _).toNat : Int) = _; rw [toNat_ofNat _ (by omega)]; omega
    have r1 : rbOf x 1 = 128 + x / 64 % 64 := by unfold rbOf; rw [e]; show ((UInt8.ofNat _).toNat : Int) = _; rw [toNat_ofNat _ (by omega)]; omega
    have r2 : rbOf x 2 = 128 + x % 64 := by unfold rbOf; rw [e]; show ((UInt8.ofNat _).toNat : Int) = _; rw [toNat_ofNat _ (by omega)]; omega
    refine (ir_at x _ 2 (rbOf x) h128 h65 hv rfl (rb_of x 2 (by decide) (by decide) (by rw [e]; rfl) (by rw [r2]; omega) (by rw [r2]; omega)) w).mono ?_
    rintro e' w' ⟨v, rfl, hov, hb⟩
    refine ⟨v, rfl, hov.trans ⟨fun ho => ?_, fun hs => ?_⟩, hb⟩
    · obtain ⟨p, hp, h⟩ := occ_pos (by rw [r0]; omega) ho
      have h0 := h 0 (by omega)
      have h1 := h 1 (by omega)
      have h2 := h 2 (by omega)
      rw [r0] at h0
      rw [r1] at h1
      rw [r2] at h2
      simp only [isMark, decide_eq_true_eq]
      rcases hp with rfl | rfl | rfl
      · have a0 : sb (0 + 0) = 227 := rfl
        have a1 : sb (0 + 1) = 131 := rfl
        have a2 : sb (0 + 2) = 188 := rfl
        omega
      · have a0 : sb (3 + 0) = 227 := rfl
        have a1 : sb (3 + 1) = 128 := rfl
        have a2 : sb (3 + 2) = 129 := rfl
        omega
      · have a0 : sb (6 + 0) = 227 := rfl
        have a1 : sb (6 + 1) = 128 := rfl
        have a2 : sb (6 + 2) = 130 := rfl
        omega
    · simp only [isMark, decide_eq_true_eq] at hs
      have h3 : x = 12540 ∨ x = 12289 ∨ x = 12290 := by omega
      rcases h3 with rfl | rfl | rfl
      · refine ⟨0, by decide, fun j hj => ?_⟩
        rcases (by omega : j = 0 ∨ j = 1 ∨ j = 2) with rfl | rfl | rfl
        · rw [r0]; rfl
        · rw [r1]; rfl
        · rw [r2]; rfl
      · refine ⟨3, by decide, fun j hj => ?_⟩
        rcases (by omega : j = 0 ∨ j = 1 ∨ j = 2) with rfl | rfl | rfl
        · rw [r0]; rfl
        · rw [r1]; rfl
        · rw [r2]; rfl
      · refine ⟨6, by decide, fun j hj => ?_⟩
        rcases (by omega : j = 0 ∨ j = 1 ∨ j = 2) with rfl | rfl | rfl
        · rw [r0]; rfl
        · rw [r1]; rfl
        · rw [r2]; rfl
  · rw [hx] at e
    have r0 : rbOf x 0 = 240 + x / 262144 := by unfold rbOf; rw [e]; show ((UInt8.ofNat _).toNat : Int) = _; rw [toNat_ofNat _ (by omega)]; omega
    have r3 : rbOf x 3 = 128 + x % 64 := by unfold rbOf; rw [e]; show ((UInt8.ofNat _).toNat : Int) = _; rw [toNat_ofNat _ (by omega)]; omega
    refine (ir_at x _ 3 (rbOf x) h128 h65 hv rfl (rb_of x 3 (by decide) (by decide) (by rw [e]; rfl) (by rw [r3]; omega) (by rw [r3]; omega)) w).mono ?_
    rintro e' w' ⟨v, rfl, hov, hb⟩
    refine ⟨v, rfl, hov.trans ⟨fun ho => ?_, fun hs => ?_⟩, hb⟩
    · obtain ⟨p, hp, h⟩ := ho
      have h0 := h 0 (by omega)
      have := (sb_lead p (by omega) (by rw [show p = p + 0 by omega, h0, r0]; omega)).2
      rw [show p = p + 0 by omega, h0, r0] at this
      omega
    · simp only [isMark, decide_eq_true_eq] at hs; omega

def markRunes : List (Nat × Nat × Int) := [(0, 3, 12540), (3, 6, 12289), (6, 9, 12290)]
theorem mark_dec : ∀ x ∈ markRunes, x.1 < 9 ∧ Utf8.decode { data := #[227, 131, 188, 227, 128, 129, 227, 128, 130] } x.1 = (x.2.2.toNat, x.2.1 - x.1) ∧ x.1 + (x.2.1 - x.1) = x.2.1 ∧ x.2.1 ≤ 9 ∧ (x.2.2.toNat : Int) = x.2.2 ∧ (x.2.2 == 65533) = false ∧ (x.2.1 = 9 ∨ ∃ y ∈ markRunes, y.1 = x.2.1) := by decide +kernel
/-- The mark of what is no character. -/
theorem ir_mark (w : World) :
    Calls Tryz.prog 119 #[.string { data := #[227, 131, 188, 227, 128, 129, 227, 128, 130] }, .int .i32 65533] w fun e w' => e = .returned (.int .i64 (-1)) ∧ Below w.heap.size w w' := by
  go_enter Tryz.func119, Tryz.ntmps119
  go_wp2
  go_loopw [] (fun wr => ∃ pos : Nat, wr = w.iter { data := #[227, 131, 188, 227, 128, 129, 227, 128, 130] } pos ∧ (pos = 9 ∨ ∃ y ∈ markRunes, y.1 = pos)) (fun wr => 9 - wr.iterPos w.heap.size)
  case atStart => exact ⟨0, rfl, .inr ⟨(0, 3, 12540), by decide, rfl⟩⟩
  case round =>
    obtain ⟨pos, rfl, hp | ⟨y, hy, rfl⟩⟩ := hrel
    · subst hp
      have hnx : ∀ ty, (Instr.next (.pointer (some ⟨w.heap.size, 0, none⟩)) true ty).run Tryz.prog (w.iter { data := #[227, 131, 188, 227, 128, 129, 227, 128, 130] } 9) = _ := fun ty => run_next_end w _ 9 ty (by decide)
      go_wp2
      go_ret
      exact ⟨rfl, (Below.refl _ _).alloc (Nat.le_refl _) _⟩
    · obtain ⟨h1, h2, h3, h4, h5, h6, h7⟩ := mark_dec y hy
      have hnx : ∀ ty, (Instr.next (.pointer (some ⟨w.heap.size, 0, none⟩)) true ty).run Tryz.prog (w.iter { data := #[227, 131, 188, 227, 128, 129, 227, 128, 130] } y.1) = .ok (.tuple #[.bool true, .int .i64 y.1, .int .i32 y.2.2]) (w.iter { data := #[227, 131, 188, 227, 128, 129, 227, 128, 130] } y.2.1) := fun ty => by
        have := run_next_any (P := Tryz.prog) w { data := #[227, 131, 188, 227, 128, 129, 227, 128, 130] } y.1 ty h1
        rw [h2, h3, h5] at this
        exact this
      have hlt : y.1 < y.2.1 := by
        have : ∀ x ∈ markRunes, x.1 < x.2.1 := by decide
        exact this y hy
      obtain ⟨p, hpe⟩ : ∃ p, y.1 = p := ⟨_, rfl⟩
      obtain ⟨q, hqe⟩ : ∃ q, y.2.1 = q := ⟨_, rfl⟩
      obtain ⟨z, hze⟩ : ∃ z, y.2.2 = z := ⟨_, rfl⟩
      rw [hpe, hqe, hze] at hnx
      rw [hpe]
      rw [hze] at h6
      rw [hqe] at h7 h4 hlt
      rw [hpe] at hlt
      clear h2 h3 h5 h1
      have H7 := Lib.hid h7
      clear h7 hy hze hqe hpe
      go_wp2
      go_roundw
      case rel => exact ⟨q, rfl, H7.out⟩
      case measure => simp; omega

theorem ascii_marks : ∀ x, x < 128 → decide (0 ≤ Lib.indexByte sepL x.toUInt8) = isMark x := by decide +kernel

/-- Whatever the character: ContainsRune says whether it is a mark. -/
theorem contains_any (c : Int) (hv : Go.validRune c = true) (w : World) :
    Calls Tryz.prog 117 #[.string { data := #[227, 131, 188, 227, 128, 129, 227, 128, 130] }, .int .i32 c] w fun e w' => e = .returned (.bool (isMark c.toNat)) ∧ Below w.heap.size w w' := by
  have hb := (valid_iff c).1 hv
  by_cases h128 : c < 128
  · refine (Tryz.strings_ContainsRune_ascii _ c w (by omega) (by omega)).mono ?_
    rintro e w' ⟨rfl, rfl⟩
    refine ⟨ret_bool ?_, Below.refl _ _⟩
    rw [← ascii_marks c.toNat (by omega)]
    rfl
  · have H : ∀ w, Calls Tryz.prog 119 #[.string { data := #[227, 131, 188, 227, 128, 129, 227, 128, 130] }, .int .i32 c] w fun e w' => ∃ v, e = .returned (.int .i64 v) ∧ (0 ≤ v ↔ isMark c.toNat = true) ∧ Below w.heap.size w w' := by
      intro w
      by_cases h65 : c = 65533
      · subst h65
        refine (ir_mark w).mono ?_
        rintro e w' ⟨rfl, hb⟩
        exact ⟨_, rfl, by decide, hb⟩
      · exact ir_val c (by omega) (by omega) (by simpa using h65) hv w
    have H := Lib.hid H
    clear hb hv h128
    go_enter Tryz.func117, Tryz.ntmps117
    go_wp2_with (go_at_call 119; (with_reducible refine (H.out _).mono ?_); rintro e w1 ⟨v, rfl, hv, hb⟩; have HV := Lib.hid hv; clear hv)
    go_ret
    refine ⟨?_, hb⟩
    congr 2
    have hv := HV.out
    cases hs : isMark c.toNat with
    | true => have := hv.2 hs; simpa using this
    | false =>
      have : ¬ 0 ≤ v := fun h => by have := hv.1 h; rw [hs] at this; cases this
      simpa using this

theorem isKana_any (c : Int) (hv : Go.validRune c = true) (w : World) :
    Calls Tryz.prog 112 #[.int .i32 c] w fun e w' => e = .returned (.bool (isKanaZ c)) ∧ Below w.heap.size w w' := by
  have hbd := (valid_iff c).1 hv
  have HC := Lib.hid (contains_any c hv)
  by_cases h : 12353 ≤ c ∧ c ≤ 12438
  · obtain ⟨h1, h2⟩ := h
    have e1 : isKanaZ c = true := by unfold isKanaZ; exact decide_eq_true (by omega)
    rw [e1]
    clear hv hbd
    go_enter Tryz.func112, Tryz.ntmps112
    go_wp2
    go_ret
    exact ⟨rfl, Below.refl _ _⟩
  · have e1 : isKanaZ c = isMark c.toNat := by unfold isKanaZ isMark; congr 1; exact propext ⟨fun h => by omega, fun h => by omega⟩
    rw [e1]
    clear e1 hv hbd
    generalize isMark c.toNat = m at HC ⊢
    by_cases h1 : 12353 ≤ c
    · have h2 : ¬ c ≤ 12438 := fun h2 => h ⟨h1, h2⟩
      clear h
      go_enter Tryz.func112, Tryz.ntmps112
      go_wp2_with (go_at_call 117; (with_reducible refine (HC.out _).mono ?_); rintro e w1 ⟨rfl, hb⟩)
      go_ret
      exact ⟨rfl, hb⟩
    · clear h
      go_enter Tryz.func112, Tryz.ntmps112
      go_wp2_with (go_at_call 117; (with_reducible refine (HC.out _).mono ?_); rintro e w1 ⟨rfl, hb⟩)
      go_ret
      exact ⟨rfl, hb⟩

theorem kana_good {s : ByteArray} {cs : List Int} (h : chars (bs s) = some cs) : kanaOK (bs s) = (decide (cs.length ≤ 4) && cs.all isKanaZ) := by unfold kanaOK; rw [h]
theorem kana_none {s : ByteArray} (h : chars (bs s) = none) : kanaOK (bs s) = false := by unfold kanaOK; rw [h]
theorem all_take_succ (cs : List Int) (k : Nat) (h : k < cs.length) : (cs.take (k + 1)).all isKanaZ = ((cs.take k).all isKanaZ && isKanaZ (cs.getD k 0)) := by
  rw [List.take_add_one, List.all_append, List.getD_eq_getElem?_getD, List.getElem?_eq_getElem h]
  simp
theorem all_take_bad (cs : List Int) (k : Nat) (h : (cs.take k).all isKanaZ = false) : cs.all isKanaZ = false := by
  cases h2 : cs.all isKanaZ
  · rfl
  · rw [List.all_eq_true] at h2
    have : (cs.take k).all isKanaZ = true := List.all_eq_true.2 fun x hx => h2 x (List.mem_of_mem_take hx)
    rw [this] at h; cases h
theorem ints_at (cs : List Int) (k : Nat) (h : k < cs.length) : (ints cs)[k]? = some (.int .i32 (cs.getD k 0)) := by
  unfold ints
  rw [List.getElem?_map, List.getD_eq_getElem?_getD, List.getElem?_eq_getElem h]
  rfl
theorem getD_mem (cs : List Int) (k : Nat) (h : k < cs.length) : cs.getD k 0 ∈ cs := by
  rw [List.getD_eq_getElem?_getD, List.getElem?_eq_getElem h]
  exact List.getElem_mem h

theorem areKana_any (s : ByteArray) (w : World) (hs : s.size ≤ 274877906944) :
    Calls Tryz.prog 102 #[.string s] w fun e w' => e = .returned (.bool (kanaOK (bs s))) ∧ Below w.heap.size w w' := by
  cases hc : chars (bs s) with
  | none =>
    rw [kana_none hc]
    have HR := Lib.hid (fun w => runes_bad s w (by omega) hc)
    clear hc
    go_enter Tryz.func102, Tryz.ntmps102
    go_wp2_with (go_at_call 33; (with_reducible refine (HR.out _).mono ?_); rintro e w1 ⟨rfl, hb⟩)
    go_ret
    exact ⟨rfl, hb⟩
  | some cs =>
    rw [kana_good hc]
    have hval := Lib.hid (chars_some hc).1
    have HR := Lib.hid (fun w => runes_some s w hs cs hc)
    clear hc
    by_cases h4 : cs.length ≤ 4
    · rw [decide_eq_true h4, Bool.true_and]
      go_enter Tryz.func102, Tryz.ntmps102
      go_wp2_with (go_at_call 33; (with_reducible refine (HR.out _).mono ?_); rintro e w1 ⟨g, cap, rfl, hown, hcap, hb⟩)
      go_loopw [21] (fun i wr => ∃ k : Nat, i = .int .i64 k ∧ k ≤ cs.length ∧ Hid ((cs.take k).all isKanaZ = true) ∧ Below w1.heap.size w1 wr) (fun i _ => cs.length - (intOf i).toNat)
      case atStart => exact ⟨0, rfl, Nat.zero_le _, Lib.hid rfl, Below.refl _ _⟩
      case round =>
        obtain ⟨k, rfl, hk, hok, hbw⟩ := hrel
        by_cases hkl : k < cs.length
        · obtain ⟨g', eg, _, hg, hx, _⟩ := own_cells hown (by omega)
          obtain rfl : g = g' := by simpa using eg
          have hx1 := hx k _ (ints_at cs k hkl)
          rw [← hbw.cell (p := ⟨g, k, none⟩) hg] at hx1
          have hsu := Lib.hid (all_take_succ cs k hkl)
          have HK := isKana_any (cs.getD k 0) (hval.out _ (getD_mem cs k hkl))
          generalize cs.getD k 0 = c at hx1 hsu HK
          clear hx eg
          cases hz : isKanaZ c
          · rw [hz] at HK hsu
            have HK := Lib.hid HK
            have HB := Lib.hid (all_take_bad cs (k + 1) (by rw [hsu.out]; simp))
            clear hz
            go_wp2_with (go_at_call 112; (with_reducible refine (HK.out _).mono ?_); rintro e w2 ⟨rfl, hb2⟩)
            go_ret
            exact ⟨ret_bool HB.out.symm, hb.trans ((hbw.trans (hb2.mono hbw.size)).mono hb.size)⟩
          · rw [hz] at HK hsu
            have HK := Lib.hid HK
            clear hz
            go_wp2_with (go_at_call 112; (with_reducible refine (HK.out _).mono ?_); rintro e w2 ⟨rfl, hb2⟩)
            go_roundw
            case rel => exact ⟨k + 1, by go_num, by omega, Lib.hid (by rw [hsu.out, hok.out]; rfl), hbw.trans (hb2.mono hbw.size)⟩
            case measure => simp [intOf]; omega
        · have e1 := Lib.hid (show cs.all isKanaZ = true by have := hok.out; rwa [List.take_of_length_le (by omega)] at this)
          clear hok
          go_wp2
          go_ret
          exact ⟨ret_bool e1.out.symm, hb.trans (hbw.mono hb.size)⟩
    · rw [decide_eq_false h4, Bool.false_and]
      go_enter Tryz.func102, Tryz.ntmps102
      go_wp2_with (go_at_call 33; (with_reducible refine (HR.out _).mono ?_); rintro e w1 ⟨g, cap, rfl, hown, hcap, hb⟩)
      go_ret
      exact ⟨rfl, hb⟩

end Go.Proofs.YtamdlbefiggkfaaGreat.Rom
