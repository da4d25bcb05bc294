/-
  Contract of the reference's Next: the character whose code begins at an index.
-/
import Derived.Test.YtmbccolkgephgaaUtfF
set_option linter.unusedVariables false
set_option linter.unusedSimpArgs false
namespace Go.Proofs.Ytmbccolkgephgaa.Utf
open Go Go.RowKit Go.Proofs.Ytmbccolkgephgaa.Kit

/-- What Next returns. -/
def nx (l : List UInt8) : Int × Nat := match dec1 l with | none => (0, 0) | some p => p
theorem nx_none {l : List UInt8} (h : dec1 l = none) : nx l = (0, 0) := by unfold nx; rw [h]
theorem nx_some {l : List UInt8} {p : Int × Nat} (h : dec1 l = some p) : nx l = p := by unfold nx; rw [h]

theorem byte_at (s : ByteArray) (at0 i : Nat) (h : at0 + i < s.size) : (s[at0 + i]'h).toNat = bt ((bs s).drop at0) i := by
  have e : (bs s)[at0 + i]? = some (s[at0 + i]'h) := by
    rw [List.getElem?_eq_getElem (by rw [bs_len]; exact h)]; rfl
  unfold bt
  rw [List.getD_eq_getElem?_getD, List.getElem?_drop, e]; rfl

theorem ret_nx {l : List UInt8} {c : Int} {n : Int} (h : nx l = (c, n.toNat)) (hn : 0 ≤ n) : Ending.returned (.tuple #[.int .i32 c, .int .i64 n]) = .returned (.tuple #[.int .i32 (nx l).1, .int .i64 (nx l).2]) := by
  rw [h]; simp only [Int.toNat_of_nonneg hn]

theorem length_is (b : UInt8) (w : World) (n c0 : Nat) (N : Int) (h : lead b.toNat = (n, c0)) (hN : N = n) :
    Calls Try.prog 64 #[.int .u8 b.toNat] w fun e w' => e = .returned (.tuple #[.int .i64 N, .int .i32 c0]) ∧ w = w' := by
  have := length_any b w
  rw [h] at this
  rw [hN]; exact this

theorem character_is (c : Int) (w : World) {b : Bool} (h : validRune c = b) :
    Calls Try.prog 65 #[.int .i32 c] w fun e w' => e = .returned (.bool b) ∧ w = w' := by
  have := character_any c w
  rw [h] at this
  exact this

theorem at_len {s : ByteArray} {at0 : Nat} {l : List UInt8} (hL : (bs s).drop at0 = l) : l.length = s.size - at0 := by rw [← hL, List.length_drop, bs_len]
theorem at_byte {s : ByteArray} {at0 : Nat} {l : List UInt8} (hL : (bs s).drop at0 = l) (i : Nat) (h : at0 + i < s.size) : (s[at0 + i]'h).toNat = bt l i := by rw [← hL]; exact byte_at s at0 i h
theorem conts_more {l : List UInt8} {k : Nat} (h : ∀ j, 1 ≤ j → j < k → isCont l j) (h1 : k < l.length) (h2 : ¬ bt l k < 128) (h3 : ¬ 191 < bt l k) : ∀ j, 1 ≤ j → j < k + 1 → isCont l j := fun j a b => by
  by_cases e : j < k
  · exact h j a e
  · obtain rfl : j = k := by omega
    exact ⟨h1, by omega, by omega⟩
theorem acc_step (l : List UInt8) (c0 k : Nat) (h : 1 ≤ k) : acc l c0 (k + 1 - 1) = 64 * acc l c0 (k - 1) + (bt l k - 128) := by
  obtain ⟨m, rfl⟩ : ∃ m, k = m + 1 := ⟨k - 1, by omega⟩
  rfl

/-- No code begins there: the first byte, or the end of the string. -/
theorem next_short (s : ByteArray) (at0 : Nat) (w : World) (hs : s.size ≤ 1099511627776) (hp : at0 < s.size) (l : List UInt8) (hL : (bs s).drop at0 = l) (n c0 : Nat) (hld : lead (bt l 0) = (n, c0)) (hn : n = 0 ∨ s.size - at0 < n) :
    Calls Try.prog 56 #[.string s, .int .i64 at0] w fun e w' => e = .returned (.tuple #[.int .i32 (nx l).1, .int .i64 (nx l).2]) ∧ Below w.heap.size w w' := by
  have hx : nx l = (0, 0) := by
    have h1 := at_len hL
    rcases hn with rfl | hn
    · exact nx_none (dec1_lead0 hld)
    · exact nx_none (dec1_short hld (by omega) (by omega))
  have HX := Lib.hid hx; clear hx
  have hb1 : (s[at0]'hp).toNat = bt l 0 := at_byte hL 0 (by omega)
  have hlen := length_is (s[at0]'hp) w n c0 n (by rw [hb1]; exact hld) rfl
  rw [hb1] at hlen
  clear hL hld
  by_cases hz : n = 0
  · subst hz
    clear hn
    go_enter Try.func56, Try.ntmps56
    go_wp2_with (go_at_call 64; refine hlen.mono ?_; rintro e w' ⟨rfl, rfl⟩)
    go_ret2
    exact ⟨ret_nx HX.out (by omega), Below.refl _ _⟩
  · have hz1 : ((n : Int) == 0) = false := by simpa using hz
    have hn2 : s.size - at0 < n := by omega
    clear hn
    go_enter Try.func56, Try.ntmps56
    go_wp2_with (go_at_call 64; refine hlen.mono ?_; rintro e w' ⟨rfl, rfl⟩)
    go_ret2
    exact ⟨ret_nx HX.out (by omega), Below.refl _ _⟩

set_option maxRecDepth 100000 in
set_option maxHeartbeats 400000 in
theorem next_1 (s : ByteArray) (at0 : Nat) (w : World) (hs : s.size ≤ 1099511627776) (hp : at0 < s.size) (l : List UInt8) (hL : (bs s).drop at0 = l) (c0 : Nat) (hld : lead (bt l 0) = (1, c0)) (hn : 1 ≤ s.size - at0) :
    Calls Try.prog 56 #[.string s, .int .i64 at0] w fun e w' => e = .returned (.tuple #[.int .i32 (nx l).1, .int .i64 (nx l).2]) ∧ Below w.heap.size w w' := by
  have HL := Lib.hid (at_len hL)
  have hbi := Lib.hid (at_byte hL)
  have hb1 : (s[at0]'hp).toNat = bt l 0 := at_byte hL 0 (by omega)
  have hlen := length_is (s[at0]'hp) w 1 c0 1 (by rw [hb1]; exact hld) rfl
  rw [hb1] at hlen
  have HLD := Lib.hid hld; clear hL hld
  go_enter Try.func56, Try.ntmps56
  go_wp2_with (go_at_call 64; refine hlen.mono ?_; rintro e w' ⟨rfl, rfl⟩)
  clear hlen hb1
  go_loop [7, 8, 9] (fun c i _ => ∃ k : Nat, 1 ≤ k ∧ k ≤ 1 ∧ i = .int .i64 k ∧ c = .int .i32 (acc l c0 (k - 1)) ∧ ∀ j, 1 ≤ j → j < k → isCont l j) (fun _ i _ => 1 - (intOf i).toNat)
  case atStart => exact ⟨1, by omega, by omega, rfl, rfl, fun j h1 h2 => by omega⟩
  case round =>
    obtain ⟨k, hk1, hkn, rfl, rfl, hcs⟩ := hrel
    have HC := Lib.hid hcs; clear hcs
    have hlt : ¬ k < 1 := by omega
    have hkk : k = 1 := by omega
    · have hke := Lib.hid hkk; clear hkk
      obtain ⟨A, hA⟩ : ∃ A, acc l c0 (k - 1) = A := ⟨_, rfl⟩
      have hd : dec1 l = if A < least 1 ∨ validRune (A : Int) = false then none else some ((A : Int), 1) := by
        have hc := HC.out
        rw [hke.out] at hA hc
        rw [← hA]; exact dec1_conts HLD.out (by omega) (by have := HL.out; omega) hc
      rw [hA]
      have HD := Lib.hid hd; clear hd hA
      have hle : (0 : Int) ≤ (A : Int) := by omega
      cases hv : validRune (A : Int) with
      | false =>
        have hx := Lib.hid (nx_none (show dec1 l = none by rw [HD.out, if_pos (.inr hv)]))
        have hch := Lib.hid (fun w => character_is (A : Int) w hv); clear hv
        clear HD HC HLD HL hbi hkn hk1
        obtain ⟨C, hC⟩ : ∃ C : Int, (A : Int) = C := ⟨_, rfl⟩
        simp only [hC] at *
        clear hC
        go_wp2_with (go_at_call 65; (with_reducible refine (hch.out _).mono ?_); clear hch; rintro e w' ⟨rfl, rfl⟩)
        go_ret2
        exact ⟨ret_nx hx.out (by omega), (Below.refl _ _).alloc (Nat.le_refl _) _⟩
      | true =>
        have hx := Lib.hid (nx_some (show dec1 l = some ((A : Int), 1) by rw [HD.out, if_neg (by simp [hv, least] <;> omega)]))
        have hch := Lib.hid (fun w => character_is (A : Int) w hv); clear hv
        clear HD HC HLD HL hbi hkn hk1
        obtain ⟨C, hC⟩ : ∃ C : Int, (A : Int) = C := ⟨_, rfl⟩
        simp only [hC] at *
        clear hC
        go_wp2_with (go_at_call 65; (with_reducible refine (hch.out _).mono ?_); clear hch; rintro e w' ⟨rfl, rfl⟩)
        go_ret2
        exact ⟨ret_nx hx.out (by omega), (Below.refl _ _).alloc (Nat.le_refl _) _⟩

set_option maxRecDepth 100000 in
set_option maxHeartbeats 400000 in
theorem next_2 (s : ByteArray) (at0 : Nat) (w : World) (hs : s.size ≤ 1099511627776) (hp : at0 < s.size) (l : List UInt8) (hL : (bs s).drop at0 = l) (c0 : Nat) (hld : lead (bt l 0) = (2, c0)) (hn : 2 ≤ s.size - at0) :
    Calls Try.prog 56 #[.string s, .int .i64 at0] w fun e w' => e = .returned (.tuple #[.int .i32 (nx l).1, .int .i64 (nx l).2]) ∧ Below w.heap.size w w' := by
  have HL := Lib.hid (at_len hL)
  have hbi := Lib.hid (at_byte hL)
  have hb1 : (s[at0]'hp).toNat = bt l 0 := at_byte hL 0 (by omega)
  have hlen := length_is (s[at0]'hp) w 2 c0 2 (by rw [hb1]; exact hld) rfl
  rw [hb1] at hlen
  have HLD := Lib.hid hld; clear hL hld
  go_enter Try.func56, Try.ntmps56
  go_wp2_with (go_at_call 64; refine hlen.mono ?_; rintro e w' ⟨rfl, rfl⟩)
  clear hlen hb1
  go_loop [7, 8, 9] (fun c i _ => ∃ k : Nat, 1 ≤ k ∧ k ≤ 2 ∧ i = .int .i64 k ∧ c = .int .i32 (acc l c0 (k - 1)) ∧ ∀ j, 1 ≤ j → j < k → isCont l j) (fun _ i _ => 2 - (intOf i).toNat)
  case atStart => exact ⟨1, by omega, by omega, rfl, rfl, fun j h1 h2 => by omega⟩
  case round =>
    obtain ⟨k, hk1, hkn, rfl, rfl, hcs⟩ := hrel
    have HC := Lib.hid hcs; clear hcs
    by_cases hlt : k < 2
    · have hbk := hbi.out k (by omega)
      have q1 := bt_lt l k
      have hac := acc_lt l 2 c0 HLD.out (k - 1) (by omega)
      by_cases hlo : bt l k < 128
      · have hx := Lib.hid (nx_none (dec1_nocont HLD.out hk1 hlt (fun hc => by have := hc.2.1; omega)))
        go_wp2
        go_ret2
        exact ⟨ret_nx hx.out (by omega), Below.refl _ _⟩
      · by_cases hhi : 191 < bt l k
        · have hx := Lib.hid (nx_none (dec1_nocont HLD.out hk1 hlt (fun hc => by have := hc.2.2; omega)))
          go_wp2
          go_ret2
          exact ⟨ret_nx hx.out (by omega), Below.refl _ _⟩
        · have HST := Lib.hid (acc_step l c0 k hk1)
          have hcs2 := Lib.hid (conts_more HC.out (by have := HL.out; omega) hlo hhi)
          obtain ⟨A, hA⟩ : ∃ A, acc l c0 (k - 1) = A := ⟨_, rfl⟩
          obtain ⟨B, hB⟩ : ∃ B, bt l k = B := ⟨_, rfl⟩
          rw [hA] at hac HST ⊢
          rw [hB] at hbk q1 hlo hhi HST
          clear hA hB
          go_wp2
          go_round
          case rel => exact ⟨k + 1, by omega, by omega, by go_num, by rw [HST.out]; go_num, hcs2.out⟩
          case measure => simp [intOf]; omega
    · have hke := Lib.hid (show k = 2 by omega)
      obtain ⟨A, hA⟩ : ∃ A, acc l c0 (k - 1) = A := ⟨_, rfl⟩
      have hd : dec1 l = if A < least 2 ∨ validRune (A : Int) = false then none else some ((A : Int), 2) := by
        have hc := HC.out
        rw [hke.out] at hA hc
        rw [← hA]; exact dec1_conts HLD.out (by omega) (by have := HL.out; omega) hc
      rw [hA]
      have HD := Lib.hid hd; clear hd hA
      by_cases hle : A < 128
      · have hx := Lib.hid (nx_none (show dec1 l = none by rw [HD.out, if_pos (.inl (by simp [least]; omega))]))
        go_wp2
        go_ret2
        exact ⟨ret_nx hx.out (by omega), (Below.refl _ _).alloc (Nat.le_refl _) _⟩
      replace hle : (128 : Int) ≤ (A : Int) := by omega
      cases hv : validRune (A : Int) with
      | false =>
        have hx := Lib.hid (nx_none (show dec1 l = none by rw [HD.out, if_pos (.inr hv)]))
        have hch := Lib.hid (fun w => character_is (A : Int) w hv); clear hv
        clear HD HC HLD HL hbi hkn hk1
        obtain ⟨C, hC⟩ : ∃ C : Int, (A : Int) = C := ⟨_, rfl⟩
        simp only [hC] at *
        clear hC
        go_wp2_with (go_at_call 65; (with_reducible refine (hch.out _).mono ?_); clear hch; rintro e w' ⟨rfl, rfl⟩)
        go_ret2
        exact ⟨ret_nx hx.out (by omega), (Below.refl _ _).alloc (Nat.le_refl _) _⟩
      | true =>
        have hx := Lib.hid (nx_some (show dec1 l = some ((A : Int), 2) by rw [HD.out, if_neg (by simp [hv, least] <;> omega)]))
        have hch := Lib.hid (fun w => character_is (A : Int) w hv); clear hv
        clear HD HC HLD HL hbi hkn hk1
        obtain ⟨C, hC⟩ : ∃ C : Int, (A : Int) = C := ⟨_, rfl⟩
        simp only [hC] at *
        clear hC
        go_wp2_with (go_at_call 65; (with_reducible refine (hch.out _).mono ?_); clear hch; rintro e w' ⟨rfl, rfl⟩)
        go_ret2
        exact ⟨ret_nx hx.out (by omega), (Below.refl _ _).alloc (Nat.le_refl _) _⟩

set_option maxRecDepth 100000 in
set_option maxHeartbeats 400000 in
theorem next_3 (s : ByteArray) (at0 : Nat) (w : World) (hs : s.size ≤ 1099511627776) (hp : at0 < s.size) (l : List UInt8) (hL : (bs s).drop at0 = l) (c0 : Nat) (hld : lead (bt l 0) = (3, c0)) (hn : 3 ≤ s.size - at0) :
    Calls Try.prog 56 #[.string s, .int .i64 at0] w fun e w' => e = .returned (.tuple #[.int .i32 (nx l).1, .int .i64 (nx l).2]) ∧ Below w.heap.size w w' := by
  have HL := Lib.hid (at_len hL)
  have hbi := Lib.hid (at_byte hL)
  have hb1 : (s[at0]'hp).toNat = bt l 0 := at_byte hL 0 (by omega)
  have hlen := length_is (s[at0]'hp) w 3 c0 3 (by rw [hb1]; exact hld) rfl
  rw [hb1] at hlen
  have HLD := Lib.hid hld; clear hL hld
  go_enter Try.func56, Try.ntmps56
  go_wp2_with (go_at_call 64; refine hlen.mono ?_; rintro e w' ⟨rfl, rfl⟩)
  clear hlen hb1
  go_loop [7, 8, 9] (fun c i _ => ∃ k : Nat, 1 ≤ k ∧ k ≤ 3 ∧ i = .int .i64 k ∧ c = .int .i32 (acc l c0 (k - 1)) ∧ ∀ j, 1 ≤ j → j < k → isCont l j) (fun _ i _ => 3 - (intOf i).toNat)
  case atStart => exact ⟨1, by omega, by omega, rfl, rfl, fun j h1 h2 => by omega⟩
  case round =>
    obtain ⟨k, hk1, hkn, rfl, rfl, hcs⟩ := hrel
    have HC := Lib.hid hcs; clear hcs
    by_cases hlt : k < 3
    · have hbk := hbi.out k (by omega)
      have q1 := bt_lt l k
      have hac := acc_lt l 3 c0 HLD.out (k - 1) (by omega)
      by_cases hlo : bt l k < 128
      · have hx := Lib.hid (nx_none (dec1_nocont HLD.out hk1 hlt (fun hc => by have := hc.2.1; omega)))
        go_wp2
        go_ret2
        exact ⟨ret_nx hx.out (by omega), Below.refl _ _⟩
      · by_cases hhi : 191 < bt l k
        · have hx := Lib.hid (nx_none (dec1_nocont HLD.out hk1 hlt (fun hc => by have := hc.2.2; omega)))
          go_wp2
          go_ret2
          exact ⟨ret_nx hx.out (by omega), Below.refl _ _⟩
        · have HST := Lib.hid (acc_step l c0 k hk1)
          have hcs2 := Lib.hid (conts_more HC.out (by have := HL.out; omega) hlo hhi)
          obtain ⟨A, hA⟩ : ∃ A, acc l c0 (k - 1) = A := ⟨_, rfl⟩
          obtain ⟨B, hB⟩ : ∃ B, bt l k = B := ⟨_, rfl⟩
          rw [hA] at hac HST ⊢
          rw [hB] at hbk q1 hlo hhi HST
          clear hA hB
          go_wp2
          go_round
          case rel => exact ⟨k + 1, by omega, by omega, by go_num, by rw [HST.out]; go_num, hcs2.out⟩
          case measure => simp [intOf]; omega
    · have hke := Lib.hid (show k = 3 by omega)
      obtain ⟨A, hA⟩ : ∃ A, acc l c0 (k - 1) = A := ⟨_, rfl⟩
      have hd : dec1 l = if A < least 3 ∨ validRune (A : Int) = false then none else some ((A : Int), 3) := by
        have hc := HC.out
        rw [hke.out] at hA hc
        rw [← hA]; exact dec1_conts HLD.out (by omega) (by have := HL.out; omega) hc
      rw [hA]
      have HD := Lib.hid hd; clear hd hA
      by_cases hle : A < 2048
      · have hx := Lib.hid (nx_none (show dec1 l = none by rw [HD.out, if_pos (.inl (by simp [least]; omega))]))
        go_wp2
        go_ret2
        exact ⟨ret_nx hx.out (by omega), (Below.refl _ _).alloc (Nat.le_refl _) _⟩
      replace hle : (2048 : Int) ≤ (A : Int) := by omega
      cases hv : validRune (A : Int) with
      | false =>
        have hx := Lib.hid (nx_none (show dec1 l = none by rw [HD.out, if_pos (.inr hv)]))
        have hch := Lib.hid (fun w => character_is (A : Int) w hv); clear hv
        clear HD HC HLD HL hbi hkn hk1
        obtain ⟨C, hC⟩ : ∃ C : Int, (A : Int) = C := ⟨_, rfl⟩
        simp only [hC] at *
        clear hC
        go_wp2_with (go_at_call 65; (with_reducible refine (hch.out _).mono ?_); clear hch; rintro e w' ⟨rfl, rfl⟩)
        go_ret2
        exact ⟨ret_nx hx.out (by omega), (Below.refl _ _).alloc (Nat.le_refl _) _⟩
      | true =>
        have hx := Lib.hid (nx_some (show dec1 l = some ((A : Int), 3) by rw [HD.out, if_neg (by simp [hv, least] <;> omega)]))
        have hch := Lib.hid (fun w => character_is (A : Int) w hv); clear hv
        clear HD HC HLD HL hbi hkn hk1
        obtain ⟨C, hC⟩ : ∃ C : Int, (A : Int) = C := ⟨_, rfl⟩
        simp only [hC] at *
        clear hC
        go_wp2_with (go_at_call 65; (with_reducible refine (hch.out _).mono ?_); clear hch; rintro e w' ⟨rfl, rfl⟩)
        go_ret2
        exact ⟨ret_nx hx.out (by omega), (Below.refl _ _).alloc (Nat.le_refl _) _⟩

set_option maxRecDepth 100000 in
set_option maxHeartbeats 400000 in
theorem next_4 (s : ByteArray) (at0 : Nat) (w : World) (hs : s.size ≤ 1099511627776) (hp : at0 < s.size) (l : List UInt8) (hL : (bs s).drop at0 = l) (c0 : Nat) (hld : lead (bt l 0) = (4, c0)) (hn : 4 ≤ s.size - at0) :
    Calls Try.prog 56 #[.string s, .int .i64 at0] w fun e w' => e = .returned (.tuple #[.int .i32 (nx l).1, .int .i64 (nx l).2]) ∧ Below w.heap.size w w' := by
  have HL := Lib.hid (at_len hL)
  have hbi := Lib.hid (at_byte hL)
  have hb1 : (s[at0]'hp).toNat = bt l 0 := at_byte hL 0 (by omega)
  have hlen := length_is (s[at0]'hp) w 4 c0 4 (by rw [hb1]; exact hld) rfl
  rw [hb1] at hlen
  have HLD := Lib.hid hld; clear hL hld
  go_enter Try.func56, Try.ntmps56
  go_wp2_with (go_at_call 64; refine hlen.mono ?_; rintro e w' ⟨rfl, rfl⟩)
  clear hlen hb1
  go_loop [7, 8, 9] (fun c i _ => ∃ k : Nat, 1 ≤ k ∧ k ≤ 4 ∧ i = .int .i64 k ∧ c = .int .i32 (acc l c0 (k - 1)) ∧ ∀ j, 1 ≤ j → j < k → isCont l j) (fun _ i _ => 4 - (intOf i).toNat)
  case atStart => exact ⟨1, by omega, by omega, rfl, rfl, fun j h1 h2 => by omega⟩
  case round =>
    obtain ⟨k, hk1, hkn, rfl, rfl, hcs⟩ := hrel
    have HC := Lib.hid hcs; clear hcs
    by_cases hlt : k < 4
    · have hbk := hbi.out k (by omega)
      have q1 := bt_lt l k
      have hac := acc_lt l 4 c0 HLD.out (k - 1) (by omega)
      by_cases hlo : bt l k < 128
      · have hx := Lib.hid (nx_none (dec1_nocont HLD.out hk1 hlt (fun hc => by have := hc.2.1; omega)))
        go_wp2
        go_ret2
        exact ⟨ret_nx hx.out (by omega), Below.refl _ _⟩
      · by_cases hhi : 191 < bt l k
        · have hx := Lib.hid (nx_none (dec1_nocont HLD.out hk1 hlt (fun hc => by have := hc.2.2; omega)))
          go_wp2
          go_ret2
          exact ⟨ret_nx hx.out (by omega), Below.refl _ _⟩
        · have HST := Lib.hid (acc_step l c0 k hk1)
          have hcs2 := Lib.hid (conts_more HC.out (by have := HL.out; omega) hlo hhi)
          obtain ⟨A, hA⟩ : ∃ A, acc l c0 (k - 1) = A := ⟨_, rfl⟩
          obtain ⟨B, hB⟩ : ∃ B, bt l k = B := ⟨_, rfl⟩
          rw [hA] at hac HST ⊢
          rw [hB] at hbk q1 hlo hhi HST
          clear hA hB
          go_wp2
          go_round
          case rel => exact ⟨k + 1, by omega, by omega, by go_num, by rw [HST.out]; go_num, hcs2.out⟩
          case measure => simp [intOf]; omega
    · have hke := Lib.hid (show k = 4 by omega)
      obtain ⟨A, hA⟩ : ∃ A, acc l c0 (k - 1) = A := ⟨_, rfl⟩
      have hd : dec1 l = if A < least 4 ∨ validRune (A : Int) = false then none else some ((A : Int), 4) := by
        have hc := HC.out
        rw [hke.out] at hA hc
        rw [← hA]; exact dec1_conts HLD.out (by omega) (by have := HL.out; omega) hc
      rw [hA]
      have HD := Lib.hid hd; clear hd hA
      by_cases hle : A < 65536
      · have hx := Lib.hid (nx_none (show dec1 l = none by rw [HD.out, if_pos (.inl (by simp [least]; omega))]))
        go_wp2
        go_ret2
        exact ⟨ret_nx hx.out (by omega), (Below.refl _ _).alloc (Nat.le_refl _) _⟩
      replace hle : (65536 : Int) ≤ (A : Int) := by omega
      cases hv : validRune (A : Int) with
      | false =>
        have hx := Lib.hid (nx_none (show dec1 l = none by rw [HD.out, if_pos (.inr hv)]))
        have hch := Lib.hid (fun w => character_is (A : Int) w hv); clear hv
        clear HD HC HLD HL hbi hkn hk1
        obtain ⟨C, hC⟩ : ∃ C : Int, (A : Int) = C := ⟨_, rfl⟩
        simp only [hC] at *
        clear hC
        go_wp2_with (go_at_call 65; (with_reducible refine (hch.out _).mono ?_); clear hch; rintro e w' ⟨rfl, rfl⟩)
        go_ret2
        exact ⟨ret_nx hx.out (by omega), (Below.refl _ _).alloc (Nat.le_refl _) _⟩
      | true =>
        have hx := Lib.hid (nx_some (show dec1 l = some ((A : Int), 4) by rw [HD.out, if_neg (by simp [hv, least] <;> omega)]))
        have hch := Lib.hid (fun w => character_is (A : Int) w hv); clear hv
        clear HD HC HLD HL hbi hkn hk1
        obtain ⟨C, hC⟩ : ∃ C : Int, (A : Int) = C := ⟨_, rfl⟩
        simp only [hC] at *
        clear hC
        go_wp2_with (go_at_call 65; (with_reducible refine (hch.out _).mono ?_); clear hch; rintro e w' ⟨rfl, rfl⟩)
        go_ret2
        exact ⟨ret_nx hx.out (by omega), (Below.refl _ _).alloc (Nat.le_refl _) _⟩

theorem next_any (s : ByteArray) (at0 : Nat) (w : World) (hs : s.size ≤ 1099511627776) (hp : at0 < s.size) :
    Calls Try.prog 56 #[.string s, .int .i64 at0] w fun e w' => e = .returned (.tuple #[.int .i32 (nx ((bs s).drop at0)).1, .int .i64 (nx ((bs s).drop at0)).2]) ∧ Below w.heap.size w w' := by
  obtain ⟨⟨n, c0⟩, hld⟩ : ∃ p, lead (bt ((bs s).drop at0) 0) = p := ⟨_, rfl⟩
  by_cases h : n = 0 ∨ s.size - at0 < n
  · exact next_short s at0 w hs hp _ rfl n c0 hld h
  · rcases lead_cases _ _ _ hld with ⟨rfl, _⟩ | ⟨rfl, _⟩ | ⟨rfl, _⟩ | ⟨rfl, _⟩ | ⟨rfl, _⟩
    · exact next_1 s at0 w hs hp _ rfl c0 hld (by omega)
    · exact next_2 s at0 w hs hp _ rfl c0 hld (by omega)
    · exact next_3 s at0 w hs hp _ rfl c0 hld (by omega)
    · exact next_4 s at0 w hs hp _ rfl c0 hld (by omega)
    · omega

end Go.Proofs.Ytmbccolkgephgaa.Utf
