/-
  Joined texts: UtfMathB, UtfF, UtfG, UtfH, Kit2, Kit3.
-/
import Derived.Test.YtlmbbpppfghcbaaM1
import Derived.Test.YtlmbbpppfghcbaaM2
import Derived.OneCell
set_option linter.unusedVariables false
set_option linter.unusedSimpArgs false
namespace Go.Proofs.Ytlmbbpppfghcbaa.Utf
open Go

/-- How many bytes a code has by its first byte, and the bits of the character in it. -/
def lead (b : Nat) : Nat × Nat := if b < 128 then (1, b) else if 192 ≤ b ∧ b < 224 then (2, b - 192) else if 224 ≤ b ∧ b < 240 then (3, b - 224) else if 240 ≤ b ∧ b < 248 then (4, b - 240) else (0, 0)

/-- The bits of the first bytes. -/
def acc (l : List UInt8) (c0 : Nat) : Nat → Nat
  | 0 => c0
  | k + 1 => 64 * acc l c0 k + (bt l (k + 1) - 128)
def isCont (l : List UInt8) (k : Nat) : Prop := k < l.length ∧ 128 ≤ bt l k ∧ bt l k ≤ 191
def least (n : Nat) : Nat := if n ≤ 1 then 0 else if n = 2 then 128 else if n = 3 then 2048 else 65536

theorem lead_cases (b n c0 : Nat) (h : lead b = (n, c0)) : (n = 1 ∧ b < 128 ∧ c0 = b) ∨ (n = 2 ∧ 192 ≤ b ∧ b < 224 ∧ c0 = b - 192) ∨ (n = 3 ∧ 224 ≤ b ∧ b < 240 ∧ c0 = b - 224) ∨ (n = 4 ∧ 240 ≤ b ∧ b < 248 ∧ c0 = b - 240) ∨ (n = 0 ∧ c0 = 0 ∧ ((128 ≤ b ∧ b < 192) ∨ 248 ≤ b)) := by
  unfold lead at h
  split at h
  · obtain ⟨h1, h2⟩ := Prod.mk.inj h; left; omega
  · split at h
    · obtain ⟨h1, h2⟩ := Prod.mk.inj h; right; left; omega
    · split at h
      · obtain ⟨h1, h2⟩ := Prod.mk.inj h; right; right; left; omega
      · split at h
        · obtain ⟨h1, h2⟩ := Prod.mk.inj h; right; right; right; left; omega
        · obtain ⟨h1, h2⟩ := Prod.mk.inj h; right; right; right; right; omega

theorem acc_lt (l : List UInt8) (n c0 : Nat) (h : lead (bt l 0) = (n, c0)) (i : Nat) (hi : i < n) : acc l c0 i < 4194304 := by
  have s : ∀ k, acc l c0 (k + 1) ≤ 64 * acc l c0 k + 127 := by
    intro k
    have := bt_lt l (k + 1)
    show 64 * acc l c0 k + (bt l (k + 1) - 128) ≤ _
    omega
  have s0 : acc l c0 1 ≤ 64 * acc l c0 0 + 127 := s 0
  have s1 : acc l c0 2 ≤ 64 * acc l c0 1 + 127 := s 1
  have s2 : acc l c0 3 ≤ 64 * acc l c0 2 + 127 := s 2
  have a0 : acc l c0 0 = c0 := rfl
  obtain rfl | rfl | rfl | rfl | h4 : i = 0 ∨ i = 1 ∨ i = 2 ∨ i = 3 ∨ 4 ≤ i := by omega
  all_goals
    rcases lead_cases _ _ _ h with ⟨rfl, _, _⟩ | ⟨rfl, _, _, _⟩ | ⟨rfl, _, _, _⟩ | ⟨rfl, _, _, _⟩ | ⟨rfl, _, _⟩ <;> omega

theorem dec1_none_of {l : List UInt8} (h : l = [] ∨ decL l = (65533, 1)) : dec1 l = none := by
  unfold dec1
  rcases h with h | h
  · rw [if_pos h]
  · by_cases hl : l = []
    · rw [if_pos hl]
    · rw [if_neg hl, if_pos h]

theorem cont_iff (l : List UInt8) (k : Nat) : (decide (k < l.length) && bt l k / 64 == 2) = true ↔ isCont l k := by
  have := bt_lt l k
  unfold isCont
  simp only [Bool.and_eq_true, decide_eq_true_eq, beq_iff_eq]
  omega

/-- No code begins with such a byte. -/
theorem dec1_lead0 {l : List UInt8} {c0 : Nat} (h : lead (bt l 0) = (0, c0)) : dec1 l = none := by
  apply dec1_none_of
  right
  have q0 := bt_lt l 0
  rcases lead_cases _ _ _ h with ⟨h0, _⟩ | ⟨h0, _⟩ | ⟨h0, _⟩ | ⟨h0, _⟩ | ⟨_, _, h1⟩ <;> first | omega | skip
  simp only [decL]
  rw [if_neg (by omega), if_neg (by simp; omega), if_neg (by simp; omega), if_neg (by simp; omega)]

/-- A byte that should follow is not there, or is none that follows. -/
theorem dec1_nocont {l : List UInt8} {n c0 i : Nat} (h : lead (bt l 0) = (n, c0)) (h1 : 1 ≤ i) (hi : i < n) (hc : ¬ isCont l i) : dec1 l = none := by
  apply dec1_none_of
  right
  have q0 := bt_lt l 0
  have hc' : (decide (i < l.length) && bt l i / 64 == 2) = false := by
    rw [Bool.eq_false_iff]; intro e; exact hc ((cont_iff l i).1 e)
  rcases lead_cases _ _ _ h with ⟨rfl, _, _⟩ | ⟨rfl, _, _, _⟩ | ⟨rfl, _, _, _⟩ | ⟨rfl, _, _, _⟩ | ⟨rfl, _, _⟩
  · omega
  · obtain rfl : i = 1 := by omega
    simp only [decL, hc']
    rw [if_neg (by omega), if_neg (by simp), if_neg (by simp), if_neg (by simp)]
  · obtain rfl | rfl : i = 1 ∨ i = 2 := by omega
    all_goals
      simp only [decL, hc']
      rw [if_neg (by omega), if_neg (by simp <;> omega), if_neg (by simp), if_neg (by simp)]
  · obtain rfl | rfl | rfl : i = 1 ∨ i = 2 ∨ i = 3 := by omega
    all_goals
      simp only [decL, hc']
      rw [if_neg (by omega), if_neg (by simp <;> omega), if_neg (by simp <;> omega), if_neg (by simp)]
  · omega

theorem dec1_short {l : List UInt8} {n c0 : Nat} (h : lead (bt l 0) = (n, c0)) (hl : 0 < l.length) (hn : l.length < n) : dec1 l = none :=
  dec1_nocont h (i := l.length) hl hn (fun hc => by have := hc.1; omega)

theorem dec1_conts {l : List UInt8} {n c0 : Nat} (h : lead (bt l 0) = (n, c0)) (hn0 : n ≠ 0) (hn : n ≤ l.length) (hc : ∀ i, 1 ≤ i → i < n → isCont l i) :
    dec1 l = if acc l c0 (n - 1) < least n ∨ validRune ((acc l c0 (n - 1) : Nat) : Int) = false then none else some (((acc l c0 (n - 1) : Nat) : Int), n) := by
  have q0 := bt_lt l 0
  have hne : l ≠ [] := by intro e; subst e; simp at hn; omega
  rcases lead_cases _ _ _ h with ⟨rfl, h1, e0⟩ | ⟨rfl, h1, h2, e0⟩ | ⟨rfl, h1, h2, e0⟩ | ⟨rfl, h1, h2, e0⟩ | ⟨rfl, _, _⟩
  · have hv : validRune ((bt l 0 : Nat) : Int) = true := (valid_iff _).2 (by omega)
    have hd : decL l = (bt l 0, 1) := by simp only [decL]; rw [if_pos (by omega)]
    have ha : acc l c0 (1 - 1) = bt l 0 := e0
    rw [ha, if_neg (by simp [least, hv])]
    unfold dec1
    rw [if_neg hne, hd, if_neg (by intro e; have := (Prod.mk.inj e).1; omega)]
  · have c1 := hc 1 (by omega) (by omega)
    have d1 := (cont_iff l 1).2 c1
    have g1 := c1.2
    have ha : acc l c0 (2 - 1) = bt l 0 % 32 * 64 + bt l 1 % 64 := by show 64 * c0 + (bt l 1 - 128) = _; omega
    rw [ha]
    have hv : validRune ((bt l 0 % 32 * 64 + bt l 1 % 64 : Nat) : Int) = true := (valid_iff _).2 (by omega)
    obtain ⟨c, hcc⟩ : ∃ c, bt l 0 % 32 * 64 + bt l 1 % 64 = c := ⟨_, rfl⟩
    have hd : decL l = if 128 ≤ c then (c, 2) else (65533, 1) := by
      simp only [decL]
      rw [if_neg (by omega), if_pos (by rw [d1]; simp; omega), hcc]
    rw [hcc] at hv ⊢
    unfold dec1
    rw [if_neg hne, hd]
    by_cases hk : 128 ≤ c
    · rw [if_pos hk, if_neg (by intro e; have := (Prod.mk.inj e).2; omega), if_neg (by simp [least, hv]; omega)]
    · rw [if_neg hk, if_pos rfl, if_pos (by simp [least]; omega)]
  · have c1 := hc 1 (by omega) (by omega)
    have c2 := hc 2 (by omega) (by omega)
    have d1 := (cont_iff l 1).2 c1
    have d2 := (cont_iff l 2).2 c2
    have g1 := c1.2
    have g2 := c2.2
    have ha : acc l c0 (3 - 1) = bt l 0 % 16 * 4096 + bt l 1 % 64 * 64 + bt l 2 % 64 := by show 64 * (64 * c0 + (bt l 1 - 128)) + (bt l 2 - 128) = _; omega
    rw [ha]
    obtain ⟨c, hcc⟩ : ∃ c, bt l 0 % 16 * 4096 + bt l 1 % 64 * 64 + bt l 2 % 64 = c := ⟨_, rfl⟩
    have hd : decL l = if 2048 ≤ c ∧ validRune (c : Int) = true then (c, 3) else (65533, 1) := by
      simp only [decL]
      rw [if_neg (by omega), if_neg (by simp; omega), if_pos (by rw [d1, d2]; simp; omega), hcc, validRune_eq]
      simp only [Bool.and_eq_true, decide_eq_true_eq, ge_iff_le]
    rw [hcc]
    unfold dec1
    rw [if_neg hne, hd]
    by_cases hk : 2048 ≤ c ∧ validRune (c : Int) = true
    · rw [if_pos hk, if_neg (by intro e; have := (Prod.mk.inj e).2; omega), if_neg (by simp [least, hk.2]; omega)]
    · rw [if_neg hk, if_pos rfl, if_pos (by
        by_cases hv : validRune (c : Int) = true
        · left; simp [least]; simp [hv] at hk; omega
        · right; simpa using hv)]
  · have c1 := hc 1 (by omega) (by omega)
    have c2 := hc 2 (by omega) (by omega)
    have c3 := hc 3 (by omega) (by omega)
    have d1 := (cont_iff l 1).2 c1
    have d2 := (cont_iff l 2).2 c2
    have d3 := (cont_iff l 3).2 c3
    have g1 := c1.2
    have g2 := c2.2
    have g3 := c3.2
    have ha : acc l c0 (4 - 1) = bt l 0 % 8 * 262144 + bt l 1 % 64 * 4096 + bt l 2 % 64 * 64 + bt l 3 % 64 := by show 64 * (64 * (64 * c0 + (bt l 1 - 128)) + (bt l 2 - 128)) + (bt l 3 - 128) = _; omega
    rw [ha]
    obtain ⟨c, hcc⟩ : ∃ c, bt l 0 % 8 * 262144 + bt l 1 % 64 * 4096 + bt l 2 % 64 * 64 + bt l 3 % 64 = c := ⟨_, rfl⟩
    have hd : decL l = if 65536 ≤ c ∧ validRune (c : Int) = true then (c, 4) else (65533, 1) := by
      simp only [decL]
      rw [if_neg (by omega), if_neg (by simp; omega), if_neg (by simp; omega), if_pos (by rw [d1, d2, d3]; simp; omega), hcc, validRune_eq]
      simp only [Bool.and_eq_true, decide_eq_true_eq, ge_iff_le]
    rw [hcc]
    unfold dec1
    rw [if_neg hne, hd]
    by_cases hk : 65536 ≤ c ∧ validRune (c : Int) = true
    · rw [if_pos hk, if_neg (by intro e; have := (Prod.mk.inj e).2; omega), if_neg (by simp [least, hk.2]; omega)]
    · rw [if_neg hk, if_pos rfl, if_pos (by
        by_cases hv : validRune (c : Int) = true
        · left; simp [least]; simp [hv] at hk; omega
        · right; simpa using hv)]
  · omega

end Go.Proofs.Ytlmbbpppfghcbaa.Utf

set_option linter.unusedVariables false
set_option linter.unusedSimpArgs false
namespace Go.Proofs.Ytlmbbpppfghcbaa.Utf
open Go Go.RowKit Go.Proofs.Ytlmbbpppfghcbaa.Kit

theorem ret_len {a b c d : Int} (h1 : a = b) (h2 : c = d) : Ending.returned (.tuple #[.int .i64 a, .int .i32 c]) = .returned (.tuple #[.int .i64 b, .int .i32 d]) := by rw [h1, h2]

set_option maxRecDepth 100000 in
theorem length_any (b : UInt8) (w : World) :
    Calls Try.prog 98 #[.int .u8 b.toNat] w fun e w' => e = .returned (.tuple #[.int .i64 (lead b.toNat).1, .int .i32 (lead b.toNat).2]) ∧ w = w' := by
  have hb := b.toNat_lt
  obtain ⟨n, hn⟩ : ∃ n, b.toNat = n := ⟨_, rfl⟩
  rw [hn] at hb ⊢
  clear hn
  have hl : lead n = if n < 128 then (1, n) else if 192 ≤ n ∧ n < 224 then (2, n - 192) else if 224 ≤ n ∧ n < 240 then (3, n - 224) else if 240 ≤ n ∧ n < 248 then (4, n - 240) else (0, 0) := rfl
  have H := Lib.hid hl; clear hl
  by_cases h1 : n < 128 <;> by_cases h2 : 192 ≤ n <;> by_cases h3 : n < 224 <;> by_cases h4 : 224 ≤ n <;> by_cases h5 : n < 240 <;> by_cases h6 : 240 ≤ n <;> by_cases h7 : n < 248 <;> first | (exfalso; omega) | skip
  all_goals
    go_enter Try.func98, Try.ntmps98
    go_wp2
    go_ret2
    refine ⟨ret_len ?_ ?_, rfl⟩ <;> rw [H.out] <;> repeat (first | rw [if_pos (by omega)] | rw [if_neg (by omega)])
    all_goals (first | rfl | (show _ = ((n - _ : Nat) : Int); omega))

end Go.Proofs.Ytlmbbpppfghcbaa.Utf

set_option linter.unusedVariables false
set_option linter.unusedSimpArgs false
namespace Go.Proofs.Ytlmbbpppfghcbaa.Utf
open Go Go.RowKit Go.Proofs.Ytlmbbpppfghcbaa.Kit

/-- What Next returns. -/
def nx (l : List UInt8) : Int × Nat := match dec1 l with | none => (0, 0) | some p => p
theorem nx_none {l : List UInt8} (h : dec1 l = none) : nx l = (0, 0) := by unfold nx; rw [h]
theorem nx_some {l : List UInt8} {p : Int × Nat} (h : dec1 l = some p) : nx l = p := by unfold nx; rw [h]

theorem byte_at (s : ByteArray) (at0 i : Nat) (h : at0 + i < s.size) : (s[at0 + i]'h).toNat = bt ((bs s).drop at0) i := by
  have e : (bs s)[at0 + i]? = some (s[at0 + i]'h) := by
    rw [List.getElem?_eq_getElem (by rw [bs_len]; exact h)]; rfl
  unfold bt
  rw [List.getD_eq_getElem?_getD, List.getElem?_drop, e]; rfl

theorem ret_nx {l : List UInt8} {c : Int} {n : Int} (h : nx l = (c, n.toNat)) (hn : 0 ≤ n) : Ending.returned (.tuple #[.int .i32 c, .int .i64 n]) = .returned (.tuple #[.int .i32 (nx l).1, .int .i64 (nx l).2]) := by
  rw [h]; simp only [Int.toNat_of_nonneg hn]

theorem length_is (b : UInt8) (w : World) (n c0 : Nat) (N : Int) (h : lead b.toNat = (n, c0)) (hN : N = n) :
    Calls Try.prog 98 #[.int .u8 b.toNat] w fun e w' => e = .returned (.tuple #[.int .i64 N, .int .i32 c0]) ∧ w = w' := by
  have := length_any b w
  rw [h] at this
  rw [hN]; exact this

theorem character_is (c : Int) (w : World) {b : Bool} (h : validRune c = b) :
    Calls Try.prog 99 #[.int .i32 c] w fun e w' => e = .returned (.bool b) ∧ w = w' := by
  have := character_any c w
  rw [h] at this
  exact this

theorem at_len {s : ByteArray} {at0 : Nat} {l : List UInt8} (hL : (bs s).drop at0 = l) : l.length = s.size - at0 := by rw [← hL, List.length_drop, bs_len]
theorem at_byte {s : ByteArray} {at0 : Nat} {l : List UInt8} (hL : (bs s).drop at0 = l) (i : Nat) (h : at0 + i < s.size) : (s[at0 + i]'h).toNat = bt l i := by rw [← hL]; exact byte_at s at0 i h
theorem conts_more {l : List UInt8} {k : Nat} (h : ∀ j, 1 ≤ j → j < k → isCont l j) (h1 : k < l.length) (h2 : ¬ bt l k < 128) (h3 : ¬ 191 < bt l k) : ∀ j, 1 ≤ j → j < k + 1 → isCont l j := fun j a b => by
  by_cases e : j < k
  · exact h j a e
  · obtain rfl : j = k := by omega
    exact ⟨h1, by omega, by omega⟩
theorem acc_step (l : List UInt8) (c0 k : Nat) (h : 1 ≤ k) : acc l c0 (k + 1 - 1) = 64 * acc l c0 (k - 1) + (bt l k - 128) := by
  obtain ⟨m, rfl⟩ : ∃ m, k = m + 1 := ⟨k - 1, by omega⟩
  rfl

/-- No code begins there: the first byte, or the end of the string. -/
theorem next_short (s : ByteArray) (at0 : Nat) (w : World) (hs : s.size ≤ 1099511627776) (hp : at0 < s.size) (l : List UInt8) (hL : (bs s).drop at0 = l) (n c0 : Nat) (hld : lead (bt l 0) = (n, c0)) (hn : n = 0 ∨ s.size - at0 < n) :
    Calls Try.prog 75 #[.string s, .int .i64 at0] w fun e w' => e = .returned (.tuple #[.int .i32 (nx l).1, .int .i64 (nx l).2]) ∧ Below w.heap.size w w' := by
  have hx : nx l = (0, 0) := by
    have h1 := at_len hL
    rcases hn with rfl | hn
    · exact nx_none (dec1_lead0 hld)
    · exact nx_none (dec1_short hld (by omega) (by omega))
  have HX := Lib.hid hx; clear hx
  have hb1 : (s[at0]'hp).toNat = bt l 0 := at_byte hL 0 (by omega)
  have hlen := length_is (s[at0]'hp) w n c0 n (by rw [hb1]; exact hld) rfl
  rw [hb1] at hlen
  clear hL hld
  by_cases hz : n = 0
  · subst hz
    clear hn
    go_enter Try.func75, Try.ntmps75
    go_wp2_with (go_at_call 98; refine hlen.mono ?_; rintro e w' ⟨rfl, rfl⟩)
    go_ret2
    exact ⟨ret_nx HX.out (by omega), Below.refl _ _⟩
  · have hz1 : ((n : Int) == 0) = false := by simpa using hz
    have hn2 : s.size - at0 < n := by omega
    clear hn
    go_enter Try.func75, Try.ntmps75
    go_wp2_with (go_at_call 98; refine hlen.mono ?_; rintro e w' ⟨rfl, rfl⟩)
    go_ret2
    exact ⟨ret_nx HX.out (by omega), Below.refl _ _⟩

set_option maxRecDepth 100000 in
set_option maxHeartbeats 400000 in
theorem next_1 (s : ByteArray) (at0 : Nat) (w : World) (hs : s.size ≤ 1099511627776) (hp : at0 < s.size) (l : List UInt8) (hL : (bs s).drop at0 = l) (c0 : Nat) (hld : lead (bt l 0) = (1, c0)) (hn : 1 ≤ s.size - at0) :
    Calls Try.prog 75 #[.string s, .int .i64 at0] w fun e w' => e = .returned (.tuple #[.int .i32 (nx l).1, .int .i64 (nx l).2]) ∧ Below w.heap.size w w' := by
  have HL := Lib.hid (at_len hL)
  have hbi := Lib.hid (at_byte hL)
  have hb1 : (s[at0]'hp).toNat = bt l 0 := at_byte hL 0 (by omega)
  have hlen := length_is (s[at0]'hp) w 1 c0 1 (by rw [hb1]; exact hld) rfl
  rw [hb1] at hlen
  have HLD := Lib.hid hld; clear hL hld
  go_enter Try.func75, Try.ntmps75
  go_wp2_with (go_at_call 98; refine hlen.mono ?_; rintro e w' ⟨rfl, rfl⟩)
  clear hlen hb1
  go_loop [7, 8, 9] (fun c i _ => ∃ k : Nat, 1 ≤ k ∧ k ≤ 1 ∧ i = .int .i64 k ∧ c = .int .i32 (acc l c0 (k - 1)) ∧ ∀ j, 1 ≤ j → j < k → isCont l j) (fun _ i _ => 1 - (intOf i).toNat)
  case atStart => exact ⟨1, by omega, by omega, rfl, rfl, fun j h1 h2 => by omega⟩
  case round =>
    obtain ⟨k, hk1, hkn, rfl, rfl, hcs⟩ := hrel
    have HC := Lib.hid hcs; clear hcs
    have hlt : ¬ k < 1 := by omega
    have hkk : k = 1 := by omega
    · have hke := Lib.hid hkk; clear hkk
      obtain ⟨A, hA⟩ : ∃ A, acc l c0 (k - 1) = A := ⟨_, rfl⟩
      have hd : dec1 l = if A < least 1 ∨ validRune (A : Int) = false then none else some ((A : Int), 1) := by
        have hc := HC.out
        rw [hke.out] at hA hc
        rw [← hA]; exact dec1_conts HLD.out (by omega) (by have := HL.out; omega) hc
      rw [hA]
      have HD := Lib.hid hd; clear hd hA
      have hle : (0 : Int) ≤ (A : Int) := by omega
      cases hv : validRune (A : Int) with
      | false =>
        have hx := Lib.hid (nx_none (show dec1 l = none by rw [HD.out, if_pos (.inr hv)]))
        have hch := Lib.hid (fun w => character_is (A : Int) w hv); clear hv
        clear HD HC HLD HL hbi hkn hk1
        obtain ⟨C, hC⟩ : ∃ C : Int, (A : Int) = C := ⟨_, rfl⟩
        simp only [hC] at *
        clear hC
        go_wp2_with (go_at_call 99; (with_reducible refine (hch.out _).mono ?_); clear hch; rintro e w' ⟨rfl, rfl⟩)
        go_ret2
        exact ⟨ret_nx hx.out (by omega), (Below.refl _ _).alloc (Nat.le_refl _) _⟩
      | true =>
        have hx := Lib.hid (nx_some (show dec1 l = some ((A : Int), 1) by rw [HD.out, if_neg (by simp [hv, least] <;> omega)]))
        have hch := Lib.hid (fun w => character_is (A : Int) w hv); clear hv
        clear HD HC HLD HL hbi hkn hk1
        obtain ⟨C, hC⟩ : ∃ C : Int, (A : Int) = C := ⟨_, rfl⟩
        simp only [hC] at *
        clear hC
        go_wp2_with (go_at_call 99; (with_reducible refine (hch.out _).mono ?_); clear hch; rintro e w' ⟨rfl, rfl⟩)
        go_ret2
        exact ⟨ret_nx hx.out (by omega), (Below.refl _ _).alloc (Nat.le_refl _) _⟩

set_option maxRecDepth 100000 in
set_option maxHeartbeats 400000 in
theorem next_2 (s : ByteArray) (at0 : Nat) (w : World) (hs : s.size ≤ 1099511627776) (hp : at0 < s.size) (l : List UInt8) (hL : (bs s).drop at0 = l) (c0 : Nat) (hld : lead (bt l 0) = (2, c0)) (hn : 2 ≤ s.size - at0) :
    Calls Try.prog 75 #[.string s, .int .i64 at0] w fun e w' => e = .returned (.tuple #[.int .i32 (nx l).1, .int .i64 (nx l).2]) ∧ Below w.heap.size w w' := by
  have HL := Lib.hid (at_len hL)
  have hbi := Lib.hid (at_byte hL)
  have hb1 : (s[at0]'hp).toNat = bt l 0 := at_byte hL 0 (by omega)
  have hlen := length_is (s[at0]'hp) w 2 c0 2 (by rw [hb1]; exact hld) rfl
  rw [hb1] at hlen
  have HLD := Lib.hid hld; clear hL hld
  go_enter Try.func75, Try.ntmps75
  go_wp2_with (go_at_call 98; refine hlen.mono ?_; rintro e w' ⟨rfl, rfl⟩)
  clear hlen hb1
  go_loop [7, 8, 9] (fun c i _ => ∃ k : Nat, 1 ≤ k ∧ k ≤ 2 ∧ i = .int .i64 k ∧ c = .int .i32 (acc l c0 (k - 1)) ∧ ∀ j, 1 ≤ j → j < k → isCont l j) (fun _ i _ => 2 - (intOf i).toNat)
  case atStart => exact ⟨1, by omega, by omega, rfl, rfl, fun j h1 h2 => by omega⟩
  case round =>
    obtain ⟨k, hk1, hkn, rfl, rfl, hcs⟩ := hrel
    have HC := Lib.hid hcs; clear hcs
    by_cases hlt : k < 2
    · have hbk := hbi.out k (by omega)
      have q1 := bt_lt l k
      have hac := acc_lt l 2 c0 HLD.out (k - 1) (by omega)
      by_cases hlo : bt l k < 128
      · have hx := Lib.hid (nx_none (dec1_nocont HLD.out hk1 hlt (fun hc => by have := hc.2.1; omega)))
        go_wp2
        go_ret2
        exact ⟨ret_nx hx.out (by omega), Below.refl _ _⟩
      · by_cases hhi : 191 < bt l k
        · have hx := Lib.hid (nx_none (dec1_nocont HLD.out hk1 hlt (fun hc => by have := hc.2.2; omega)))
          go_wp2
          go_ret2
          exact ⟨ret_nx hx.out (by omega), Below.refl _ _⟩
        · have HST := Lib.hid (acc_step l c0 k hk1)
          have hcs2 := Lib.hid (conts_more HC.out (by have := HL.out; omega) hlo hhi)
          obtain ⟨A, hA⟩ : ∃ A, acc l c0 (k - 1) = A := ⟨_, rfl⟩
          obtain ⟨B, hB⟩ : ∃ B, bt l k = B := ⟨_, rfl⟩
          rw [hA] at hac HST ⊢
          rw [hB] at hbk q1 hlo hhi HST
          clear hA hB
          go_wp2
          go_round
          case rel => exact ⟨k + 1, by omega, by omega, by go_num, by rw [HST.out]; go_num, hcs2.out⟩
          case measure => simp [intOf]; omega
    · have hke := Lib.hid (show k = 2 by omega)
      obtain ⟨A, hA⟩ : ∃ A, acc l c0 (k - 1) = A := ⟨_, rfl⟩
      have hd : dec1 l = if A < least 2 ∨ validRune (A : Int) = false then none else some ((A : Int), 2) := by
        have hc := HC.out
        rw [hke.out] at hA hc
        rw [← hA]; exact dec1_conts HLD.out (by omega) (by have := HL.out; omega) hc
      rw [hA]
      have HD := Lib.hid hd; clear hd hA
      by_cases hle : A < 128
      · have hx := Lib.hid (nx_none (show dec1 l = none by rw [HD.out, if_pos (.inl (by simp [least]; omega))]))
        go_wp2
        go_ret2
        exact ⟨ret_nx hx.out (by omega), (Below.refl _ _).alloc (Nat.le_refl _) _⟩
      replace hle : (128 : Int) ≤ (A : Int) := by omega
      cases hv : validRune (A : Int) with
      | false =>
        have hx := Lib.hid (nx_none (show dec1 l = none by rw [HD.out, if_pos (.inr hv)]))
        have hch := Lib.hid (fun w => character_is (A : Int) w hv); clear hv
        clear HD HC HLD HL hbi hkn hk1
        obtain ⟨C, hC⟩ : ∃ C : Int, (A : Int) = C := ⟨_, rfl⟩
        simp only [hC] at *
        clear hC
        go_wp2_with (go_at_call 99; (with_reducible refine (hch.out _).mono ?_); clear hch; rintro e w' ⟨rfl, rfl⟩)
        go_ret2
        exact ⟨ret_nx hx.out (by omega), (Below.refl _ _).alloc (Nat.le_refl _) _⟩
      | true =>
        have hx := Lib.hid (nx_some (show dec1 l = some ((A : Int), 2) by rw [HD.out, if_neg (by simp [hv, least] <;> omega)]))
        have hch := Lib.hid (fun w => character_is (A : Int) w hv); clear hv
        clear HD HC HLD HL hbi hkn hk1
        obtain ⟨C, hC⟩ : ∃ C : Int, (A : Int) = C := ⟨_, rfl⟩
        simp only [hC] at *
        clear hC
        go_wp2_with (go_at_call 99; (with_reducible refine (hch.out _).mono ?_); clear hch; rintro e w' ⟨rfl, rfl⟩)
        go_ret2
        exact ⟨ret_nx hx.out (by omega), (Below.refl _ _).alloc (Nat.le_refl _) _⟩

set_option maxRecDepth 100000 in
set_option maxHeartbeats 400000 in
theorem next_3 (s : ByteArray) (at0 : Nat) (w : World) (hs : s.size ≤ 1099511627776) (hp : at0 < s.size) (l : List UInt8) (hL : (bs s).drop at0 = l) (c0 : Nat) (hld : lead (bt l 0) = (3, c0)) (hn : 3 ≤ s.size - at0) :
    Calls Try.prog 75 #[.string s, .int .i64 at0] w fun e w' => e = .returned (.tuple #[.int .i32 (nx l).1, .int .i64 (nx l).2]) ∧ Below w.heap.size w w' := by
  have HL := Lib.hid (at_len hL)
  have hbi := Lib.hid (at_byte hL)
  have hb1 : (s[at0]'hp).toNat = bt l 0 := at_byte hL 0 (by omega)
  have hlen := length_is (s[at0]'hp) w 3 c0 3 (by rw [hb1]; exact hld) rfl
  rw [hb1] at hlen
  have HLD := Lib.hid hld; clear hL hld
  go_enter Try.func75, Try.ntmps75
  go_wp2_with (go_at_call 98; refine hlen.mono ?_; rintro e w' ⟨rfl, rfl⟩)
  clear hlen hb1
  go_loop [7, 8, 9] (fun c i _ => ∃ k : Nat, 1 ≤ k ∧ k ≤ 3 ∧ i = .int .i64 k ∧ c = .int .i32 (acc l c0 (k - 1)) ∧ ∀ j, 1 ≤ j → j < k → isCont l j) (fun _ i _ => 3 - (intOf i).toNat)
  case atStart => exact ⟨1, by omega, by omega, rfl, rfl, fun j h1 h2 => by omega⟩
  case round =>
    obtain ⟨k, hk1, hkn, rfl, rfl, hcs⟩ := hrel
    have HC := Lib.hid hcs; clear hcs
    by_cases hlt : k < 3
    · have hbk := hbi.out k (by omega)
      have q1 := bt_lt l k
      have hac := acc_lt l 3 c0 HLD.out (k - 1) (by omega)
      by_cases hlo : bt l k < 128
      · have hx := Lib.hid (nx_none (dec1_nocont HLD.out hk1 hlt (fun hc => by have := hc.2.1; omega)))
        go_wp2
        go_ret2
        exact ⟨ret_nx hx.out (by omega), Below.refl _ _⟩
      · by_cases hhi : 191 < bt l k
        · have hx := Lib.hid (nx_none (dec1_nocont HLD.out hk1 hlt (fun hc => by have := hc.2.2; omega)))
          go_wp2
          go_ret2
          exact ⟨ret_nx hx.out (by omega), Below.refl _ _⟩
        · have HST := Lib.hid (acc_step l c0 k hk1)
          have hcs2 := Lib.hid (conts_more HC.out (by have := HL.out; omega) hlo hhi)
          obtain ⟨A, hA⟩ : ∃ A, acc l c0 (k - 1) = A := ⟨_, rfl⟩
          obtain ⟨B, hB⟩ : ∃ B, bt l k = B := ⟨_, rfl⟩
          rw [hA] at hac HST ⊢
          rw [hB] at hbk q1 hlo hhi HST
          clear hA hB
          go_wp2
          go_round
          case rel => exact ⟨k + 1, by omega, by omega, by go_num, by rw [HST.out]; go_num, hcs2.out⟩
          case measure => simp [intOf]; omega
    · have hke := Lib.hid (show k = 3 by omega)
      obtain ⟨A, hA⟩ : ∃ A, acc l c0 (k - 1) = A := ⟨_, rfl⟩
      have hd : dec1 l = if A < least 3 ∨ validRune (A : Int) = false then none else some ((A : Int), 3) := by
        have hc := HC.out
        rw [hke.out] at hA hc
        rw [← hA]; exact dec1_conts HLD.out (by omega) (by have := HL.out; omega) hc
      rw [hA]
      have HD := Lib.hid hd; clear hd hA
      by_cases hle : A < 2048
      · have hx := Lib.hid (nx_none (show dec1 l = none by rw [HD.out, if_pos (.inl (by simp [least]; omega))]))
        go_wp2
        go_ret2
        exact ⟨ret_nx hx.out (by omega), (Below.refl _ _).alloc (Nat.le_refl _) _⟩
      replace hle : (2048 : Int) ≤ (A : Int) := by omega
      cases hv : validRune (A : Int) with
      | false =>
        have hx := Lib.hid (nx_none (show dec1 l = none by rw [HD.out, if_pos (.inr hv)]))
        have hch := Lib.hid (fun w => character_is (A : Int) w hv); clear hv
        clear HD HC HLD HL hbi hkn hk1
        obtain ⟨C, hC⟩ : ∃ C : Int, (A : Int) = C := ⟨_, rfl⟩
        simp only [hC] at *
        clear hC
        go_wp2_with (go_at_call 99; (with_reducible refine (hch.out _).mono ?_); clear hch; rintro e w' ⟨rfl, rfl⟩)
        go_ret2
        exact ⟨ret_nx hx.out (by omega), (Below.refl _ _).alloc (Nat.le_refl _) _⟩
      | true =>
        have hx := Lib.hid (nx_some (show dec1 l = some ((A : Int), 3) by rw [HD.out, if_neg (by simp [hv, least] <;> omega)]))
        have hch := Lib.hid (fun w => character_is (A : Int) w hv); clear hv
        clear HD HC HLD HL hbi hkn hk1
        obtain ⟨C, hC⟩ : ∃ C : Int, (A : Int) = C := ⟨_, rfl⟩
        simp only [hC] at *
        clear hC
        go_wp2_with (go_at_call 99; (with_reducible refine (hch.out _).mono ?_); clear hch; rintro e w' ⟨rfl, rfl⟩)
        go_ret2
        exact ⟨ret_nx hx.out (by omega), (Below.refl _ _).alloc (Nat.le_refl _) _⟩

set_option maxRecDepth 100000 in
set_option maxHeartbeats 400000 in
theorem next_4 (s : ByteArray) (at0 : Nat) (w : World) (hs : s.size ≤ 1099511627776) (hp : at0 < s.size) (l : List UInt8) (hL : (bs s).drop at0 = l) (c0 : Nat) (hld : lead (bt l 0) = (4, c0)) (hn : 4 ≤ s.size - at0) :
    Calls Try.prog 75 #[.string s, .int .i64 at0] w fun e w' => e = .returned (.tuple #[.int .i32 (nx l).1, .int .i64 (nx l).2]) ∧ Below w.heap.size w w' := by
  have HL := Lib.hid (at_len hL)
  have hbi := Lib.hid (at_byte hL)
  have hb1 : (s[at0]'hp).toNat = bt l 0 := at_byte hL 0 (by omega)
  have hlen := length_is (s[at0]'hp) w 4 c0 4 (by rw [hb1]; exact hld) rfl
  rw [hb1] at hlen
  have HLD := Lib.hid hld; clear hL hld
  go_enter Try.func75, Try.ntmps75
  go_wp2_with (go_at_call 98; refine hlen.mono ?_; rintro e w' ⟨rfl, rfl⟩)
  clear hlen hb1
  go_loop [7, 8, 9] (fun c i _ => ∃ k : Nat, 1 ≤ k ∧ k ≤ 4 ∧ i = .int .i64 k ∧ c = .int .i32 (acc l c0 (k - 1)) ∧ ∀ j, 1 ≤ j → j < k → isCont l j) (fun _ i _ => 4 - (intOf i).toNat)
  case atStart => exact ⟨1, by omega, by omega, rfl, rfl, fun j h1 h2 => by omega⟩
  case round =>
    obtain ⟨k, hk1, hkn, rfl, rfl, hcs⟩ := hrel
    have HC := Lib.hid hcs; clear hcs
    by_cases hlt : k < 4
    · have hbk := hbi.out k (by omega)
      have q1 := bt_lt l k
      have hac := acc_lt l 4 c0 HLD.out (k - 1) (by omega)
      by_cases hlo : bt l k < 128
      · have hx := Lib.hid (nx_none (dec1_nocont HLD.out hk1 hlt (fun hc => by have := hc.2.1; omega)))
        go_wp2
        go_ret2
        exact ⟨ret_nx hx.out (by omega), Below.refl _ _⟩
      · by_cases hhi : 191 < bt l k
        · have hx := Lib.hid (nx_none (dec1_nocont HLD.out hk1 hlt (fun hc => by have := hc.2.2; omega)))
          go_wp2
          go_ret2
          exact ⟨ret_nx hx.out (by omega), Below.refl _ _⟩
        · have HST := Lib.hid (acc_step l c0 k hk1)
          have hcs2 := Lib.hid (conts_more HC.out (by have := HL.out; omega) hlo hhi)
          obtain ⟨A, hA⟩ : ∃ A, acc l c0 (k - 1) = A := ⟨_, rfl⟩
          obtain ⟨B, hB⟩ : ∃ B, bt l k = B := ⟨_, rfl⟩
          rw [hA] at hac HST ⊢
          rw [hB] at hbk q1 hlo hhi HST
          clear hA hB
          go_wp2
          go_round
          case rel => exact ⟨k + 1, by omega, by omega, by go_num, by rw [HST.out]; go_num, hcs2.out⟩
          case measure => simp [intOf]; omega
    · have hke := Lib.hid (show k = 4 by omega)
      obtain ⟨A, hA⟩ : ∃ A, acc l c0 (k - 1) = A := ⟨_, rfl⟩
      have hd : dec1 l = if A < least 4 ∨ validRune (A : Int) = false then none else some ((A : Int), 4) := by
        have hc := HC.out
        rw [hke.out] at hA hc
        rw [← hA]; exact dec1_conts HLD.out (by omega) (by have := HL.out; omega) hc
      rw [hA]
      have HD := Lib.hid hd; clear hd hA
      by_cases hle : A < 65536
      · have hx := Lib.hid (nx_none (show dec1 l = none by rw [HD.out, if_pos (.inl (by simp [least]; omega))]))
        go_wp2
        go_ret2
        exact ⟨ret_nx hx.out (by omega), (Below.refl _ _).alloc (Nat.le_refl _) _⟩
      replace hle : (65536 : Int) ≤ (A : Int) := by omega
      cases hv : validRune (A : Int) with
      | false =>
        have hx := Lib.hid (nx_none (show dec1 l = none by rw [HD.out, if_pos (.inr hv)]))
        have hch := Lib.hid (fun w => character_is (A : Int) w hv); clear hv
        clear HD HC HLD HL hbi hkn hk1
        obtain ⟨C, hC⟩ : ∃ C : Int, (A : Int) = C := ⟨_, rfl⟩
        simp only [hC] at *
        clear hC
        go_wp2_with (go_at_call 99; (with_reducible refine (hch.out _).mono ?_); clear hch; rintro e w' ⟨rfl, rfl⟩)
        go_ret2
        exact ⟨ret_nx hx.out (by omega), (Below.refl _ _).alloc (Nat.le_refl _) _⟩
      | true =>
        have hx := Lib.hid (nx_some (show dec1 l = some ((A : Int), 4) by rw [HD.out, if_neg (by simp [hv, least] <;> omega)]))
        have hch := Lib.hid (fun w => character_is (A : Int) w hv); clear hv
        clear HD HC HLD HL hbi hkn hk1
        obtain ⟨C, hC⟩ : ∃ C : Int, (A : Int) = C := ⟨_, rfl⟩
        simp only [hC] at *
        clear hC
        go_wp2_with (go_at_call 99; (with_reducible refine (hch.out _).mono ?_); clear hch; rintro e w' ⟨rfl, rfl⟩)
        go_ret2
        exact ⟨ret_nx hx.out (by omega), (Below.refl _ _).alloc (Nat.le_refl _) _⟩

theorem next_any (s : ByteArray) (at0 : Nat) (w : World) (hs : s.size ≤ 1099511627776) (hp : at0 < s.size) :
    Calls Try.prog 75 #[.string s, .int .i64 at0] w fun e w' => e = .returned (.tuple #[.int .i32 (nx ((bs s).drop at0)).1, .int .i64 (nx ((bs s).drop at0)).2]) ∧ Below w.heap.size w w' := by
  obtain ⟨⟨n, c0⟩, hld⟩ : ∃ p, lead (bt ((bs s).drop at0) 0) = p := ⟨_, rfl⟩
  by_cases h : n = 0 ∨ s.size - at0 < n
  · exact next_short s at0 w hs hp _ rfl n c0 hld h
  · rcases lead_cases _ _ _ hld with ⟨rfl, _⟩ | ⟨rfl, _⟩ | ⟨rfl, _⟩ | ⟨rfl, _⟩ | ⟨rfl, _⟩
    · exact next_1 s at0 w hs hp _ rfl c0 hld (by omega)
    · exact next_2 s at0 w hs hp _ rfl c0 hld (by omega)
    · exact next_3 s at0 w hs hp _ rfl c0 hld (by omega)
    · exact next_4 s at0 w hs hp _ rfl c0 hld (by omega)
    · omega

end Go.Proofs.Ytlmbbpppfghcbaa.Utf

set_option linter.unusedVariables false
set_option linter.unusedSimpArgs false
set_option maxRecDepth 100000
namespace Go.Proofs.Ytlmbbpppfghcbaa.Utf
open Go Go.RowKit Go.Proofs.Ytlmbbpppfghcbaa.Kit

theorem next_is (s : ByteArray) (at0 : Nat) (w : World) (hs : s.size ≤ 1099511627776) (hp : at0 < s.size) (c : Int) (n : Nat) (h : nx ((bs s).drop at0) = (c, n)) :
    Calls Try.prog 75 #[.string s, .int .i64 at0] w fun e w' => e = .returned (.tuple #[.int .i32 c, .int .i64 n]) ∧ Below w.heap.size w w' := by
  have := next_any s at0 w hs hp
  rw [h] at this
  exact this

/-- What the reference's Runes returns, whatever the string. -/
def RunesPost (s : ByteArray) (w : World) (e : Ending) (w' : World) : Prop :=
  (chars (bs s) = none → e = .returned (.tuple #[.slice none 0 0, .bool false])) ∧
  (∀ cs, chars (bs s) = some cs → ∃ v, e = .returned (.tuple #[v, .bool true]) ∧ w'.ownsRow w.heap.size 21 1 v cs.length (ints cs)) ∧ Below w.heap.size w w'

theorem rrunes_any (s : ByteArray) (w : World) (hs : s.size ≤ 1099511627776) :
    Calls Try.prog 57 #[.string s] w (RunesPost s w) := by
  obtain ⟨i0, hi, hz0, hz1, hz2⟩ := info_parts info_i32
  go_enter Try.func57, Try.ntmps57
  go_wp2
  go_loopw [4, 5] (fun out a wr => ∃ (pos : Nat) (pre : List Int), a = .int .i64 pos ∧ wr.ownsRow w.heap.size 21 1 out pre.length (ints pre) ∧ Below w.heap.size w wr ∧ pos ≤ s.size ∧ pre.length ≤ pos ∧ chars (bs s) = (chars ((bs s).drop pos)).map (pre ++ ·)) (fun _ a _ => s.size - (intOf a).toNat)
  case atStart => exact ⟨0, [], rfl, World.ownsRow_nil _ _ _ _, Below.refl _ _, by omega, Nat.le_refl _, by rw [List.drop_zero]; exact map_nil _⟩
  case round =>
    obtain ⟨pos, pre, rfl, hown, hb, hps, hpl, hc⟩ := hrel
    by_cases hp : pos < s.size
    · cases hd : dec1 ((bs s).drop pos) with
      | none =>
        have hpost : ∀ w', Below w.heap.size w w' → RunesPost s w (.returned (.tuple #[.slice none 0 0, .bool false])) w' := fun w' h => by
          refine ⟨fun _ => rfl, fun cs h2 => ?_, h⟩
          rw [hc, chars_bad (drop_ne hp) hd] at h2; cases h2
        have hnx := Lib.hid (nx_none hd)
        have HP := Lib.hid hpost
        clear hpost hc hd
        go_wp2_with (go_at_call 75; refine (next_is _ _ _ hs hp _ _ hnx.out).mono ?_; rintro e w' ⟨rfl, hb2⟩)
        go_ret2
        exact HP.out _ (hb.trans (hb2.mono hb.size))
      | some p =>
        obtain ⟨c, n⟩ := p
        have hdp := dec1_pos hd
        rw [List.length_drop, bs_len] at hdp
        have hnx := Lib.hid (nx_some hd)
        have hc2 := Lib.hid (runes_len hc hd)
        have hn0 : ((n : Int) == 0) = false := by simp; omega
        clear hd hc
        go_wp2_with (first
          | (go_at_call 75; refine (next_is _ _ _ hs hp _ _ hnx.out).mono ?_; rintro e w4 ⟨rfl, hb2⟩; have hown4 := own_later hown hb2; have hb4 := hb.trans (hb2.mono hb.size); clear hown hb hb2)
          | (at_builtin; refine wpList_append_own _ rfl _ _ _ rfl w.heap.size 21 i0 (.int .i32 0) 1 4 Try.underlying83 hi hz0 hz1 hz2 rfl (by decide) _ pre.length (ints pre) rfl (hown4.alloc _) ⟨w4.heap.size, 0, none⟩ 1 1 [.int .i32 c] rfl rfl (cell_one_new _ _ _) ?c2 ?c3 ?c4 ?c5 ?_))
        case c2 => simp [Value.oneCell']
        case c3 => unfold maxLen; omega
        case c4 => omega
        case c5 => have := hb4.size; simp; omega
        intro v' w5 hown5 hg5 _
        have hb5 := below_own (hb4.alloc hb4.size _) (hown4.alloc _) (Nat.le_refl _) (by have := hb4.size; simp; omega) hg5
        have hown6 : w5.ownsRow w.heap.size 21 1 v' (pre ++ [c]).length (ints (pre ++ [c])) := by simpa using hown5
        clear hown5 hg5 hb4 hown4
        go_wp2
        go_roundw
        case rel => exact ⟨pos + n, pre ++ [c], by go_num, hown6, hb5, by omega, by simp; omega, hc2.out⟩
        case measure => simp [intOf]; omega
    · have hpost : ∀ v w', w'.ownsRow w.heap.size 21 1 v pre.length (ints pre) → Below w.heap.size w w' → RunesPost s w (.returned (.tuple #[v, .bool true])) w' := fun v w' h1 h2 => by
        rw [List.drop_of_length_le (by rw [bs_len]; omega), chars_nil] at hc
        simp only [Option.map_some, List.append_nil] at hc
        refine ⟨fun h => (by rw [hc] at h; cases h), fun cs h => ?_, h2⟩
        rw [hc] at h
        obtain rfl := Option.some.inj h
        exact ⟨v, rfl, h1⟩
      have HP := Lib.hid hpost
      clear hpost hc
      go_wp2
      go_ret2
      exact HP.out _ _ hown hb

theorem rrunes_good (s : ByteArray) (w : World) (hs : s.size ≤ 1099511627776) (cs : List Int) (hc : chars (bs s) = some cs) :
    Calls Try.prog 57 #[.string s] w fun e w' => ∃ a cap, e = .returned (.tuple #[.slice a cs.length cap, .bool true]) ∧ w'.ownsRow w.heap.size 21 1 (.slice a cs.length cap) cs.length (ints cs) ∧ cs.length ≤ cap ∧ Below w.heap.size w w' := by
  refine (rrunes_any s w hs).mono ?_
  rintro e w' ⟨_, h, hb⟩
  obtain ⟨v, rfl, hown⟩ := h cs hc
  obtain ⟨a, len, cap, rfl, hl, hlc, hcm, _⟩ := own_reads hown
  rw [List.length_map] at hl
  subst hl
  exact ⟨a, cap, rfl, hown, hlc, hb⟩

theorem rrunes_bad (s : ByteArray) (w : World) (hs : s.size ≤ 1099511627776) (hc : chars (bs s) = none) :
    Calls Try.prog 57 #[.string s] w fun e w' => e = .returned (.tuple #[.slice none 0 0, .bool false]) ∧ Below w.heap.size w w' := by
  refine (rrunes_any s w hs).mono ?_
  rintro e w' ⟨h, _, hb⟩
  exact ⟨h hc, hb⟩

theorem rcount_any (s : ByteArray) (w : World) (hs : s.size ≤ 1099511627776) :
    Calls Try.prog 29 #[.string s] w fun e w' => e = .returned (.int .i64 (count (bs s))) ∧ Below w.heap.size w w' := by
  cases hc : chars (bs s) with
  | none =>
    have hcn := Lib.hid (count_none hc)
    go_enter Try.func29, Try.ntmps29
    go_wp2_with (go_at_call 57; refine (rrunes_bad _ _ hs hc).mono ?_; clear hc; rintro e w' ⟨rfl, hb⟩)
    go_ret
    exact ⟨ret_int hcn.out.symm, hb⟩
  | some cs =>
    have hcn := Lib.hid (count_some hc)
    have HC := Lib.hid hc; clear hc
    go_enter Try.func29, Try.ntmps29
    go_wp2_with (go_at_call 57; refine (rrunes_good _ _ hs cs HC.out).mono ?_; rintro e w' ⟨a, cap, rfl, hown, hcap, hb⟩)
    go_ret
    exact ⟨ret_int hcn.out.symm, hb⟩

end Go.Proofs.Ytlmbbpppfghcbaa.Utf

set_option linter.unusedVariables false
set_option linter.unusedSimpArgs false
namespace Go.Proofs.Ytlmbbpppfghcbaa.Kit
open Go Go.RowKit

theorem IsRow.news {k : IntKind} {w w' : World} {x : Addr} {len cap : Nat} {zs : List Int} (h : IsRow k w (some x) len cap zs) (hb : Below w.heap.size w w') :
    ∀ j u, ((zs.take len).map (Value.int k))[j]? = some u → w'.cell? (x.add j) = some u := by
  rcases h with ⟨h, _⟩ | ⟨y, hy, hl, hm, hz, hcell, hwf⟩
  · cases h
  · obtain rfl := Option.some.inj hy
    intro j u hu
    rw [List.getElem?_map, List.getElem?_take] at hu
    split at hu
    · rename_i hj
      have hjz : j < zs.length := by omega
      have h2 := hcell j hjz
      rw [List.getElem?_eq_getElem hjz] at hu
      simp only [Option.map_some, Option.some.injEq] at hu
      rw [hb.cell (World.block_lt_of_cell? w _ h2), h2, ← hu, List.getD_eq_getElem?_getD, List.getElem?_eq_getElem hjz]; rfl
    · cases hu

theorem IsRow.len {k : IntKind} {w : World} {a : Option Addr} {len cap : Nat} {zs : List Int} (h : IsRow k w a len cap zs) : len ≤ cap ∧ cap ≤ maxLen ∧ zs.length = cap := by
  rcases h with ⟨rfl, rfl, rfl, rfl⟩ | ⟨y, hy, hl, hm, hz, hcell, hwf⟩
  · exact ⟨Nat.le_refl _, Nat.zero_le _, rfl⟩
  · exact ⟨hl, hm, hz⟩

theorem IsRow.wf {k : IntKind} {w : World} {a : Option Addr} {len cap : Nat} {zs : List Int} (h : IsRow k w a len cap zs) : ∀ n ∈ zs, (Lit.int k n).wf = true := by
  rcases h with ⟨rfl, rfl, rfl, rfl⟩ | ⟨y, hy, hl, hm, hz, hcell, hwf⟩
  · intro n hn; cases hn
  · exact hwf

/-- An empty block that the call has just laid is a row of its own. -/
theorem own_empty (w : World) (e : TypeId) (base B size : Nat) (hB : B = w.heap.size) (hb : base ≤ w.heap.size) : (w.alloc (.cells #[] e)).ownsRow base e size (.slice (some ⟨B, 0, none⟩) 0 0) 0 [] := by
  subst hB
  exact World.ownsRow_made w #[] 0 hb (Nat.zero_le _) (by simp)

theorem ints_oneCell (k : IntKind) (l : List Int) : ∀ u ∈ l.map (Value.int k), u.oneCell' = true := by
  intro u hu
  obtain ⟨n, _, rfl⟩ := List.mem_map.1 hu
  rfl

/-- wpList_append_own at an operation that has a guard which says yes. -/
theorem wpList_append_own_g {P : Program} (w : World) {ops : Array Oper} {rest : List Oper} {o : Oper} {a : Act} {Q : Exit → Act → World → Prop} (hw : Region.wanted o (yielded ops a.tmps) = true) (s x : Operand) (t : TypeId)
    (ho : o.op = .call { callee := .builtin .append, args := #[s, x], argTypes := #[t, t] })
    (base : Nat) (e : TypeId) (i : TypeInfo) (z : Value) (size bytes : Nat) (ht : P.underlying t = some (.slice e)) (hi : P.info? e = some i) (hz : i.zero = some z)
    (hsize : i.size = size) (hby : i.bytes = bytes) (hzs : z.cells.size = size) (hsz : 0 < size)
    (v : Value) (n : Nat) (xs : List Value) (hs : a.eval s = v) (hown : w.ownsRow base e size v n xs)
    (ad : Addr) (m c : Nat) (news : List Value) (hx : a.eval x = .slice (some ad) m c) (hl : news.length = m * size) (hnews : ∀ j u, news[j]? = some u → w.cell? (ad.add j) = some u) (h1 : ∀ u ∈ news, u.oneCell' = true)
    (h63 : n + m ≤ maxLen) (hbytes : (n + m) * bytes ≤ 140737488355328) (hbase : base ≤ w.heap.size)
    (h : ∀ v' w', w'.ownsRow base e size v' (n + m) (xs ++ news) → w.grownBy w' v.ownBlock → (v' = .slice none 0 0 ↔ v = .slice none 0 0 ∧ m = 0) → wpList P ops Q rest (a.put o.dst v') w') : wpList P ops Q (o :: rest) a w :=
  wpList_step fun K hK => by rw [if_pos hw]; exact wp_append_own w s x t ho base e i z size bytes ht hi hz hsize hby hzs hsz v n xs hs hown ad m c news hx hl hnews h1 h63 hbytes hbase fun v' w' h2 h3 h4 => hK _ _ (h v' w' h2 h3 h4)

end Go.Proofs.Ytlmbbpppfghcbaa.Kit

set_option linter.unusedVariables false
set_option linter.unusedSimpArgs false
namespace Go.Proofs.Ytlmbbpppfghcbaa.Kit
open Go Go.RowKit

/-- The cells of an owned row: which block, what they hold, that they may be written. -/
theorem own_cells {w : World} {base e n cap : Nat} {a : Option Addr} {xs : List Value} (h : w.ownsRow base e 1 (.slice a n cap) n xs) (h0 : 0 < n) :
    ∃ g, a = some ⟨g, 0, none⟩ ∧ base ≤ g ∧ g < w.heap.size ∧ (∀ (k : Nat) x, xs[k]? = some x → w.cell? ⟨g, k, none⟩ = some x) ∧ ∀ k, w.frozen? ⟨g, k, none⟩ = false := by
  rcases h.2 with ⟨e1, h1⟩ | ⟨g, c, cur, e1, hb, hg, hnc, hcm, hcs, htake⟩
  · omega
  · cases e1
    refine ⟨g, rfl, hb, (Array.getElem?_eq_some_iff.1 hg).1, fun k x hx => ?_, fun k => by simp [World.frozen?, hg]⟩
    rw [cell_of_row w g k cur e (0, 0) hg]
    rw [← htake, List.getElem?_take] at hx
    split at hx
    · simpa using hx
    · cases hx

theorem own_set {w : World} {base e n cap g : Nat} {xs : List Value} (h : w.ownsRow base e 1 (.slice (some ⟨g, 0, none⟩) n cap) n xs) {k : Nat} (hk : k < n) (u : Value) :
    (w.setCell ⟨g, k, none⟩ u).ownsRow base e 1 (.slice (some ⟨g, 0, none⟩) n cap) n (xs.set k u) := by
  refine ⟨by rw [List.length_set]; exact h.1, ?_⟩
  rcases h.2 with ⟨e1, h1⟩ | ⟨g', c, cur, e1, hb, hg, hnc, hcm, hcs, htake⟩
  · omega
  · cases e1
    refine .inr ⟨g, cap, cur.setIfInBounds k u, rfl, hb, heap_setCell_same w g k cur e u hg, hnc, hcm, by simpa using hcs, ?_⟩
    rw [Array.toList_setIfInBounds, List.take_set, htake]

theorem own_setCell_below {w : World} {base e n : Nat} {v : Value} {xs : List Value} (h : w.ownsRow base e 1 v n xs) {p : Addr} (hp : p.block < base) (u : Value) : (w.setCell p u).ownsRow base e 1 v n xs := ownsRow_setCell_below h hp u

/-- The first k values turned by h, the others as they are. -/
def mixed (h : Int → Int) (cs : List Int) (k : Nat) : List Int := (cs.take k).map h ++ cs.drop k
theorem mixed_zero (h : Int → Int) (cs : List Int) : mixed h cs 0 = cs := by simp [mixed]
theorem mixed_len (h : Int → Int) (cs : List Int) (k : Nat) : (mixed h cs k).length = cs.length := by simp [mixed]; omega
theorem mixed_all (h : Int → Int) (cs : List Int) (k : Nat) (hk : cs.length ≤ k) : mixed h cs k = cs.map h := by simp [mixed, List.take_of_length_le hk, List.drop_of_length_le hk]
theorem mixed_get (h : Int → Int) (cs : List Int) (k : Nat) (hk : k < cs.length) : (mixed h cs k)[k]? = some cs[k] := by
  unfold mixed
  rw [List.getElem?_append_right (by simp; omega)]
  simp [Nat.min_eq_left (Nat.le_of_lt hk)]
theorem mixed_set (h : Int → Int) (cs : List Int) (k : Nat) (hk : k < cs.length) : (mixed h cs k).set k (h cs[k]) = mixed h cs (k + 1) := by
  unfold mixed
  rw [List.set_append_right _ _ (by simp; omega)]
  simp only [List.length_map, List.length_take, Nat.min_eq_left (Nat.le_of_lt hk), Nat.sub_self]
  have e2 : (cs.take (k + 1)).map h = (cs.take k).map h ++ [h cs[k]] := by rw [List.take_succ_eq_append_getElem hk, List.map_append]; rfl
  rw [e2, List.drop_eq_getElem_cons hk, List.set_cons_zero, List.append_assoc]
  rfl
theorem mixed_skip (h : Int → Int) (cs : List Int) (k : Nat) (hk : k < cs.length) (he : h cs[k] = cs[k]) : mixed h cs k = mixed h cs (k + 1) := by
  rw [← mixed_set h cs k hk, he]
  apply List.ext_getElem?
  intro i
  rw [List.getElem?_set]
  split
  · rename_i e; subst e; rw [mixed_get h cs k hk, if_pos (by rw [mixed_len]; exact hk)]
  · rfl

end Go.Proofs.Ytlmbbpppfghcbaa.Kit
