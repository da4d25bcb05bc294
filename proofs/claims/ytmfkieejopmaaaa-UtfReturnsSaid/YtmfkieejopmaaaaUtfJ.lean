/-
  Contract of the reference's Code, codes of two, three and four bytes.
-/
import Derived.Test.YtmfkieejopmaaaaUtfI
set_option linter.unusedVariables false
set_option linter.unusedSimpArgs false
namespace Go.Proofs.Ytmfkieejopmaaaa.Utf
open Go Go.RowKit Go.Proofs.Ytmfkieejopmaaaa.Kit

theorem enc_2 (c : Int) (h0 : 128 ≤ c) (h1 : c < 2048) : (⟨(UInt8.ofNat (192 + c / 64).toNat :: conts c 1).toArray⟩ : ByteArray) = Utf8.encode c := by
  have hv : validRune c = true := (valid_iff c).2 (by omega)
  apply ba_ext
  rcases enc_forms c hv with ⟨_, e⟩ | ⟨_, _, e⟩ | ⟨_, _, e⟩ | ⟨_, _, e⟩ <;> first | omega | skip
  refine Eq.trans ?_ e.symm
  have e1 : (192 + c / 64).toNat = 192 + c.toNat / 64 := by omega
  have e2 : (c / 64 ^ 0 % 64).toNat = c.toNat % 64 := by rw [Int.pow_zero, Int.ediv_one]; omega
  simp only [conts, e1, e2]
theorem enc_3 (c : Int) (hv : validRune c = true) (h0 : 2048 ≤ c) (h1 : c < 65536) : (⟨(UInt8.ofNat (224 + c / 64 / 64).toNat :: conts c 2).toArray⟩ : ByteArray) = Utf8.encode c := by
  apply ba_ext
  rcases enc_forms c hv with ⟨_, e⟩ | ⟨_, _, e⟩ | ⟨_, _, e⟩ | ⟨_, _, e⟩ <;> first | omega | skip
  refine Eq.trans ?_ e.symm
  have e1 : (224 + c / 64 / 64).toNat = 224 + c.toNat / 4096 := by omega
  have e2 : (c / 64 ^ 0 % 64).toNat = c.toNat % 64 := by rw [Int.pow_zero, Int.ediv_one]; omega
  have e3 : (c / 64 ^ 1 % 64).toNat = c.toNat / 64 % 64 := by rw [Int.pow_one]; omega
  simp only [conts, e1, e2, e3]
theorem enc_4 (c : Int) (hv : validRune c = true) (h0 : 65536 ≤ c) (h1 : c ≤ 1114111) : (⟨(UInt8.ofNat (240 + c / 64 / 64 / 64).toNat :: conts c 3).toArray⟩ : ByteArray) = Utf8.encode c := by
  apply ba_ext
  rcases enc_forms c hv with ⟨_, e⟩ | ⟨_, _, e⟩ | ⟨_, _, e⟩ | ⟨_, _, e⟩ <;> first | omega | skip
  refine Eq.trans ?_ e.symm
  have e1 : (240 + c / 64 / 64 / 64).toNat = 240 + c.toNat / 262144 := by omega
  have e2 : (c / 64 ^ 0 % 64).toNat = c.toNat % 64 := by rw [Int.pow_zero, Int.ediv_one]; omega
  have e3 : (c / 64 ^ 1 % 64).toNat = c.toNat / 64 % 64 := by rw [Int.pow_one]; omega
  have e4 : (c / 64 ^ 2 % 64).toNat = c.toNat / 4096 % 64 := by
    have : (64 : Int) ^ 2 = 4096 := by decide
    rw [this]; omega
  simp only [conts, e1, e2, e3, e4]

def slen : Value → Nat | .slice _ n _ => n | _ => 0

theorem first_byte {x : Int} (h0 : 0 ≤ x) (h1 : x < 256) (l : List UInt8) : Value.int .u8 x :: u8s l = u8s (UInt8.ofNat x.toNat :: l) := by
  have e : ((UInt8.ofNat x.toNat).toNat : Int) = x := by rw [Utf.toNat_ofNat _ (by omega)]; omega
  simp only [u8s, List.map_cons, e]

set_option maxRecDepth 100000 in
set_option maxHeartbeats 800000 in
theorem code_2 (c : Int) (w : World) (h0 : 128 ≤ c) (h1 : c ≤ 2047) :
    Calls Try.prog 27 #[.int .i32 c] w fun e w' => e = .returned (.string (Utf8.encode c)) ∧ Below w.heap.size w w' := by
  obtain ⟨i0, hi, hz0, hz1, hz2⟩ := info_parts info_u8
  have HE := Lib.hid (enc_2 c h0 (by omega))
  go_enter Try.func27, Try.ntmps27
  go_wp2
  go_rounds 2
  go_loopw [0, 4] (fun d b wr => ∃ (k : Nat) (D : Int), Tail w c 1 d b wr k D) (fun d b _ => 1 - slen b)
  case atStart => exact ⟨0, c, by omega, rfl, by omega, by omega, by show c = c / 64 ^ 0; rw [Int.pow_zero, Int.ediv_one], by go_grown, .inl ⟨rfl, rfl⟩⟩
  case round =>
    obtain ⟨k, D, hk, rfl, hD0, hD1, hDk, hb, hcase⟩ := hrel
    by_cases hlt : k < 1
    · have htn := Lib.hid (tail_next hDk.out hD0 hD1)
      have htb := Lib.hid (tail_byte hDk.out hD0)
      clear hDk
      rcases hcase with ⟨rfl, rfl⟩ | ⟨hk1, g, cap, rfl, hown⟩
      · have hown1 := own_one wr (.int .u8 (128 + D % 64)) 5 w.heap.size hb.size
        go_wp2_with (at_builtin; refine wpList_append_own_none rfl _ _ _ rfl w.heap.size 5 i0 1 Try.underlying41 hi _ 1 [.int .u8 (128 + D % 64)] rfl hown1 rfl ?_)
        go_roundw
        case rel =>
          refine ⟨1, D / 64, by omega, rfl, by omega, by omega, htn.out, hb.alloc hb.size _, .inr ⟨Nat.le_refl _, wr.heap.size, 1, rfl, ?_⟩⟩
          have := htb.out
          rw [← this]; exact hown1
        case measure => simp [slen]
      · exfalso; omega
    · rcases hcase with ⟨hk0, _⟩ | ⟨hk1, g, cap, rfl, hown⟩
      · exfalso; omega
      obtain rfl : k = 1 := by omega
      have hdd : 0 ≤ D ∧ D ≤ 31 := by
        have h := hDk.out
        rw [Int.pow_one] at h
        omega
      obtain ⟨hd1, hd2⟩ := hdd
      have hfb := Lib.hid (first_byte (x := 192 + D) (by omega) (by omega) (conts c 1))
      have hown1 := own_one_at (wr.alloc (.cells #[.int .i32 0, .int .i32 0, .int .i32 192, .int .i32 224, .int .i32 240] 21)) (.int .u8 (192 + D)) 5 w.heap.size (wr.heap.size + 1) (by simp) (by have := hb.size; simp; omega)
      have hcl := Lib.hid (((hown.alloc (.cells #[.int .i32 0, .int .i32 0, .int .i32 192, .int .i32 224, .int .i32 240] 21)).alloc (.cells #[.int .u8 (192 + D)] 5)).cells (g := g) rfl)
      go_wp2_with (at_builtin; refine wpList_append_own _ rfl _ _ _ rfl w.heap.size 5 i0 (.int .u8 0) 1 1 Try.underlying41 hi hz0 hz1 hz2 rfl (by decide) _ 1 [.int .u8 (192 + D)] rfl hown1 ⟨g, 0, none⟩ 1 cap (u8s (conts c 1)) rfl ?c1 hcl.out (u8s_oneCell _) ?c3 ?c4 ?c5 ?_)
      case c1 => rw [u8s_len, conts_len, Nat.mul_one]
      case c3 => unfold maxLen; omega
      case c4 => omega
      case c5 => have := hb.size; simp; omega
      intro v' w5 hown5 hg5 hnn
      rw [hfb.out] at hown5
      have hb5 := below_own ((hb.alloc hb.size (.cells #[.int .i32 0, .int .i32 0, .int .i32 192, .int .i32 224, .int .i32 240] 21)).alloc (by have := hb.size; simp; omega) (.cells #[.int .u8 (192 + D)] 5)) hown1 (Nat.le_refl _) (by have := hb.size; simp; omega) hg5
      have hcv := conv_bytes (P := Try.prog) hown5 Try.underlying41 Try.underlying5 Try.underlying9
      clear hown1 hcl hown hb hg5 hnn hfb hown5
      go_wp2
      go_ret
      refine ⟨ret_string ?_, hb5⟩
      rw [← HE.out]
      have h := hDk.out
      rw [Int.pow_one] at h
      rw [show D = c / 64 by omega]

set_option maxRecDepth 100000 in
set_option maxHeartbeats 800000 in
theorem code_3 (c : Int) (w : World) (hv : validRune c = true) (h0 : 2048 ≤ c) (h1 : c ≤ 65535) :
    Calls Try.prog 27 #[.int .i32 c] w fun e w' => e = .returned (.string (Utf8.encode c)) ∧ Below w.heap.size w w' := by
  obtain ⟨i0, hi, hz0, hz1, hz2⟩ := info_parts info_u8
  have HE := Lib.hid (enc_3 c hv h0 (by omega)); clear hv
  go_enter Try.func27, Try.ntmps27
  go_wp2
  go_rounds 3
  go_loopw [0, 4] (fun d b wr => ∃ (k : Nat) (D : Int), Tail w c 2 d b wr k D) (fun d b _ => 2 - slen b)
  case atStart => exact ⟨0, c, by omega, rfl, by omega, by omega, by show c = c / 64 ^ 0; rw [Int.pow_zero, Int.ediv_one], by go_grown, .inl ⟨rfl, rfl⟩⟩
  case round =>
    obtain ⟨k, D, hk, rfl, hD0, hD1, hDk, hb, hcase⟩ := hrel
    by_cases hlt : k < 2
    · have htn := Lib.hid (tail_next hDk.out hD0 hD1)
      have htb := Lib.hid (tail_byte hDk.out hD0)
      clear hDk
      rcases hcase with ⟨rfl, rfl⟩ | ⟨hk1, g, cap, rfl, hown⟩
      · have hown1 := own_one wr (.int .u8 (128 + D % 64)) 5 w.heap.size hb.size
        go_wp2_with (at_builtin; refine wpList_append_own_none rfl _ _ _ rfl w.heap.size 5 i0 1 Try.underlying41 hi _ 1 [.int .u8 (128 + D % 64)] rfl hown1 rfl ?_)
        go_roundw
        case rel =>
          refine ⟨1, D / 64, by omega, rfl, by omega, by omega, htn.out, hb.alloc hb.size _, .inr ⟨Nat.le_refl _, wr.heap.size, 1, rfl, ?_⟩⟩
          have := htb.out
          rw [← this]; exact hown1
        case measure => simp [slen]
      · have hown1 := own_one wr (.int .u8 (128 + D % 64)) 5 w.heap.size hb.size
        have hcl := Lib.hid ((hown.alloc (.cells #[.int .u8 (128 + D % 64)] 5)).cells (g := g) rfl)
        go_wp2_with (at_builtin; refine wpList_append_own _ rfl _ _ _ rfl w.heap.size 5 i0 (.int .u8 0) 1 1 Try.underlying41 hi hz0 hz1 hz2 rfl (by decide) _ 1 [.int .u8 (128 + D % 64)] rfl hown1 ⟨g, 0, none⟩ k cap (u8s (conts c k)) rfl ?c1 hcl.out (u8s_oneCell _) ?c3 ?c4 ?c5 ?_)
        case c1 => rw [u8s_len, conts_len, Nat.mul_one]
        case c3 => unfold maxLen; omega
        case c4 => omega
        case c5 => have := hb.size; simp; omega
        intro v' w5 hown5 hg5 hnn
        rw [htb.out] at hown5
        have hb5 := below_own (hb.alloc hb.size _) hown1 (Nat.le_refl _) (by have := hb.size; simp; omega) hg5
        have hv' : ∃ g' cap', v' = .slice (some ⟨g', 0, none⟩) (k + 1) cap' := by
          rcases hown5.2 with ⟨_, h⟩ | ⟨g', cap', cur, h, _⟩
          · omega
          · exact ⟨g', cap', by rw [h, Nat.add_comm]⟩
        obtain ⟨g', cap', hv'⟩ := hv'
        rw [hv'] at hown5 ⊢
        rw [Nat.add_comm 1 k] at hown5
        clear hown1 hcl hown hb hg5 hnn htb hv'
        go_wp2
        go_roundw
        case rel => exact ⟨k + 1, D / 64, by omega, rfl, by omega, by omega, htn.out, hb5, .inr ⟨by omega, g', cap', rfl, hown5⟩⟩
        case measure => simp [slen]; omega
    · rcases hcase with ⟨hk0, _⟩ | ⟨hk1, g, cap, rfl, hown⟩
      · exfalso; omega
      obtain rfl : k = 2 := by omega
      have hdd : 0 ≤ D ∧ D ≤ 15 := by
        have h := hDk.out
        rw [show (64 : Int) ^ 2 = 4096 by decide] at h
        omega
      obtain ⟨hd1, hd2⟩ := hdd
      have hfb := Lib.hid (first_byte (x := 224 + D) (by omega) (by omega) (conts c 2))
      have hown1 := own_one_at (wr.alloc (.cells #[.int .i32 0, .int .i32 0, .int .i32 192, .int .i32 224, .int .i32 240] 21)) (.int .u8 (224 + D)) 5 w.heap.size (wr.heap.size + 1) (by simp) (by have := hb.size; simp; omega)
      have hcl := Lib.hid (((hown.alloc (.cells #[.int .i32 0, .int .i32 0, .int .i32 192, .int .i32 224, .int .i32 240] 21)).alloc (.cells #[.int .u8 (224 + D)] 5)).cells (g := g) rfl)
      go_wp2_with (at_builtin; refine wpList_append_own _ rfl _ _ _ rfl w.heap.size 5 i0 (.int .u8 0) 1 1 Try.underlying41 hi hz0 hz1 hz2 rfl (by decide) _ 1 [.int .u8 (224 + D)] rfl hown1 ⟨g, 0, none⟩ 2 cap (u8s (conts c 2)) rfl ?c1 hcl.out (u8s_oneCell _) ?c3 ?c4 ?c5 ?_)
      case c1 => rw [u8s_len, conts_len, Nat.mul_one]
      case c3 => unfold maxLen; omega
      case c4 => omega
      case c5 => have := hb.size; simp; omega
      intro v' w5 hown5 hg5 hnn
      rw [hfb.out] at hown5
      have hb5 := below_own ((hb.alloc hb.size (.cells #[.int .i32 0, .int .i32 0, .int .i32 192, .int .i32 224, .int .i32 240] 21)).alloc (by have := hb.size; simp; omega) (.cells #[.int .u8 (224 + D)] 5)) hown1 (Nat.le_refl _) (by have := hb.size; simp; omega) hg5
      have hcv := conv_bytes (P := Try.prog) hown5 Try.underlying41 Try.underlying5 Try.underlying9
      clear hown1 hcl hown hb hg5 hnn hfb hown5
      go_wp2
      go_ret
      refine ⟨ret_string ?_, hb5⟩
      rw [← HE.out]
      have h := hDk.out
      rw [show (64 : Int) ^ 2 = 4096 by decide] at h
      rw [show D = c / 64 / 64 by omega]

set_option maxRecDepth 100000 in
set_option maxHeartbeats 800000 in
theorem code_4 (c : Int) (w : World) (hv : validRune c = true) (h0 : 65536 ≤ c) (h1 : c ≤ 1114111) :
    Calls Try.prog 27 #[.int .i32 c] w fun e w' => e = .returned (.string (Utf8.encode c)) ∧ Below w.heap.size w w' := by
  obtain ⟨i0, hi, hz0, hz1, hz2⟩ := info_parts info_u8
  have HE := Lib.hid (enc_4 c hv h0 (by omega)); clear hv
  go_enter Try.func27, Try.ntmps27
  go_wp2
  go_rounds 4
  go_loopw [0, 4] (fun d b wr => ∃ (k : Nat) (D : Int), Tail w c 3 d b wr k D) (fun d b _ => 3 - slen b)
  case atStart => exact ⟨0, c, by omega, rfl, by omega, by omega, by show c = c / 64 ^ 0; rw [Int.pow_zero, Int.ediv_one], by go_grown, .inl ⟨rfl, rfl⟩⟩
  case round =>
    obtain ⟨k, D, hk, rfl, hD0, hD1, hDk, hb, hcase⟩ := hrel
    by_cases hlt : k < 3
    · have htn := Lib.hid (tail_next hDk.out hD0 hD1)
      have htb := Lib.hid (tail_byte hDk.out hD0)
      clear hDk
      rcases hcase with ⟨rfl, rfl⟩ | ⟨hk1, g, cap, rfl, hown⟩
      · have hown1 := own_one wr (.int .u8 (128 + D % 64)) 5 w.heap.size hb.size
        go_wp2_with (at_builtin; refine wpList_append_own_none rfl _ _ _ rfl w.heap.size 5 i0 1 Try.underlying41 hi _ 1 [.int .u8 (128 + D % 64)] rfl hown1 rfl ?_)
        go_roundw
        case rel =>
          refine ⟨1, D / 64, by omega, rfl, by omega, by omega, htn.out, hb.alloc hb.size _, .inr ⟨Nat.le_refl _, wr.heap.size, 1, rfl, ?_⟩⟩
          have := htb.out
          rw [← this]; exact hown1
        case measure => simp [slen]
      · have hown1 := own_one wr (.int .u8 (128 + D % 64)) 5 w.heap.size hb.size
        have hcl := Lib.hid ((hown.alloc (.cells #[.int .u8 (128 + D % 64)] 5)).cells (g := g) rfl)
        go_wp2_with (at_builtin; refine wpList_append_own _ rfl _ _ _ rfl w.heap.size 5 i0 (.int .u8 0) 1 1 Try.underlying41 hi hz0 hz1 hz2 rfl (by decide) _ 1 [.int .u8 (128 + D % 64)] rfl hown1 ⟨g, 0, none⟩ k cap (u8s (conts c k)) rfl ?c1 hcl.out (u8s_oneCell _) ?c3 ?c4 ?c5 ?_)
        case c1 => rw [u8s_len, conts_len, Nat.mul_one]
        case c3 => unfold maxLen; omega
        case c4 => omega
        case c5 => have := hb.size; simp; omega
        intro v' w5 hown5 hg5 hnn
        rw [htb.out] at hown5
        have hb5 := below_own (hb.alloc hb.size _) hown1 (Nat.le_refl _) (by have := hb.size; simp; omega) hg5
        have hv' : ∃ g' cap', v' = .slice (some ⟨g', 0, none⟩) (k + 1) cap' := by
          rcases hown5.2 with ⟨_, h⟩ | ⟨g', cap', cur, h, _⟩
          · omega
          · exact ⟨g', cap', by rw [h, Nat.add_comm]⟩
        obtain ⟨g', cap', hv'⟩ := hv'
        rw [hv'] at hown5 ⊢
        rw [Nat.add_comm 1 k] at hown5
        clear hown1 hcl hown hb hg5 hnn htb hv'
        go_wp2
        go_roundw
        case rel => exact ⟨k + 1, D / 64, by omega, rfl, by omega, by omega, htn.out, hb5, .inr ⟨by omega, g', cap', rfl, hown5⟩⟩
        case measure => simp [slen]; omega
    · rcases hcase with ⟨hk0, _⟩ | ⟨hk1, g, cap, rfl, hown⟩
      · exfalso; omega
      obtain rfl : k = 3 := by omega
      have hdd : 0 ≤ D ∧ D ≤ 7 := by
        have h := hDk.out
        rw [show (64 : Int) ^ 3 = 262144 by decide] at h
        omega
      obtain ⟨hd1, hd2⟩ := hdd
      have hfb := Lib.hid (first_byte (x := 240 + D) (by omega) (by omega) (conts c 3))
      have hown1 := own_one_at (wr.alloc (.cells #[.int .i32 0, .int .i32 0, .int .i32 192, .int .i32 224, .int .i32 240] 21)) (.int .u8 (240 + D)) 5 w.heap.size (wr.heap.size + 1) (by simp) (by have := hb.size; simp; omega)
      have hcl := Lib.hid (((hown.alloc (.cells #[.int .i32 0, .int .i32 0, .int .i32 192, .int .i32 224, .int .i32 240] 21)).alloc (.cells #[.int .u8 (240 + D)] 5)).cells (g := g) rfl)
      go_wp2_with (at_builtin; refine wpList_append_own _ rfl _ _ _ rfl w.heap.size 5 i0 (.int .u8 0) 1 1 Try.underlying41 hi hz0 hz1 hz2 rfl (by decide) _ 1 [.int .u8 (240 + D)] rfl hown1 ⟨g, 0, none⟩ 3 cap (u8s (conts c 3)) rfl ?c1 hcl.out (u8s_oneCell _) ?c3 ?c4 ?c5 ?_)
      case c1 => rw [u8s_len, conts_len, Nat.mul_one]
      case c3 => unfold maxLen; omega
      case c4 => omega
      case c5 => have := hb.size; simp; omega
      intro v' w5 hown5 hg5 hnn
      rw [hfb.out] at hown5
      have hb5 := below_own ((hb.alloc hb.size (.cells #[.int .i32 0, .int .i32 0, .int .i32 192, .int .i32 224, .int .i32 240] 21)).alloc (by have := hb.size; simp; omega) (.cells #[.int .u8 (240 + D)] 5)) hown1 (Nat.le_refl _) (by have := hb.size; simp; omega) hg5
      have hcv := conv_bytes (P := Try.prog) hown5 Try.underlying41 Try.underlying5 Try.underlying9
      clear hown1 hcl hown hb hg5 hnn hfb hown5
      go_wp2
      go_ret
      refine ⟨ret_string ?_, hb5⟩
      rw [← HE.out]
      have h := hDk.out
      rw [show (64 : Int) ^ 3 = 262144 by decide] at h
      rw [show D = c / 64 / 64 / 64 by omega]

end Go.Proofs.Ytmfkieejopmaaaa.Utf
