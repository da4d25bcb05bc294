/-
  Contract of the reference's Encode.
-/
import Derived.Test.YtffljcfpofhkgaaPkF
set_option linter.unusedVariables false
set_option linter.unusedSimpArgs false
set_option maxRecDepth 100000
namespace Go.Proofs.Ytffljcfpofhkgaa.Pk
open Go Go.RowKit Go.Proofs.Ytffljcfpofhkgaa.Kit Go.Proofs.Ytffljcfpofhkgaa.Bv

/-- What stands behind the last whole byte of t bits. -/
def rv (S t : Nat) : Nat := S / 2 ^ (8 * (t / 8)) % 2 ^ (t % 8)
theorem rv_zero (S : Nat) : rv S 0 = 0 := by unfold rv; simp [Nat.mod_one]
theorem rv_lt (S t : Nat) : rv S t < 2 ^ (t % 8) := Nat.mod_lt _ (Nat.two_pow_pos _)
theorem rv_lt8 (S t : Nat) : rv S t < 128 := by
  have h1 := rv_lt S t
  have h2 : 2 ^ (t % 8) ≤ 2 ^ 7 := Nat.pow_le_pow_right (by decide) (by omega)
  omega
theorem rv_bit (S t : Nat) : S / 2 ^ (8 * (t / 8)) % 2 ^ (t % 8 + 1) = rv S t + 2 ^ (t % 8) * (S.testBit t).toNat := by
  unfold rv
  rw [mod_succ, Nat.testBit_div_two_pow, show t % 8 + 8 * (t / 8) = t by omega]
theorem rv_next {S t : Nat} (h : t % 8 ≠ 7) : rv S (t + 1) = rv S t + 2 ^ (t % 8) * (S.testBit t).toNat := by
  rw [← rv_bit]
  unfold rv
  rw [show (t + 1) / 8 = t / 8 by omega, show (t + 1) % 8 = t % 8 + 1 by omega]
theorem rv_full {S t : Nat} (h : t % 8 = 7) : byt S (t / 8) = rv S t + 2 ^ (t % 8) * (S.testBit t).toNat ∧ rv S (t + 1) = 0 := by
  constructor
  · rw [← rv_bit, h]; rfl
  · unfold rv
    rw [show (t + 1) % 8 = 0 by omega, Nat.pow_zero, Nat.mod_one]
theorem rv_last {S M : Nat} (h : S < 2 ^ M) : byt S (M / 8) = rv S M := by
  have h1 : S / 2 ^ (8 * (M / 8)) < 2 ^ (M % 8) := by
    apply Nat.div_lt_of_lt_mul
    rw [← Nat.pow_add, show 8 * (M / 8) + M % 8 = M by omega]
    exact h
  have h2 : 2 ^ (M % 8) ≤ 2 ^ 8 := Nat.pow_le_pow_right (by decide) (by omega)
  unfold byt rv
  rw [Nat.mod_eq_of_lt h1, Nat.mod_eq_of_lt (by omega)]
/-- A bit of a number of the list is a bit of the whole. -/
theorem bit_of {l : List Nat} {W k j x : Nat} (hl : ∀ n ∈ l, n < 2 ^ W) (hx : l[k]? = some x) (hj : j < W) : x.testBit j = (dg W l).testBit (k * W + j) := by
  rw [← dg_get W l hl k x hx, Nat.testBit_mod_two_pow, Nat.testBit_div_two_pow, decide_eq_true hj, Bool.true_and, Nat.add_comm]

theorem own_lit (w : World) (xs : Array Value) (e : TypeId) (base B n : Nat) (hB : B = w.heap.size) (hn : n = xs.size) (hm : n ≤ maxLen) (hb : base ≤ w.heap.size) :
    (w.alloc (.cells xs e)).ownsRow base e 1 (.slice (some ⟨B, 0, none⟩) n n) n xs.toList := by
  subst hB hn
  exact ⟨by simp, .inr ⟨w.heap.size, xs.size, xs, rfl, hb, heap_alloc_new w _, Nat.le_refl _, hm, by simp, by rw [Nat.mul_one, ← Array.length_toList]; exact List.take_length⟩⟩
theorem shl1_i64 (t : TypeId) (c C : Nat) (hc : c < 8) (h : 2 ^ c = C) : binOp .shl t (.int .i64 1) (.int .u64 (c : Int)) = pure (.int .i64 (C : Int)) := by
  have h1 := shift_shl .i64 .u64 1 (c : Int) (by omega) (by simp [IntKind.bits]; omega)
  have h2 : 2 ^ c ≤ 2 ^ 7 := Nat.pow_le_pow_right (by decide) (by omega)
  rw [Int.toNat_natCast, show ((1 : Int) * 2 ^ c) = ((2 ^ c : Nat) : Int) by simp, h, IntKind.wrap_i64] at h1
  rw [h] at h2
  rw [show ((C : Int) + 9223372036854775808) % 18446744073709551616 - 9223372036854775808 = (C : Int) by omega] at h1
  exact h1
theorem rem2_u64 (t : TypeId) (X u : Nat) (h : X % 2 = u) : binOp .rem t (.int .u64 (X : Int)) (.int .u64 2) = pure (.int .u64 (u : Int)) := by
  have h1 : (X : Int).tmod 2 = (u : Int) := by rw [Int.tmod_eq_emod_of_nonneg (by omega)]; omega
  simp [binOp, Op.intDiv, h1]
theorem byte_wrap (X B : Nat) (h : X % 256 = B) : IntKind.u8.wrap (X : Int) = (B : Int) := by rw [IntKind.wrap_u8]; omega
theorem le4 (n : Nat) : u8s (le 4 n) = [.int .u8 ((n % 256 : Nat) : Int), .int .u8 ((n / 256 % 256 : Nat) : Int), .int .u8 ((n / 65536 % 256 : Nat) : Int), .int .u8 ((n / 16777216 % 256 : Nat) : Int)] := by
  have h1 : n / 256 / 256 = n / 65536 := by omega
  have h2 : n / 65536 / 256 = n / 16777216 := by omega
  simp only [le, h1, h2]
  have e := fun X => byte_nat X
  unfold u8s at e ⊢
  simp only [List.map_cons, List.map_nil, List.cons.injEq, and_true] at e ⊢
  exact ⟨e _, e _, e _, e _⟩
/-- The code of a list. -/
def pcode (l : List Nat) : List UInt8 := codeP l.length (wid l) (dg (wid l) l)

set_option maxHeartbeats 8000000 in
theorem penc_any (l : List Nat) (a : Option Addr) (cap : Nat) (w : World) (hl : l.length ≤ 1048576) (hx : ∀ x ∈ l, x < 18446744073709551616) (hR : Reads w (.slice a l.length cap) (u64s l)) :
    Calls Try.prog 56 #[.slice a l.length cap] w (EncPost (pcode l) w) := by
  obtain ⟨i0, hi, hz0, hz1, hz2⟩ := info_parts info_u8
  have hmx := hR.len.2
  unfold maxLen at hmx
  have HR := Lib.hid hR
  have HX := Lib.hid hx
  have HWD := Lib.hid (rwid_any l a cap w hx hR)
  have hW := wid_64 hx
  have hWlt : ∀ x ∈ l, x < 2 ^ wid l := fun x h => wid_lt h
  have hSl := dg_take_lt hWlt l.length (Nat.le_refl _)
  rw [List.take_length] at hSl
  have HBIT := Lib.hid (fun k j x (h1 : l[k]? = some x) (h2 : j < wid l) => bit_of hWlt h1 h2)
  obtain ⟨S, hS⟩ : ∃ S, dg (wid l) l = S := ⟨_, rfl⟩
  obtain ⟨bs, hbs⟩ : ∃ bs, pcode l = bs := ⟨_, rfl⟩
  have hcd : codeP l.length (wid l) S = bs := by rw [← hbs, ← hS]; rfl
  rw [hbs]
  rw [hS] at hSl HBIT
  obtain ⟨n, hn⟩ : ∃ n, l.length = n := ⟨_, rfl⟩
  have HN := Lib.hid hn
  obtain ⟨W, hWW⟩ : ∃ W, wid l = W := ⟨_, rfl⟩
  rw [hn] at hl hmx HR HWD hcd hSl ⊢
  rw [hWW] at hW HWD hcd hSl HBIT
  have HALL := Lib.hid (codeK_all n W S)
  rw [hcd] at HALL
  have HZ := Lib.hid (codeK_zero n W S)
  have HCL := Lib.hid (codeK_len n W S)
  have HCS := Lib.hid (codeK_succ n W S)
  obtain ⟨M, hM⟩ : ∃ M, n * W = M := ⟨_, rfl⟩
  have hMl : M ≤ 1048576 * 64 := by rw [← hM]; exact Nat.mul_le_mul hl hW
  have HMK : Hid (∀ k, k < n → k * W + W ≤ M) := Lib.hid (fun k hk => by rw [← hM, ← Nat.succ_mul]; exact Nat.mul_le_mul_right _ hk)
  have HM := Lib.hid hM
  rw [hM] at HALL hSl
  have HLAST := Lib.hid (rv_last hSl)
  have HRZ := Lib.hid (rv_zero S)
  have HR8 := Lib.hid (rv_lt8 S)
  -- the head
  have hq1 := quo_nat 3 n 256 (n / 256) (by omega) (by decide) rfl
  have hq2 := quo_nat 3 n 65536 (n / 65536) (by omega) (by decide) rfl
  have hq3 := quo_nat 3 n 16777216 (n / 16777216) (by omega) (by decide) rfl
  have HL4 := Lib.hid (le4 n)
  have HBW := Lib.hid (byte_lt W (by omega))
  obtain ⟨n1, hn1⟩ : ∃ n1, n / 256 = n1 := ⟨_, rfl⟩
  obtain ⟨n2, hn2⟩ : ∃ n2, n / 65536 = n2 := ⟨_, rfl⟩
  obtain ⟨n3, hn3⟩ : ∃ n3, n / 16777216 = n3 := ⟨_, rfl⟩
  rw [hn1] at hq1
  rw [hn2] at hq2
  rw [hn3] at hq3
  rw [hn1, hn2, hn3] at HL4
  obtain ⟨b0, hb0⟩ : ∃ b, n % 256 = b := ⟨_, rfl⟩
  obtain ⟨b1, hb1⟩ : ∃ b, n1 % 256 = b := ⟨_, rfl⟩
  obtain ⟨b2, hb2⟩ : ∃ b, n2 % 256 = b := ⟨_, rfl⟩
  obtain ⟨b3, hb3⟩ : ∃ b, n3 % 256 = b := ⟨_, rfl⟩
  rw [hb0, hb1, hb2, hb3] at HL4
  have k0 := byte_wrap n b0 hb0
  have k1 := byte_wrap n1 b1 hb1
  have k2 := byte_wrap n2 b2 hb2
  have k3 := byte_wrap n3 b3 hb3
  have k4 := byte_wrap W W (by omega)
  have m0 : (n : Int) % 256 = (b0 : Int) := by omega
  have m1 : (n1 : Int) % 256 = (b1 : Int) := by omega
  have m2 : (n2 : Int) % 256 = (b2 : Int) := by omega
  have m3 : (n3 : Int) % 256 = (b3 : Int) := by omega
  have m4 : (W : Int) % 256 = (W : Int) := by omega
  have hO0 : Hid ((w.alloc (.cells #[.int .u8 (b0 : Int), .int .u8 (b1 : Int), .int .u8 (b2 : Int), .int .u8 (b3 : Int), .int .u8 (W : Int)] 5)).ownsRow w.heap.size 5 1 (.slice (some ⟨w.heap.size, 0, none⟩) 5 5) (codeK n W S 0).length (u8s (codeK n W S 0))) := Lib.hid (by
    have h := own_lit w #[.int .u8 (b0 : Int), .int .u8 (b1 : Int), .int .u8 (b2 : Int), .int .u8 (b3 : Int), .int .u8 (W : Int)] 5 w.heap.size w.heap.size 5 rfl rfl (by simp [maxLen]) (Nat.le_refl _)
    rw [HCL.out, HZ.out, u8s_append, HL4.out, HBW.out]
    exact h)
  simp only [Int.cast_ofNat_Int] at hq1 hq2 hq3
  clear hR hx hn hS hWlt hbs hcd hWW hM hSl hn1 hn2 hn3 hb0 hb1 hb2 hb3
  go_enter Try.func56, Try.ntmps56
  go_wp2_with (go_at_call 81; (with_reducible refine HWD.out.mono ?_); rintro e w1 ⟨rfl, rfl⟩)
  have hO := hO0.out
  have hb : Below w.heap.size w (w.alloc (.cells #[.int .u8 (b0 : Int), .int .u8 (b1 : Int), .int .u8 (b2 : Int), .int .u8 (b3 : Int), .int .u8 (W : Int)] 5)) := (Below.refl _ w).alloc (Nat.le_refl _) _
  clear hq1 hq2 hq3 k0 k1 k2 k3 k4 m0 m1 m2 m3 m4 HL4 HBW hO0 HWD HZ
  go_loopw [5, 6, 7, 8] (fun x v c i wr => ∃ k t : Nat, k ≤ n ∧ i = .int .i64 k ∧ Hid (t = k * W) ∧ v = .int .i64 (rv S t : Nat) ∧ c = .int .i64 ((t % 8 : Nat) : Int) ∧ wr.ownsRow w.heap.size 5 1 x (codeK n W S (t / 8)).length (u8s (codeK n W S (t / 8))) ∧ Below w.heap.size w wr) (fun _ _ _ i _ => n - (intOf i).toNat)
  case atStart => exact ⟨0, 0, Nat.zero_le _, rfl, Lib.hid (by rw [Nat.zero_mul]), by rw [HRZ.out]; rfl, rfl, hO, hb⟩
  case round =>
    clear hO hb
    obtain ⟨k, t, hk, rfl, ht, rfl, rfl, hown, hb⟩ := hrel
    by_cases hlt : k < n
    · obtain ⟨y, hyk⟩ : ∃ y, l[k]? = some y := ⟨_, List.getElem?_eq_getElem (by rw [HN.out]; exact hlt)⟩
      obtain ⟨b, off, rfl, hblt, hc0⟩ := Reads.cell HR.out (u64s_get hyk)
      have HB := Lib.hid (fun j (hj : j < W) => HBIT.out k j y hyk hj)
      have HC : Hid (∀ W' : World, Below w.heap.size w W' → W'.cell? ⟨b, off + k, none⟩ = some (.int .u64 (y : Int))) := Lib.hid (fun W' hW' => by rw [hW'.cell (p := ⟨b, off + k, none⟩) hblt]; exact hc0)
      have hyl := HX.out y (List.mem_of_getElem? hyk)
      have hmk := HMK.out k hlt
      have hkz : (k : Int) < (n : Int) := by omega
      clear hyk hc0
      go_wp2
      go_loopw [5, 6, 7, 9] (fun x v c i wr => ∃ j s : Nat, j ≤ W ∧ i = .int .i64 j ∧ Hid (s = k * W + j) ∧ v = .int .i64 (rv S s : Nat) ∧ c = .int .i64 ((s % 8 : Nat) : Int) ∧ wr.ownsRow w.heap.size 5 1 x (codeK n W S (s / 8)).length (u8s (codeK n W S (s / 8))) ∧ Below w.heap.size w wr) (fun _ _ _ i _ => W - (intOf i).toNat)
      case atStart => exact ⟨0, t, Nat.zero_le _, rfl, Lib.hid (by rw [ht.out]; rfl), rfl, rfl, hown, hb⟩
      case round =>
        clear hown hb
        obtain ⟨j, s, hj, rfl, hs, rfl, rfl, hown, hb⟩ := hrel
        by_cases hjl : j < W
        · have hcell := HC.out _ hb
          have hbit := HB.out j hjl
          rw [← hs.out] at hbit
          have hsM : s < M := by rw [hs.out]; omega
          have hu := bit_toNat y j
          rw [hbit] at hu
          have hn8 : s % 8 ≠ 7 → rv S (s + 1) = rv S s + 2 ^ (s % 8) * (S.testBit s).toNat := rv_next
          have hf8 : s % 8 = 7 → byt S (s / 8) = rv S s + 2 ^ (s % 8) * (S.testBit s).toNat ∧ rv S (s + 1) = 0 := rv_full
          have hr8 := HR8.out s
          have hrs := rv_lt S s
          have hHS : Hid (s + 1 = k * W + (j + 1)) := Lib.hid (by rw [hs.out]; omega)
          have hCS := Lib.hid (HCS.out (s / 8))
          have hCL := HCL.out (s / 8)
          obtain ⟨L, hL⟩ : ∃ L, codeK n W S (s / 8) = L := ⟨_, rfl⟩
          have HL := Lib.hid hL
          rw [hL] at hown hCS hCL
          obtain ⟨X, hX⟩ : ∃ X, y / 2 ^ j = X := ⟨_, rfl⟩
          rw [hX] at hu
          have hshr := shr_u 69 y j X (by rw [Nat.min_eq_left (by omega)]; exact hX)
          obtain ⟨c, hc⟩ : ∃ c, s % 8 = c := ⟨_, rfl⟩
          rw [hc] at hn8 hf8 hrs ⊢
          obtain ⟨V, hV⟩ : ∃ V, rv S s = V := ⟨_, rfl⟩
          rw [hV] at hn8 hf8 hr8 hrs ⊢
          obtain ⟨C, hC⟩ : ∃ C, 2 ^ c = C := ⟨_, rfl⟩
          rw [hC] at hn8 hf8 hrs
          have hc8 : c < 8 := by omega
          have hCl : C ≤ 128 := by
            rw [← hC]
            exact Nat.le_trans (Nat.pow_le_pow_right (by decide) (show c ≤ 7 by omega)) (by decide)
          have hshl := shl1_i64 3 c C hc8 hC
          have hjw : IntKind.u64.wrap (j : Int) = (j : Int) := by rw [IntKind.wrap_u64]; omega
          have hcw : IntKind.u64.wrap (c : Int) = (c : Int) := by rw [IntKind.wrap_u64]; omega
          have hLl : L.length ≤ 9000000 := by omega
          have hjz : (j : Int) < (W : Int) := by omega
          clear hX hC HB hbit hL hV hyl hCL
          have hcm := Lib.hid hc
          clear hc
          cases hb1 : S.testBit s <;> rw [hb1] at hu hn8 hf8
          · have hrem := rem2_u64 69 X 0 hu
            simp only [Int.cast_ofNat_Int] at hrem
            rw [show false.toNat = 0 from rfl, Nat.mul_zero, Nat.add_zero V] at hn8 hf8
            clear hu hb1
            by_cases h7 : c = 7
            · obtain ⟨h7a, h7b⟩ := hf8 h7
              have HB8 : Hid (u8s [UInt8.ofNat (byt S (s / 8))] = [Value.int .u8 (V : Int)]) := Lib.hid (by rw [h7a]; exact byte_lt V (by omega))
              have H7B := Lib.hid h7b
              have hcz : ((c : Int) + 1 == 8) = true := by rw [beq_iff_eq]; omega
              have hvw := byte_wrap V V (by omega)
              have hvm : (V : Int) % 256 = (V : Int) := by omega
              have hs8 : Hid ((s + 1) / 8 = s / 8 + 1 ∧ (s + 1) % 8 = 0) := Lib.hid (by have := hcm.out; omega)
              clear hn8 hf8 h7a h7b h7
              go_wp2_with (at_builtin; refine wpList_append_own _ rfl _ _ _ rfl w.heap.size 5 i0 (.int .u8 0) 1 1 Try.underlying51 hi hz0 hz1 hz2 rfl (by decide) _ L.length (u8s L) rfl (hown.alloc _) ⟨_, 0, none⟩ 1 1 [.int .u8 (V : Int)] rfl rfl (cell_one_new _ _ _) ?c2 ?c3 ?c4 ?c5 ?_)
              case c2 => simp [Value.oneCell']
              case c3 => unfold maxLen; omega
              case c4 => omega
              case c5 => have := hb.size; simp; omega
              intro v' w7 hown7 hg7 _
              have hb7 := below_own (hb.alloc (by have := hb.size; omega) _) (hown.alloc _) (Nat.le_refl _) (by have := hb.size; simp; omega) hg7
              have HO : Hid (w7.ownsRow w.heap.size 5 1 v' (codeK n W S (s / 8 + 1)).length (u8s (codeK n W S (s / 8 + 1)))) := Lib.hid (by rw [hCS.out, u8s_append, HB8.out, List.length_append]; exact hown7)
              clear hown hown7 hg7
              go_wp2
              go_roundw
              case rel => exact ⟨j + 1, s + 1, by omega, by go_num, hHS, by rw [H7B.out]; rfl, by rw [hs8.out.2]; rfl, by rw [hs8.out.1]; exact HO.out, hb7⟩
              case measure => simp [intOf]; omega
            · have h8 := Lib.hid (hn8 h7)
              have hcz : ((c : Int) + 1 == 8) = false := by rw [beq_eq_false_iff_ne]; omega
              have hs8 : Hid ((s + 1) / 8 = s / 8 ∧ (s + 1) % 8 = c + 1) := Lib.hid (by have := hcm.out; omega)
              clear hn8 hf8
              go_wp2
              go_roundw
              case rel => exact ⟨j + 1, s + 1, by omega, by go_num, hHS, by rw [h8.out], by rw [hs8.out.2]; go_num, by rw [hs8.out.1, HL.out]; exact hown, hb⟩
              case measure => simp [intOf]; omega
          · have hrem := rem2_u64 69 X 1 hu
            simp only [Int.cast_ofNat_Int] at hrem
            rw [show true.toNat = 1 from rfl, Nat.mul_one] at hn8 hf8
            clear hu hb1
            obtain ⟨V2, hV2⟩ : ∃ V2, V + C = V2 := ⟨_, rfl⟩
            rw [hV2] at hn8 hf8
            have hVz : (V : Int) + (C : Int) = (V2 : Int) := by omega
            by_cases h7 : c = 7
            · obtain ⟨h7a, h7b⟩ := hf8 h7
              have hV2l : V2 < 256 := by omega
              have HB8 : Hid (u8s [UInt8.ofNat (byt S (s / 8))] = [Value.int .u8 (V2 : Int)]) := Lib.hid (by rw [h7a]; exact byte_lt V2 (by omega))
              have H7B := Lib.hid h7b
              have hcz : ((c : Int) + 1 == 8) = true := by rw [beq_iff_eq]; omega
              have hvw := byte_wrap V2 V2 (by omega)
              have hvm : (V2 : Int) % 256 = (V2 : Int) := by omega
              have hs8 : Hid ((s + 1) / 8 = s / 8 + 1 ∧ (s + 1) % 8 = 0) := Lib.hid (by have := hcm.out; omega)
              clear hn8 hf8 h7a h7b hV2 h7
              go_wp2_with (at_builtin; refine wpList_append_own _ rfl _ _ _ rfl w.heap.size 5 i0 (.int .u8 0) 1 1 Try.underlying51 hi hz0 hz1 hz2 rfl (by decide) _ L.length (u8s L) rfl (hown.alloc _) ⟨_, 0, none⟩ 1 1 [.int .u8 (V2 : Int)] rfl rfl (cell_one_new _ _ _) ?c2 ?c3 ?c4 ?c5 ?_)
              case c2 => simp [Value.oneCell']
              case c3 => unfold maxLen; omega
              case c4 => omega
              case c5 => have := hb.size; simp; omega
              intro v' w7 hown7 hg7 _
              have hb7 := below_own (hb.alloc (by have := hb.size; omega) _) (hown.alloc _) (Nat.le_refl _) (by have := hb.size; simp; omega) hg7
              have HO : Hid (w7.ownsRow w.heap.size 5 1 v' (codeK n W S (s / 8 + 1)).length (u8s (codeK n W S (s / 8 + 1)))) := Lib.hid (by rw [hCS.out, u8s_append, HB8.out, List.length_append]; exact hown7)
              clear hown hown7 hg7
              go_wp2
              go_roundw
              case rel => exact ⟨j + 1, s + 1, by omega, by go_num, hHS, by rw [H7B.out]; rfl, by rw [hs8.out.2]; rfl, by rw [hs8.out.1]; exact HO.out, hb7⟩
              case measure => simp [intOf]; omega
            · have h8 := Lib.hid (hn8 h7)
              have hcz : ((c : Int) + 1 == 8) = false := by rw [beq_eq_false_iff_ne]; omega
              have hs8 : Hid ((s + 1) / 8 = s / 8 ∧ (s + 1) % 8 = c + 1) := Lib.hid (by have := hcm.out; omega)
              clear hn8 hf8 hV2
              go_wp2
              go_roundw
              case rel => exact ⟨j + 1, s + 1, by omega, by go_num, hHS, by rw [h8.out], by rw [hs8.out.2]; go_num, by rw [hs8.out.1, HL.out]; exact hown, hb⟩
              case measure => simp [intOf]; omega
        · obtain rfl : j = W := by omega
          have hHS : Hid (s = (k + 1) * j) := Lib.hid (by rw [hs.out, Nat.succ_mul])
          clear hjl
          go_wp2
          go_roundw
          case rel => exact ⟨k + 1, s, by omega, by go_num, hHS, rfl, rfl, hown, hb⟩
          case measure => simp [intOf]; omega
    · obtain rfl : k = n := by omega
      have htM : t = M := by rw [ht.out, HM.out]
      subst htM
      have hCL := HCL.out (t / 8)
      have hr8 := HR8.out t
      by_cases h0 : t % 8 = 0
      · have e1 : (t + 7) / 8 = t / 8 := by omega
        rw [e1] at HALL
        rw [HALL.out] at hown
        have hcz : ((t % 8 : Nat) : Int) ≤ 0 := by omega
        obtain ⟨c, hc⟩ : ∃ c, t % 8 = c := ⟨_, rfl⟩
        rw [hc] at hcz ⊢
        obtain ⟨a5, c5, h5⟩ := own_is hown
        subst h5
        clear h0 e1 hc
        go_wp2
        go_ret
        exact ⟨a5, c5, rfl, hown, hb⟩
      · have e1 : (t + 7) / 8 = t / 8 + 1 := by omega
        rw [e1, HCS.out, HLAST.out] at HALL
        have hcz : (0 : Int) < ((t % 8 : Nat) : Int) := by omega
        obtain ⟨c, hc⟩ : ∃ c, t % 8 = c := ⟨_, rfl⟩
        rw [hc] at hcz ⊢
        obtain ⟨V, hV⟩ : ∃ V, rv S t = V := ⟨_, rfl⟩
        rw [hV] at hr8 HALL ⊢
        obtain ⟨L, hL⟩ : ∃ L, codeK k W S (t / 8) = L := ⟨_, rfl⟩
        rw [hL] at hown HALL hCL
        have HB8 : Hid (u8s [UInt8.ofNat V] = [Value.int .u8 (V : Int)]) := Lib.hid (byte_lt V (by omega))
        have hvw := byte_wrap V V (by omega)
        have hvm : (V : Int) % 256 = (V : Int) := by omega
        have hLl : L.length ≤ 9000000 := by omega
        clear h0 e1 hc hV hL hCL
        go_wp2_with (at_builtin; refine wpList_append_own _ rfl _ _ _ rfl w.heap.size 5 i0 (.int .u8 0) 1 1 Try.underlying51 hi hz0 hz1 hz2 rfl (by decide) _ L.length (u8s L) rfl (hown.alloc _) ⟨_, 0, none⟩ 1 1 [.int .u8 (V : Int)] rfl rfl (cell_one_new _ _ _) ?c2 ?c3 ?c4 ?c5 ?_)
        case c2 => simp [Value.oneCell']
        case c3 => unfold maxLen; omega
        case c4 => omega
        case c5 => have := hb.size; simp; omega
        intro v' w7 hown7 hg7 _
        have hb7 := below_own (hb.alloc (by have := hb.size; omega) _) (hown.alloc _) (Nat.le_refl _) (by have := hb.size; simp; omega) hg7
        have hO : w7.ownsRow w.heap.size 5 1 v' bs.length (u8s bs) := by rw [← HALL.out, u8s_append, HB8.out, List.length_append]; exact hown7
        obtain ⟨a5, c5, h5⟩ := own_is hO
        subst h5
        clear hown hown7 hg7
        go_wp2
        go_ret
        exact ⟨a5, c5, rfl, hO, hb7⟩
end Go.Proofs.Ytffljcfpofhkgaa.Pk
