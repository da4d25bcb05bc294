/-
  Contracts of the reference's same, Width and Find, and of the laws' SameBytes.
-/
import Derived.Test.YtffljcfpofhkgaaPkE
set_option linter.unusedVariables false
set_option linter.unusedSimpArgs false
set_option maxRecDepth 100000
namespace Go.Proofs.Ytffljcfpofhkgaa.Pk
open Go Go.RowKit Go.Proofs.Ytffljcfpofhkgaa.Kit Go.Proofs.Ytffljcfpofhkgaa.Bv

theorem u8_get {l : List UInt8} {i : Nat} {b : UInt8} (h : l[i]? = some b) : (u8s l)[i]? = some (.int .u8 (b.toNat : Int)) := by
  unfold u8s; rw [List.getElem?_map, h]; rfl
theorem take_next {xs ys : List UInt8} {i : Nat} {x y : UInt8} (h : xs.take i = ys.take i) (hx : xs[i]? = some x) (hy : ys[i]? = some y) : x = y ↔ xs.take (i + 1) = ys.take (i + 1) := by
  rw [List.take_add_one, List.take_add_one, hx, hy, h]
  constructor
  · intro e; rw [e]
  · intro e
    have := List.append_cancel_left e
    simpa using this

set_option maxHeartbeats 1000000 in
theorem rsam_any (xs ys : List UInt8) (a1 a2 : Option Addr) (c1 c2 : Nat) (B : Bool) (hB : decide (xs = ys) = B) (w : World) (h1 : Reads w (.slice a1 xs.length c1) (u8s xs)) (h2 : Reads w (.slice a2 ys.length c2) (u8s ys)) :
    Calls Try.prog 88 #[.slice a1 xs.length c1, .slice a2 ys.length c2] w fun e w' => e = .returned (.bool B) ∧ Below w.heap.size w w' := by
  have hlen1 := h1.len.2
  have hlen2 := h2.len.2
  unfold maxLen at hlen1 hlen2
  have H1 := Lib.hid h1
  have H2 := Lib.hid h2
  obtain ⟨n, hn⟩ : ∃ n, xs.length = n := ⟨_, rfl⟩
  obtain ⟨m, hm⟩ : ∃ m, ys.length = m := ⟨_, rfl⟩
  have HN := Lib.hid hn
  have HM := Lib.hid hm
  rw [hn] at H1 hlen1 ⊢
  rw [hm] at H2 hlen2 ⊢
  clear h1 h2
  by_cases hnm : n = m
  · subst hnm
    have HB := Lib.hid hB
    have hd : ((n : Int) != (n : Int)) = false := by rw [bne_eq_false_iff_eq]
    clear hn hm hB
    go_enter Try.func88, Try.ntmps88
    go_wp2
    go_loopw [5] (fun y wr => ∃ i : Nat, i ≤ n ∧ y = .int .i64 i ∧ Hid (xs.take i = ys.take i) ∧ Below w.heap.size w wr) (fun y _ => n - (intOf y).toNat)
    case atStart => exact ⟨0, Nat.zero_le _, rfl, Lib.hid (by simp), Below.refl _ _⟩
    case round =>
      obtain ⟨i, hi, rfl, heq, hb⟩ := hrel
      by_cases hlt : i < n
      · obtain ⟨x, hx⟩ : ∃ x, xs[i]? = some x := ⟨_, List.getElem?_eq_getElem (by rw [HN.out]; exact hlt)⟩
        obtain ⟨y, hy⟩ : ∃ y, ys[i]? = some y := ⟨_, List.getElem?_eq_getElem (by rw [HM.out]; exact hlt)⟩
        obtain ⟨b1, o1, rfl, hb1, x1⟩ := Reads.cell H1.out (u8_get hx)
        obtain ⟨b2, o2, rfl, hb2, x2⟩ := Reads.cell H2.out (u8_get hy)
        rw [← hb.cell (p := ⟨b1, o1 + i, none⟩) hb1] at x1
        rw [← hb.cell (p := ⟨b2, o2 + i, none⟩) hb2] at x2
        have hT := Lib.hid (take_next heq.out hx hy)
        have hiz : (i : Int) < (n : Int) := by omega
        have hi0 : (0 : Int) ≤ (i : Int) := by omega
        clear hx hy
        by_cases hxy : x = y
        · subst hxy
          have HT := Lib.hid (hT.out.1 rfl)
          clear hT heq
          go_wp2
          go_quiet (fail)
          go_wp2
          go_roundw
          case rel => exact ⟨i + 1, by omega, by go_num, HT, below_drewN hb _⟩
          case measure => simp [intOf]; omega
        · have hne : ((x.toNat : Int) != (y.toNat : Int)) = true := by
            rw [bne_iff_ne]
            intro e
            exact hxy (UInt8.toNat_inj.1 (by omega))
          have hBf : B = false := by
            rw [← HB.out]
            apply decide_eq_false
            intro e
            exact hxy (hT.out.2 (by rw [e]))
          subst hBf
          clear hT heq hxy
          go_wp2
          go_quiet (fail)
          go_wp2
          go_ret
          exact ⟨rfl, below_drewN hb _⟩
      · obtain rfl : i = n := by omega
        have hBt : B = true := by
          rw [← HB.out]
          apply decide_eq_true
          have := heq.out
          rwa [List.take_of_length_le (by rw [HN.out]; exact Nat.le_refl _), List.take_of_length_le (by rw [HM.out]; exact Nat.le_refl _)] at this
        subst hBt
        go_wp2
        go_ret
        exact ⟨rfl, hb⟩
  · have hBf : B = false := by
      rw [← hB]
      apply decide_eq_false
      intro e
      exact hnm (by rw [← hn, ← hm, e])
    subst hBf
    have hd : ((n : Int) != (m : Int)) = true := by rw [bne_iff_ne]; omega
    clear hn hm hB hnm
    go_enter Try.func88, Try.ntmps88
    go_wp2
    go_ret
    exact ⟨rfl, Below.refl _ _⟩

/-! ### Width -/
theorem shr_u (t : TypeId) (x s V : Nat) (h : x / 2 ^ (min s 64) = V) : binOp .shr t (.int .u64 (x : Int)) (.int .u64 (s : Int)) = pure (.int .u64 (V : Int)) := by
  have h1 := shift_shr_any .u64 .u64 (x : Int) (s : Int) (by omega)
  rw [Int.toNat_natCast, show IntKind.u64.bits = 64 from rfl, show ((2 : Int) ^ (min s 64)) = ((2 ^ (min s 64) : Nat) : Int) by simp, ← Int.natCast_ediv, h] at h1
  exact h1
theorem div_zero_iff (x m : Nat) : x / 2 ^ m = 0 ↔ blen x ≤ m := by
  rw [blen_le, Nat.div_eq_zero_iff]
  have := Nat.two_pow_pos m
  omega
set_option maxHeartbeats 1000000 in
theorem rwid_any (l : List Nat) (a : Option Addr) (cap : Nat) (w : World) (hx : ∀ x ∈ l, x < 18446744073709551616) (hR : Reads w (.slice a l.length cap) (u64s l)) :
    Calls Try.prog 81 #[.slice a l.length cap] w fun e w' => e = .returned (.int .i64 (wid l : Nat)) ∧ w = w' := by
  have hmx := hR.len.2
  unfold maxLen at hmx
  have HR := Lib.hid hR
  have HX := Lib.hid hx
  have H64 := Lib.hid (fun k => wid_64 (l := l.take k) (fun n hn => hx n (List.mem_of_mem_take hn)))
  have HT := Lib.hid (fun k x => @wid_take l k x)
  obtain ⟨n, hn⟩ : ∃ n, l.length = n := ⟨_, rfl⟩
  have HN := Lib.hid hn
  have HALL : Hid (wid (l.take n) = wid l) := Lib.hid (by rw [← hn, List.take_length])
  have H0 : Hid (wid (l.take 0) = 0) := Lib.hid rfl
  rw [hn] at hmx HR ⊢
  clear hR hx hn
  go_enter Try.func81, Try.ntmps81
  go_wp2
  go_loopw [3, 4] (fun x i wr => ∃ k : Nat, k ≤ n ∧ i = .int .i64 k ∧ x = .int .i64 (wid (l.take k) : Nat) ∧ w = wr) (fun _ i _ => n - (intOf i).toNat)
  case atStart => exact ⟨0, Nat.zero_le _, rfl, by rw [H0.out]; rfl, rfl⟩
  case round =>
    obtain ⟨k, hk, rfl, rfl, hww⟩ := hrel
    subst hww
    by_cases hlt : k < n
    · obtain ⟨x, hxk⟩ : ∃ x, l[k]? = some x := ⟨_, List.getElem?_eq_getElem (by rw [HN.out]; exact hlt)⟩
      obtain ⟨b, off, rfl, hblt, hc0⟩ := Reads.cell HR.out (u64s_get hxk)
      have hxl := HX.out x (List.mem_of_getElem? hxk)
      have ht := HT.out k x hxk
      have h64 := H64.out (k + 1)
      obtain ⟨V, hV⟩ : ∃ V, wid (l.take k) = V := ⟨_, rfl⟩
      obtain ⟨V2, hV2⟩ : ∃ V2, wid (l.take (k + 1)) = V2 := ⟨_, rfl⟩
      rw [hV, hV2] at ht
      rw [hV2] at h64
      rw [hV]
      have HV2 := Lib.hid hV2
      have HD := Lib.hid (div_zero_iff x)
      obtain ⟨L, hL⟩ : ∃ L, blen x = L := ⟨_, rfl⟩
      rw [hL] at ht HD
      have hVV : V ≤ V2 := by omega
      have hkz : (k : Int) < (n : Int) := by omega
      clear hxk hV hV2 hL
      go_wp2
      go_loopw [3] (fun y W => ∃ m : Nat, y = .int .i64 m ∧ V ≤ m ∧ m ≤ V2 ∧ w = W) (fun y _ => 64 - (intOf y).toNat)
      case atStart => exact ⟨V, rfl, Nat.le_refl _, hVV, rfl⟩
      case round =>
        obtain ⟨m, rfl, hm1, hm2, hww⟩ := hrel
        subst hww
        by_cases hm : m < 64
        · have hmz : (m : Int) < 64 := by omega
          obtain ⟨X, hX⟩ : ∃ X, x / 2 ^ m = X := ⟨_, rfl⟩
          have hshr := shr_u 69 x m X (by rw [Nat.min_eq_left (by omega)]; exact hX)
          have hd := HD.out m
          rw [hX] at hd
          have hwm : IntKind.u64.wrap (m : Int) = (m : Int) := by rw [IntKind.wrap_u64]; omega
          clear hX
          by_cases hX0 : X = 0
          · have hbe : ((X : Int) != 0) = false := by rw [bne_eq_false_iff_eq]; omega
            have hm3 : m = V2 := by omega
            subst hm3
            subst hX0
            clear hd ht hm1 hm2 hVV
            go_wp2
            go_roundw
            case rel => exact ⟨k + 1, by omega, by go_num, by rw [HV2.out], trivial⟩
            case measure => simp [intOf]; omega
          · have hbe : ((X : Int) != 0) = true := by rw [bne_iff_ne]; omega
            have hm3 : m + 1 ≤ V2 := by omega
            clear hd ht
            go_wp2
            go_roundw
            case rel => exact ⟨m + 1, by go_num, by omega, hm3, trivial⟩
            case measure => simp [intOf]; omega
        · have hmz : (64 : Int) ≤ (m : Int) := by omega
          have hm3 : m = V2 := by omega
          subst hm3
          clear ht hm1 hm2 hVV
          go_wp2
          go_roundw
          case rel => exact ⟨k + 1, by omega, by go_num, by rw [HV2.out], trivial⟩
          case measure => simp [intOf]; omega
    · obtain rfl : k = n := by omega
      rw [HALL.out]
      go_wp2
      go_ret
      exact ⟨rfl, rfl⟩
/-! ### Find -/
/-- What Find asks of number i of a list. -/
def fl (l : List Nat) (x i : Nat) : Bool := decide (l.length ≤ i ∨ x ≤ l.getD i 0)
def RFindPost (l : List Nat) (x : Nat) (w : World) (e : Ending) (w' : World) : Prop := ∃ r : Nat, e = .returned (.int .i64 (r : Int)) ∧ Bv.Found l.length (fl l x) r ∧ w = w'
theorem getD_of {l : List Nat} {i x : Nat} (h : l[i]? = some x) : l.getD i 0 = x := by rw [List.getD_eq_getElem?_getD, h]; rfl
theorem found_unique {n : Nat} {p q : Nat → Bool} (h : ∀ i, i < n → p i = q i) {r s : Nat} (h1 : Bv.Found n p r) (h2 : Bv.Found n q s) : r = s := by
  obtain ⟨a1, a2, a3⟩ := h1
  obtain ⟨b1, b2, b3⟩ := h2
  rcases Nat.lt_trichotomy r s with hlt | he | hgt
  · have e1 := a3 (by omega)
    have e2 := b2 r hlt
    rw [h r (by omega), e2] at e1
    cases e1
  · exact he
  · have e1 := b3 (by omega)
    have e2 := a2 s hgt
    rw [← h s (by omega), e2] at e1
    cases e1
end Go.Proofs.Ytffljcfpofhkgaa.Pk
