/-
  Bits as mathematics: bits counted, the sums in parallel of OnesCount64, words and counts of a vector, its code. Of no program.
-/
set_option linter.unusedVariables false
set_option linter.unusedSimpArgs false
namespace Go.Proofs.Ytffljcfpofhkgaa.Bv

/-- How many of the lowest k bits of x are 1. -/
def pop : Nat → Nat → Nat
  | 0, _ => 0
  | k + 1, x => x % 2 + pop k (x / 2)
theorem pop_le (k : Nat) : ∀ x, pop k x ≤ k := by
  induction k with
  | zero => intro x; exact Nat.le_refl _
  | succ k ih => intro x; have := ih (x / 2); simp only [pop]; omega

/-! ### digits -/
/-- The number with the digits ds, 2^s the base. -/
def dg (s : Nat) : List Nat → Nat
  | [] => 0
  | d :: r => d + 2 ^ s * dg s r
def fields (s : Nat) : Nat → Nat → List Nat
  | 0, _ => []
  | k + 1, x => x % 2 ^ s :: fields s k (x / 2 ^ s)
theorem dg_fields (s : Nat) : ∀ k x, x < 2 ^ (s * k) → dg s (fields s k x) = x := by
  intro k
  induction k with
  | zero => intro x h; simp at h; subst h; rfl
  | succ k ih =>
    intro x h
    have h2 : x / 2 ^ s < 2 ^ (s * k) := by
      apply Nat.div_lt_of_lt_mul
      rw [← Nat.pow_add, show s + s * k = s * (k + 1) by rw [Nat.mul_succ]; omega]
      exact h
    simp only [fields, dg]
    rw [ih _ h2]
    exact Nat.mod_add_div x (2 ^ s)
theorem fields_len (s k x : Nat) : (fields s k x).length = k := by
  induction k generalizing x with
  | zero => rfl
  | succ k ih => simp [fields, ih]
theorem fields_lt (s : Nat) : ∀ k x, ∀ d ∈ fields s k x, d < 2 ^ s := by
  intro k
  induction k with
  | zero => intro x d h; cases h
  | succ k ih =>
    intro x d h
    simp only [fields] at h
    rcases List.mem_cons.1 h with rfl | h
    · exact Nat.mod_lt _ (Nat.two_pow_pos s)
    · exact ih _ _ h
theorem dg_lt (s : Nat) : ∀ ds : List Nat, (∀ d ∈ ds, d < 2 ^ s) → dg s ds < 2 ^ (s * ds.length) := by
  intro ds
  induction ds with
  | nil => intro _; simp [dg]
  | cons d r ih =>
    intro h
    have h1 := h d (List.mem_cons_self ..)
    have h2 := ih (fun x hx => h x (List.mem_cons_of_mem _ hx))
    simp only [dg, List.length_cons]
    rw [show s * (r.length + 1) = s + s * r.length by rw [Nat.mul_succ]; omega, Nat.pow_add]
    calc d + 2 ^ s * dg s r < 2 ^ s + 2 ^ s * dg s r := by omega
      _ = 2 ^ s * (dg s r + 1) := by rw [Nat.mul_add, Nat.mul_one]; omega
      _ ≤ 2 ^ s * 2 ^ (s * r.length) := Nat.mul_le_mul_left _ h2

/-- A low part and a high part, bit by bit. -/
theorem and_split (s a b c d : Nat) (ha : a < 2 ^ s) (hc : c < 2 ^ s) : (a + 2 ^ s * b) &&& (c + 2 ^ s * d) = (a &&& c) + 2 ^ s * (b &&& d) := by
  have hac : a &&& c < 2 ^ s := Nat.and_lt_two_pow _ hc
  apply Nat.eq_of_testBit_eq
  intro j
  rw [Nat.testBit_and, Nat.add_comm a, Nat.add_comm c, Nat.add_comm (a &&& c), Nat.testBit_two_pow_mul_add _ ha, Nat.testBit_two_pow_mul_add _ hc, Nat.testBit_two_pow_mul_add _ hac]
  split <;> simp
/-- The mask whose digits are 2^t - 1, base 2^s. -/
def mask (s t : Nat) : Nat → Nat
  | 0 => 0
  | n + 1 => (2 ^ t - 1) + 2 ^ s * mask s t n
theorem and_low (t a : Nat) : a &&& (2 ^ t - 1) = a % 2 ^ t := Nat.and_two_pow_sub_one_eq_mod a t
theorem mask_lt (s t : Nat) (h : t ≤ s) : 2 ^ t - 1 < 2 ^ s := by
  have h1 := Nat.pow_le_pow_right (n := 2) (by decide) h
  have h2 := Nat.two_pow_pos t
  omega
theorem dg_mask (s t : Nat) (h : t ≤ s) : ∀ ds : List Nat, (∀ d ∈ ds, d < 2 ^ s) → dg s ds &&& mask s t ds.length = dg s (ds.map (· % 2 ^ t)) := by
  intro ds
  induction ds with
  | nil => intro _; simp [dg, mask]
  | cons d r ih =>
    intro hd
    have h1 := hd d (List.mem_cons_self ..)
    have h2 := ih (fun x hx => hd x (List.mem_cons_of_mem _ hx))
    simp only [dg, List.length_cons, mask, List.map_cons]
    rw [and_split s _ _ _ _ h1 (mask_lt s t h), h2, and_low]
theorem dg_shift_mask (t : Nat) : ∀ ds : List Nat, (∀ d ∈ ds, d < 2 ^ (t + t)) → (dg (t + t) ds / 2 ^ t) &&& mask (t + t) t ds.length = dg (t + t) (ds.map (· / 2 ^ t)) := by
  intro ds
  induction ds with
  | nil => intro _; simp [dg, mask]
  | cons d r ih =>
    intro hd
    have h1 := hd d (List.mem_cons_self ..)
    have h2 := ih (fun x hx => hd x (List.mem_cons_of_mem _ hx))
    have hT := Nat.two_pow_pos t
    simp only [dg, List.length_cons, mask, List.map_cons]
    generalize dg (t + t) r = R at h2 ⊢
    have hq : d / 2 ^ t < 2 ^ t := by
      apply Nat.div_lt_of_lt_mul
      rw [← Nat.pow_add]; exact h1
    have e1 : (d + 2 ^ (t + t) * R) / 2 ^ t = (d / 2 ^ t + 2 ^ t * (R % 2 ^ t)) + 2 ^ (t + t) * (R / 2 ^ t) := by
      rw [Nat.pow_add, Nat.mul_assoc, Nat.add_mul_div_left _ _ hT]
      have := Nat.mod_add_div R (2 ^ t)
      rw [Nat.mul_assoc, Nat.add_assoc, ← Nat.mul_add, this]
    have hlt : d / 2 ^ t + 2 ^ t * (R % 2 ^ t) < 2 ^ (t + t) := by
      have hr := Nat.mod_lt R hT
      rw [Nat.pow_add]
      calc d / 2 ^ t + 2 ^ t * (R % 2 ^ t) < 2 ^ t + 2 ^ t * (R % 2 ^ t) := by omega
        _ = 2 ^ t * (R % 2 ^ t + 1) := by rw [Nat.mul_add, Nat.mul_one]; omega
        _ ≤ 2 ^ t * 2 ^ t := Nat.mul_le_mul_left _ hr
    rw [e1, and_split _ _ _ _ _ hlt (mask_lt _ _ (by omega)), h2, and_low, Nat.add_mul_mod_self_left, Nat.mod_eq_of_lt hq]
theorem dg_add (s : Nat) (f g : Nat → Nat) : ∀ ds : List Nat, dg s (ds.map f) + dg s (ds.map g) = dg s (ds.map fun d => f d + g d) := by
  intro ds
  induction ds with
  | nil => rfl
  | cons d r ih =>
    simp only [dg, List.map_cons]
    rw [← ih, Nat.mul_add]; omega
/-- One step of the sums in parallel: each digit is replaced by the sum of its halves. -/
theorem swar (t : Nat) (ds : List Nat) (hd : ∀ d ∈ ds, d < 2 ^ (t + t)) :
    ((dg (t + t) ds / 2 ^ t) &&& mask (t + t) t ds.length) + (dg (t + t) ds &&& mask (t + t) t ds.length) = dg (t + t) (ds.map fun d => d / 2 ^ t + d % 2 ^ t) := by
  rw [dg_shift_mask t ds hd, dg_mask _ _ (by omega) ds hd, dg_add]

def pairs (s : Nat) : List Nat → List Nat
  | a :: b :: r => (a + 2 ^ s * b) :: pairs s r
  | _ => []
theorem dg_pairs (s : Nat) : ∀ k (ds : List Nat), ds.length = 2 * k → dg (s + s) (pairs s ds) = dg s ds ∧ (pairs s ds).length = k := by
  intro k
  induction k with
  | zero => intro ds h; have : ds = [] := List.eq_nil_of_length_eq_zero h; subst this; exact ⟨rfl, rfl⟩
  | succ k ih =>
    intro ds h
    match ds, h with
    | a :: b :: r, h =>
      obtain ⟨h1, h2⟩ := ih r (by simp at h; omega)
      simp only [pairs, dg, List.length_cons, h1, h2]
      refine ⟨?_, trivial⟩
      rw [Nat.pow_add, Nat.mul_add, Nat.mul_assoc]; omega
theorem pairs_all (s : Nat) (m : Nat) : ∀ k (ds : List Nat), ds.length = 2 * k → (∀ d ∈ ds, d ≤ m) → m < 2 ^ s → ∀ x ∈ pairs s ds, x % 2 ^ s ≤ m ∧ x / 2 ^ s ≤ m ∧ x < 2 ^ (s + s) := by
  intro k
  induction k with
  | zero => intro ds h _ _ x hx; have : ds = [] := List.eq_nil_of_length_eq_zero h; subst this; cases hx
  | succ k ih =>
    intro ds h hm hs x hx
    match ds, h with
    | a :: b :: r, h =>
      simp only [pairs] at hx
      rcases List.mem_cons.1 hx with rfl | hx
      · have ha := hm a (by simp)
        have hb := hm b (by simp)
        have hT := Nat.two_pow_pos s
        rw [Nat.add_mul_mod_self_left, Nat.mod_eq_of_lt (by omega), Nat.add_mul_div_left _ _ hT, Nat.div_eq_of_lt (by omega), Nat.pow_add]
        refine ⟨ha, by omega, ?_⟩
        calc a + 2 ^ s * b < 2 ^ s + 2 ^ s * b := by omega
          _ = 2 ^ s * (b + 1) := by rw [Nat.mul_add, Nat.mul_one]; omega
          _ ≤ 2 ^ s * 2 ^ s := Nat.mul_le_mul_left _ (by omega)
      · exact ih r (by simp at h; omega) (fun d hd => hm d (by simp [hd])) hs x hx
theorem pairs_sum (s : Nat) (m : Nat) : ∀ k (ds : List Nat), ds.length = 2 * k → (∀ d ∈ ds, d ≤ m) → m < 2 ^ s → ((pairs s ds).map fun d => d / 2 ^ s + d % 2 ^ s).sum = ds.sum := by
  intro k
  induction k with
  | zero => intro ds h _ _; have : ds = [] := List.eq_nil_of_length_eq_zero h; subst this; rfl
  | succ k ih =>
    intro ds h hm hs
    match ds, h with
    | a :: b :: r, h =>
      have ha := hm a (by simp)
      have hb := hm b (by simp)
      have hT := Nat.two_pow_pos s
      simp only [pairs, List.map_cons, List.sum_cons]
      rw [ih r (by simp at h; omega) (fun d hd => hm d (by simp [hd])) hs, Nat.add_mul_mod_self_left, Nat.mod_eq_of_lt (by omega), Nat.add_mul_div_left _ _ hT, Nat.div_eq_of_lt (by omega)]
      omega
/-- The third step: sums that are masked behind the addition. -/
theorem swar4 : ∀ ds : List Nat, (∀ d ∈ ds, d % 16 ≤ 4 ∧ d / 16 ≤ 4) → (dg 8 ds / 16 + dg 8 ds) &&& mask 8 4 ds.length = dg 8 (ds.map fun d => d / 16 + d % 16) := by
  intro ds
  induction ds with
  | nil => intro _; simp [dg, mask]
  | cons d r ih =>
    intro hd
    obtain ⟨h1, h2⟩ := hd d (List.mem_cons_self ..)
    have h3 := ih (fun x hx => hd x (List.mem_cons_of_mem _ hx))
    have hR : dg 8 r % 16 ≤ 4 := by
      cases r with
      | nil => simp [dg]
      | cons x r' =>
        have := (hd x (by simp)).1
        simp only [dg]
        omega
    simp only [dg, List.length_cons, mask, List.map_cons]
    generalize dg 8 r = R at h3 hR ⊢
    have e1 : (d + 2 ^ 8 * R) / 16 + (d + 2 ^ 8 * R) = (d / 16 + d + 16 * (R % 16)) + 2 ^ 8 * (R / 16 + R) := by omega
    rw [e1, and_split 8 _ _ _ _ (by omega) (by decide), h3, and_low]
    congr 1
    omega
theorem fields_pop (k : Nat) : ∀ x, ((fields 2 k x).map fun d => d / 2 + d % 2).sum = pop (2 * k) x := by
  induction k with
  | zero => intro x; rfl
  | succ k ih =>
    intro x
    rw [show 2 * (k + 1) = 2 * k + 1 + 1 by omega]
    simp only [fields, List.map_cons, List.sum_cons, pop]
    rw [ih, show (2 : Nat) ^ 2 = 4 by rfl, show x / 2 / 2 = x / 4 by omega]
    omega

theorem ones_last (c0 c1 c2 c3 c4 c5 c6 c7 : Nat) (h0 : c0 ≤ 8) (h1 : c1 ≤ 8) (h2 : c2 ≤ 8) (h3 : c3 ≤ 8) (h4 : c4 ≤ 8) (h5 : c5 ≤ 8) (h6 : c6 ≤ 8) (h7 : c7 ≤ 8) (X Y Z : Nat)
    (hX : X = c0 + 256 * (c1 + 256 * (c2 + 256 * (c3 + 256 * (c4 + 256 * (c5 + 256 * (c6 + 256 * c7))))))) (hY : X + X / 256 = Y) (hZ : Y + Y / 65536 = Z) :
    Y < 9223372036854775808 ∧ Z < 9223372036854775808 ∧ Z + Z / 4294967296 < 9223372036854775808 ∧ (Z + Z / 4294967296) % 128 = c0 + (c1 + (c2 + (c3 + (c4 + (c5 + (c6 + c7)))))) := by
  have a1 : X / 256 = c1 + 256 * (c2 + 256 * (c3 + 256 * (c4 + 256 * (c5 + 256 * (c6 + 256 * c7))))) := by omega
  have y : Y = (c0 + c1) + 256 * ((c1 + c2) + 256 * ((c2 + c3) + 256 * ((c3 + c4) + 256 * ((c4 + c5) + 256 * ((c5 + c6) + 256 * ((c6 + c7) + 256 * c7)))))) := by omega
  clear hX hY a1
  have a2 : Y / 65536 = (c2 + c3) + 256 * ((c3 + c4) + 256 * ((c4 + c5) + 256 * ((c5 + c6) + 256 * ((c6 + c7) + 256 * c7)))) := by omega
  have hYl : Y < 9223372036854775808 := by omega
  have z : Z = (c0 + c1 + c2 + c3) + 256 * ((c1 + c2 + c3 + c4) + 256 * ((c2 + c3 + c4 + c5) + 256 * ((c3 + c4 + c5 + c6) + 256 * ((c4 + c5 + c6 + c7) + 256 * ((c5 + c6 + c7) + 256 * ((c6 + c7) + 256 * c7)))))) := by omega
  clear hZ a2 y
  have a3 : Z / 4294967296 = (c4 + c5 + c6 + c7) + 256 * ((c5 + c6 + c7) + 256 * ((c6 + c7) + 256 * c7)) := by omega
  exact ⟨hYl, by omega, by omega, by omega⟩
/-- What OnesCount64 comes to, step by step. -/
theorem ones_steps (x : Nat) (hx : x < 2 ^ 64) : ∃ x1 x2 x3 x4 x5 x6 : Nat,
    ((x / 2) &&& 6148914691236517205) + (x &&& 6148914691236517205) = x1 ∧ x1 < 18446744073709551616 ∧
    ((x1 / 4) &&& 3689348814741910323) + (x1 &&& 3689348814741910323) = x2 ∧ x2 < 18446744073709551616 ∧
    ((x2 / 16 + x2) &&& 1085102592571150095) = x3 ∧ x2 / 16 + x2 < 18446744073709551616 ∧ x3 < 18446744073709551616 ∧
    x3 + x3 / 256 = x4 ∧ x4 < 9223372036854775808 ∧ x4 + x4 / 65536 = x5 ∧ x5 < 9223372036854775808 ∧ x5 + x5 / 4294967296 = x6 ∧ x6 < 9223372036854775808 ∧
    x6 % 128 = pop 64 x := by
  have m1 : mask 2 1 32 = 6148914691236517205 := by decide +kernel
  have m2 : mask 4 2 16 = 3689348814741910323 := by decide +kernel
  have m3 : mask 8 4 8 = 1085102592571150095 := by decide +kernel
  -- first step
  have f1 := fields_lt 2 32 x
  have l1 := fields_len 2 32 x
  have s1 := swar 1 (fields 2 32 x) f1
  rw [l1, dg_fields 2 32 x hx, m1] at s1
  have p1 := fields_pop 32 x
  generalize hd1 : (fields 2 32 x).map (fun d => d / 2 ^ 1 + d % 2 ^ 1) = d1 at s1
  have hd1' : (fields 2 32 x).map (fun d => d / 2 + d % 2) = d1 := hd1
  rw [hd1'] at p1
  have b1 : ∀ d ∈ d1, d ≤ 2 := by
    intro d h
    rw [← hd1] at h
    obtain ⟨y, hy, rfl⟩ := List.mem_map.1 h
    have := f1 y hy
    omega
  have k1 : d1.length = 32 := by rw [← hd1, List.length_map, l1]
  -- second step
  obtain ⟨g1, g2⟩ := dg_pairs 2 16 d1 (by omega)
  have g3 := pairs_all 2 2 16 d1 (by omega) b1 (by decide)
  have g4 := pairs_sum 2 2 16 d1 (by omega) b1 (by decide)
  have s2 := swar 2 (pairs 2 d1) (fun d h => (g3 d h).2.2)
  rw [g2, show (2 : Nat) + 2 = 4 by rfl, m2, show (4 : Nat) = 2 + 2 by rfl, g1] at s2
  have z1 : dg 2 d1 < 18446744073709551616 := by
    have := dg_lt 2 d1 (fun d h => by have := b1 d h; omega)
    rw [k1] at this; exact this
  generalize hd2 : (pairs 2 d1).map (fun d => d / 2 ^ 2 + d % 2 ^ 2) = d2 at s2 g4
  have b2 : ∀ d ∈ d2, d ≤ 4 := by
    intro d h
    rw [← hd2] at h
    obtain ⟨y, hy, rfl⟩ := List.mem_map.1 h
    have := g3 y hy
    omega
  have k2 : d2.length = 16 := by rw [← hd2, List.length_map, g2]
  have z2 : dg 4 d2 < 4919131752989213765 := by
    have h1 : ∀ ds : List Nat, (∀ d ∈ ds, d ≤ 4) → dg 4 ds * 15 + 4 ≤ 4 * 2 ^ (4 * ds.length) := by
      intro ds
      induction ds with
      | nil => intro _; simp [dg]
      | cons d r ih =>
        intro h
        have h1 := h d (by simp)
        have h2 := ih (fun x hx => h x (by simp [hx]))
        simp only [dg, List.length_cons]
        rw [show 4 * (r.length + 1) = 4 * r.length + 4 by omega, Nat.pow_add]
        omega
    have := h1 d2 b2
    rw [k2] at this
    omega
  -- third step
  obtain ⟨g5, g6⟩ := dg_pairs 4 8 d2 (by omega)
  have g7 := pairs_all 4 4 8 d2 (by omega) b2 (by decide)
  have g8 := pairs_sum 4 4 8 d2 (by omega) b2 (by decide)
  have s3 := swar4 (pairs 4 d2) (fun d h => ⟨(g7 d h).1, (g7 d h).2.1⟩)
  rw [g6, m3, show (8 : Nat) = 4 + 4 by rfl, g5] at s3
  generalize hd3 : (pairs 4 d2).map (fun d => d / 2 ^ 4 + d % 2 ^ 4) = d3 at g8
  have hd3' : (pairs 4 d2).map (fun d => d / 16 + d % 16) = d3 := hd3
  rw [hd3'] at s3
  have b3 : ∀ d ∈ d3, d ≤ 8 := by
    intro d h
    rw [← hd3] at h
    obtain ⟨y, hy, rfl⟩ := List.mem_map.1 h
    have := g7 y hy
    omega
  have k3 : d3.length = 8 := by rw [← hd3, List.length_map, g6]
  have hsum : d3.sum = pop 64 x := by rw [g8, g4, p1]
  have z1' : dg (1 + 1) d1 < 18446744073709551616 := z1
  have z2' : dg (2 + 2) d2 < 4919131752989213765 := z2
  have z3 : dg 8 d3 / 16 < 18446744073709551616 ∧ dg 8 d3 < 18446744073709551616 := by
    have := dg_lt 8 d3 (fun d h => by have := b3 d h; omega)
    rw [k3] at this
    have h : dg 8 d3 < 18446744073709551616 := this
    exact ⟨by omega, h⟩
  have hlast : ∀ Y Z, dg 8 d3 + dg 8 d3 / 256 = Y → Y + Y / 65536 = Z → Y < 9223372036854775808 ∧ Z < 9223372036854775808 ∧ Z + Z / 4294967296 < 9223372036854775808 ∧ (Z + Z / 4294967296) % 128 = pop 64 x := by
    intro Y Z hY hZ
    clear s3 z3 g8 hd3 hd3' s1 s2 z1' z2' z1 z2 g5 g6 g7 g1 g2 g3 g4 hd1 hd2 hd1' p1 b1 b2 k1 k2 m1 m2 m3 f1 l1
    match d3, k3 with
    | [c0, c1, c2, c3, c4, c5, c6, c7], _ =>
      simp only [List.sum_cons, List.sum_nil] at hsum
      have e : dg 8 [c0, c1, c2, c3, c4, c5, c6, c7] = c0 + 256 * (c1 + 256 * (c2 + 256 * (c3 + 256 * (c4 + 256 * (c5 + 256 * (c6 + 256 * c7)))))) := by simp only [dg]; rfl
      have h0 := b3 c0 (by simp)
      have h1 := b3 c1 (by simp)
      have h2 := b3 c2 (by simp)
      have h3 := b3 c3 (by simp)
      have h4 := b3 c4 (by simp)
      have h5 := b3 c5 (by simp)
      have h6 := b3 c6 (by simp)
      have h7 := b3 c7 (by simp)
      rw [← hsum]
      generalize dg 8 [c0, c1, c2, c3, c4, c5, c6, c7] = X at e hY
      obtain ⟨q1, q2, q3, q4⟩ := ones_last c0 c1 c2 c3 c4 c5 c6 c7 h0 h1 h2 h3 h4 h5 h6 h7 X Y Z e hY hZ
      exact ⟨q1, q2, q3, q4⟩
  obtain ⟨q1, q2, q3, q4⟩ := hlast _ _ rfl rfl
  exact ⟨dg (1 + 1) d1, dg (2 + 2) d2, dg 8 d3, _, _, _, s1, z1', s2, by omega, s3, by omega, z3.2, rfl, q1, rfl, q2, rfl, q3, q4⟩

end Go.Proofs.Ytffljcfpofhkgaa.Bv
