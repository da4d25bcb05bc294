/-
  Contracts of bytes.Equal and of Decode.
-/
import Derived.Test.YtffljcfpofhkgaaBvK
set_option linter.unusedVariables false
set_option linter.unusedSimpArgs false
set_option maxRecDepth 100000
namespace Go.Proofs.Ytffljcfpofhkgaa.Bv
open Go Go.RowKit Go.Proofs.Ytffljcfpofhkgaa.Kit

/-- A slice that reads as bytes, made a string. -/
theorem conv_reads {w : World} {v : Value} {l : List UInt8} (h : Reads w v (u8s l)) : (convert 51 9 v).run Try.prog w = .ok (.string ⟨l.toArray⟩) w := by
  obtain ⟨a, len, cap, rfl, hl, hc, hm, hx⟩ := h
  rw [u8s_len] at hl
  rw [run_convert_bytes_string w 51 9 _ _ _ _ Try.underlying51 Try.underlying5 Try.underlying9]
  have main : ∀ x : Addr, (∀ j u, (u8s l)[j]? = some u → w.cell? (x.add j) = some u) → a = some x → (Conv.bytesToString (.slice a len cap)).run Try.prog w = .ok (.string ⟨l.toArray⟩) w := by
    intro x hcell hax
    subst hax
    rw [run_bytesToString w x len cap (l.map fun b => (b.toNat : Int))]
    · congr 2
      apply ba_ext
      rw [foldl_push]
      simp
    · have hx := run_loadCells_list (P := Try.prog) (w := w) x (u8s l) hcell
      rw [u8s_len, ← hl] at hx
      rw [hx]
      simp [u8s]
  rcases hx with ⟨rfl, h0, rfl⟩ | ⟨x, rfl, h0⟩ | ⟨b, off, rfl, hlt, hx⟩
  · have : l = [] := List.eq_nil_of_length_eq_zero (by omega)
    subst this
    subst h0
    rfl
  · have : l = [] := List.eq_nil_of_length_eq_zero (by omega)
    subst this
    exact main x (fun j u hu => by simp [u8s] at hu) rfl
  · exact main ⟨b, off, none⟩ (fun j u hu => by rw [Addr.add_lit]; exact hx j u hu) rfl

theorem eq_any (xs ys : List UInt8) (v1 v2 : Value) (w : World) (h1 : Reads w v1 (u8s xs)) (h2 : Reads w v2 (u8s ys)) :
    Calls Try.prog 58 #[v1, v2] w fun e w' => e = .returned (.bool (decide (xs = ys))) ∧ w = w' := by
  have c1 := conv_reads h1
  have c2 := conv_reads h2
  obtain ⟨a1, n1, k1, rfl, -⟩ := h1
  obtain ⟨a2, n2, k2, rfl, -⟩ := h2
  have hd : Hid (decide (xs = ys) = (xs == ys)) := Lib.hid (by rw [Bool.eq_iff_iff]; simp)
  go_enter Try.func58, Try.ntmps58
  go_wp2
  go_ret
  exact ⟨ret_bool hd.out.symm, rfl⟩
/-! ### reading a code, as mathematics -/
def b8 (bs : List UInt8) (i : Nat) : Nat := (bs.getD i 0).toNat
theorem b8_get {bs : List UInt8} {i : Nat} (h : i < bs.length) : (u8s bs)[i]? = some (.int .u8 (b8 bs i : Nat)) := by
  unfold u8s b8
  rw [List.getElem?_map, List.getD_eq_getElem?_getD, List.getElem?_eq_getElem h]; rfl
theorem b8_lt (bs : List UInt8) (i : Nat) : b8 bs i < 256 := (bs.getD i 0).toNat_lt
/-- The number in the first four bytes. -/
def num4 (bs : List UInt8) : Nat := b8 bs 0 + 256 * b8 bs 1 + 65536 * b8 bs 2 + 16777216 * b8 bs 3
/-- Bit i of what follows. -/
def dbit (bs : List UInt8) (i : Nat) : Bool := decide (b8 bs (4 + i / 8) / 2 ^ (i % 8) % 2 = 1)
def dbits (bs : List UInt8) : List Bool := (List.range (num4 bs)).map (dbit bs)
theorem dbits_len (bs : List UInt8) : (dbits bs).length = num4 bs := by simp [dbits]
/-- The vector in some bytes. -/
def decL (bs : List UInt8) : Option (List Bool) :=
  if bs.length < 4 then none else if 1048576 < num4 bs ∨ 8 * (bs.length - 4) < num4 bs then none else if code (dbits bs) = bs then some (dbits bs) else none
theorem decL_some {bs : List UInt8} {l : List Bool} (h : decL bs = some l) : code l = bs ∧ l.length ≤ 1048576 := by
  unfold decL at h
  split at h
  · cases h
  · split at h
    · cases h
    · split at h
      · rename_i h1 h2
        cases h
        refine ⟨h2, ?_⟩
        rw [dbits_len]; omega
      · cases h
theorem le_b8 (k : Nat) : ∀ n i (r : List UInt8), i < k → b8 (le k n ++ r) i = n / 256 ^ i % 256 := by
  induction k with
  | zero => intro n i r h; omega
  | succ k ih =>
    intro n i r h
    cases i with
    | zero => simp [b8, le]
    | succ i =>
      have := ih (n / 256) i r (by omega)
      unfold b8 at this ⊢
      rw [show le (k + 1) n ++ r = UInt8.ofNat (n % 256) :: (le k (n / 256) ++ r) from rfl, List.getD_cons_succ, this, Nat.div_div_eq_div_mul, Nat.pow_succ, Nat.mul_comm]
theorem b8_append (a r : List UInt8) (i : Nat) : b8 (a ++ r) (a.length + i) = b8 r i := by
  unfold b8
  rw [List.getD_eq_getElem?_getD, List.getD_eq_getElem?_getD, List.getElem?_append_right (by omega)]
  congr 3
  omega
theorem les_b8 (ns r : List Nat) (t : List UInt8) : ∀ j, j < ns.length → ∀ i, i < 8 → ∀ x, ns[j]? = some x → b8 (les 8 ns ++ t) (8 * j + i) = x / 256 ^ i % 256 := by
  induction ns with
  | nil => intro j h; simp at h
  | cons n ns ih =>
    intro j h i hi x hx
    have e : les 8 (n :: ns) ++ t = le 8 n ++ (les 8 ns ++ t) := by simp [les]
    rw [e]
    cases j with
    | zero =>
      simp at hx
      subst hx
      rw [show 8 * 0 + i = i by omega]
      exact le_b8 8 n i _ hi
    | succ j =>
      rw [show 8 * (j + 1) + i = (le 8 n).length + (8 * j + i) by rw [le_len]; omega, b8_append]
      exact ih j (by simpa using h) i hi x (by simpa using hx)
theorem num4_code (l : List Bool) (h : l.length ≤ 1048576) : num4 (code l) = l.length := by
  unfold num4 code
  rw [le_b8 4 _ 0 _ (by decide), le_b8 4 _ 1 _ (by decide), le_b8 4 _ 2 _ (by decide), le_b8 4 _ 3 _ (by decide)]
  omega
theorem dbit_code (l : List Bool) {i : Nat} (h : i < l.length) : dbit (code l) i = bt l i := by
  unfold dbit
  have e : b8 (code l) (4 + i / 8) = wat l (i / 64) / 256 ^ (i / 8 % 8) % 256 := by
    unfold code
    have h4 := le_len 4 l.length
    rw [show 4 + i / 8 = (le 4 l.length).length + i / 8 by rw [h4], b8_append]
    have := les_b8 (wds l) [] (les 4 (cts l)) (i / 64) (by rw [wds_len]; unfold nw; omega) (i / 8 % 8) (by omega) (wat l (i / 64)) (wds_get l (by unfold nw; omega))
    rw [← this]
    congr 1
    omega
  rw [e]
  have h1 := wat_bit l i
  have h2 : wat l (i / 64) / 256 ^ (i / 8 % 8) % 256 / 2 ^ (i % 8) % 2 = wat l (i / 64) / 2 ^ (i % 64) % 2 := by
    have hp : (256 : Nat) ^ (i / 8 % 8) = 2 ^ (8 * (i / 8 % 8)) := by rw [Nat.pow_mul]
    have h3 : (wat l (i / 64) / 256 ^ (i / 8 % 8) % 2 ^ 8).testBit (i % 8) = (wat l (i / 64)).testBit (i % 64) := by
      rw [Nat.testBit_mod_two_pow, hp, Nat.testBit_div_two_pow, decide_eq_true (by omega), Bool.true_and]
      congr 1
      omega
    rw [Nat.testBit_eq_decide_div_mod_eq, Nat.testBit_eq_decide_div_mod_eq] at h3
    have h4 := Nat.mod_two_eq_zero_or_one (wat l (i / 64) / 256 ^ (i / 8 % 8) % 256 / 2 ^ (i % 8))
    have h5 := Nat.mod_two_eq_zero_or_one (wat l (i / 64) / 2 ^ (i % 64))
    have h6 := decide_eq_decide.1 h3
    have h7 : (2 : Nat) ^ 8 = 256 := rfl
    rw [h7] at h6
    omega
  rw [h2, h1]
  cases bt l i <;> rfl
theorem dbits_code (l : List Bool) (h : l.length ≤ 1048576) : dbits (code l) = l := by
  apply List.ext_getElem?
  intro i
  by_cases hi : i < l.length
  · unfold dbits
    rw [List.getElem?_map, List.getElem?_range (by rw [num4_code l h]; exact hi), bt_lt hi]
    simp only [Option.map_some]
    rw [dbit_code l hi]
  · rw [List.getElem?_eq_none (by rw [dbits_len, num4_code l h]; omega), List.getElem?_eq_none (by omega)]
theorem decL_code (l : List Bool) (h : l.length ≤ 1048576) : decL (code l) = some l := by
  unfold decL
  have hc := code_len l
  have hw : l.length ≤ 64 * nw l.length := by unfold nw; omega
  rw [if_neg (by omega), num4_code l h, if_neg (by omega), dbits_code l h, if_pos rfl]
end Go.Proofs.Ytffljcfpofhkgaa.Bv
