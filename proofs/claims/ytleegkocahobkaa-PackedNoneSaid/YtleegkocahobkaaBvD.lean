/-
  Contract of bitvec.New: a vector lies where it was made, whatever lies about it.
-/
import Derived.Test.YtleegkocahobkaaBvC
import Derived.RegionTactic
import Derived.ChangeAlike
set_option linter.unusedVariables false
set_option linter.unusedSimpArgs false
set_option maxRecDepth 100000
namespace Go.Proofs.Ytleegkocahobkaa.Bv
open Go Go.RowKit Go.Proofs.Ytleegkocahobkaa.Kit

/-- An owned row is a slice. -/
theorem own_is {w : World} {base : Nat} {e : TypeId} {size : Nat} {v : Value} {n : Nat} {xs : List Value} (h : w.ownsRow base e size v n xs) : ∃ a c, v = .slice a n c := by
  rcases h.2 with ⟨rfl, h0⟩ | ⟨g, cap, cur, rfl, _⟩
  · exact ⟨none, 0, by rw [h0]⟩
  · exact ⟨_, _, rfl⟩
def bls (l : List Bool) : List Value := l.map Value.bool
theorem bls_len (l : List Bool) : (bls l).length = l.length := by simp [bls]
theorem bls_get {l : List Bool} {i : Nat} (h : i < l.length) : (bls l)[i]? = some (.bool (bt l i)) := by
  unfold bls; rw [List.getElem?_map, bt_lt h]; rfl

/-- The words after k bits. -/
def wdk (l : List Bool) (N k : Nat) : List Nat := (List.range N).map (wat (l.take k))
theorem wdk_len (l : List Bool) (N k : Nat) : (wdk l N k).length = N := by simp [wdk]
theorem wdk_get (l : List Bool) {N j : Nat} (k : Nat) (h : j < N) : (wdk l N k)[j]? = some (wat (l.take k) j) := by
  unfold wdk; rw [List.getElem?_map, List.getElem?_range h]; rfl
theorem wdk_set (l : List Bool) {N k : Nat} (hk : k / 64 < N) (hb : bt l k = true) : (wdk l N k).set (k / 64) (wat (l.take k) (k / 64) ||| 2 ^ (k % 64)) = wdk l N (k + 1) := by
  apply List.ext_getElem?
  intro j
  rw [List.getElem?_set]
  by_cases hj : j < N
  · rw [wdk_get l (k + 1) hj, wat_take]
    by_cases e : k / 64 = j
    · subst e; rw [if_pos rfl, if_pos (by rw [wdk_len]; exact hj), if_pos ⟨rfl, hb⟩]
    · rw [if_neg e, if_neg (fun h => e h.1.symm), wdk_get l k hj]
  · have h1 : (wdk l N (k + 1))[j]? = none := List.getElem?_eq_none (by rw [wdk_len]; omega)
    have h2 : (wdk l N k)[j]? = none := List.getElem?_eq_none (by rw [wdk_len]; omega)
    rw [h1, if_neg (by omega), h2]
theorem wdk_skip (l : List Bool) (N k : Nat) (hb : bt l k = false) : wdk l N k = wdk l N (k + 1) := by
  unfold wdk
  apply List.map_congr_left
  intro j _
  rw [wat_take, if_neg (fun h => by rw [hb] at h; cases h.2)]
theorem wdk_all (l : List Bool) : wdk l (nw l.length) l.length = wds l := by
  unfold wdk wds; rw [List.take_length]
theorem wdk_none (l : List Bool) (N : Nat) : wdk l N 0 = List.replicate N 0 := by
  unfold wdk
  rw [List.take_zero]
  apply List.ext_getElem (by simp)
  intro i h1 h2
  simp [wat_none]
theorem u64s_set (ns : List Nat) (i n : Nat) : u64s (ns.set i n) = (u64s ns).set i (.int .u64 (n : Int)) := by simp [u64s, List.map_set]

theorem shl_one (k : Int) (h0 : 0 ≤ k) (h1 : k < 64) : IntKind.u64.wrap (1 * 2 ^ k.toNat) = ((2 ^ k.toNat : Nat) : Int) := by
  obtain ⟨n, rfl⟩ := Int.eq_ofNat_of_zero_le h0
  have h2 : 2 ^ n ≤ 2 ^ 63 := Nat.pow_le_pow_right (by decide) (by omega)
  rw [Int.toNat_natCast, Int.one_mul]
  have : ((2 : Int) ^ n) = ((2 ^ n : Nat) : Int) := by simp
  rw [this]
  exact wrap_u64_nat _ (by omega)

theorem quo_nat (t : TypeId) (k d q : Nat) (hk : k < 4611686018427387904) (hd : 0 < d) (h : k / d = q) : binOp .quo t (.int .i64 (k : Int)) (.int .i64 (d : Int)) = pure (.int .i64 (q : Int)) := by
  have h2 : IntKind.i64.wrap ((k : Int) / (d : Int)) = (q : Int) := by
    rw [show ((k : Int) / (d : Int)) = (q : Int) by rw [← h]; simp, IntKind.wrap_i64]
    have : k / d ≤ k := Nat.div_le_self _ _
    omega
  have h0 : ¬ d = 0 := by omega
  simp [binOp, Op.intDiv, h0, h2]
theorem rem_nat (t : TypeId) (k d q : Nat) (hd : 0 < d) (h : k % d = q) : binOp .rem t (.int .i64 (k : Int)) (.int .i64 (d : Int)) = pure (.int .i64 (q : Int)) := by
  have h1 : (k : Int).tmod (d : Int) = (q : Int) := by rw [Int.tmod_eq_emod_of_nonneg (by omega), ← h]; simp
  have h0 : ¬ d = 0 := by omega
  simp [binOp, Op.intDiv, h0, h1]
theorem shl1_nat (t : TypeId) (r S : Nat) (hr : r < 64) (h : 2 ^ r = S) : binOp .shl t (.int .u64 1) (.int .i64 (r : Int)) = pure (.int .u64 (S : Int)) := by
  have h1 := shift_shl .u64 .i64 1 (r : Int) (by omega) (by simp [IntKind.bits]; omega)
  have h2 := shl_one (r : Int) (by omega) (by omega)
  rw [Int.toNat_natCast] at h1 h2
  rw [h2, h] at h1
  exact h1
theorem or_nat (t : TypeId) (a b c : Nat) (ha : a < 18446744073709551616) (hb : b < 18446744073709551616) (h : a ||| b = c) : binOp .or t (.int .u64 (a : Int)) (.int .u64 (b : Int)) = pure (.int .u64 (c : Int)) := by
  have h1 := u64_or_nat' a b ha hb
  rw [h] at h1
  have e : binOp .or t (.int .u64 (a : Int)) (.int .u64 (b : Int)) = pure (.int .u64 (bits .or .u64 (a : Int) (b : Int))) := by simp [binOp, Op.intBits, bits]
  rw [e, h1]

theorem own_blocks {w w' : World} {base B1 : Nat} {e : TypeId} {size : Nat} {v : Value} {n : Nat} {xs : List Value} (h : w.ownsRow base e size v n xs) (hB : ∀ k, v.ownBlock = some k → k < B1)
    (hk : ∀ b, base ≤ b → b < B1 → w'.heap[b]? = w.heap[b]?) : w'.ownsRow base e size v n xs := by
  refine ⟨h.1, ?_⟩
  rcases h.2 with hn | ⟨g, cap, cur, rfl, hbg, hgg, rest⟩
  · exact .inl hn
  · exact .inr ⟨g, cap, cur, rfl, hbg, by rw [hk g hbg (hB g rfl)]; exact hgg, rest⟩
theorem own_row_lt {w : World} {base : Nat} {e : TypeId} {size : Nat} {v : Value} {n : Nat} {xs : List Value} (h : w.ownsRow base e size v n xs) : ∀ k, v.ownBlock = some k → k < w.heap.size := by
  intro k hk
  rcases h.2 with ⟨rfl, _⟩ | ⟨g, cap, cur, rfl, hbg, hgg, rest⟩
  · cases hk
  · cases hk; exact (Array.getElem?_eq_some_iff.1 hgg).1
end Go.Proofs.Ytleegkocahobkaa.Bv
