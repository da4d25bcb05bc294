/-
  What is encoded is decoded as it was; lists too long; lists of zeros.
-/
import Derived.Test.YtffljcfpofhkgaaPkM
set_option linter.unusedVariables false
set_option linter.unusedSimpArgs false
set_option maxRecDepth 100000
namespace Go.Proofs.Ytffljcfpofhkgaa.Pk
open Go Go.RowKit Go.Proofs.Ytffljcfpofhkgaa.Kit Go.Proofs.Ytffljcfpofhkgaa.Bv

theorem pcode_len (l : List Nat) : (pcode l).length = 5 + (l.length * wid l + 7) / 8 := codeP_len _ _ _
theorem pcode_num (l : List Nat) (h : l.length ≤ 1048576) : num4 (pcode l) = l.length := by
  unfold num4 pcode codeP
  rw [le_b8 4 _ 0 _ (by decide), le_b8 4 _ 1 _ (by decide), le_b8 4 _ 2 _ (by decide), le_b8 4 _ 3 _ (by decide)]
  omega
theorem dN_pcode (l : List Nat) : dN (pcode l) = byts (dg (wid l) l) ((l.length * wid l + 7) / 8) := by
  unfold dN pcode codeP
  rw [show le 4 l.length ++ (UInt8.ofNat (wid l) :: bys (dg (wid l) l) ((l.length * wid l + 7) / 8)) = (le 4 l.length ++ [UInt8.ofNat (wid l)]) ++ bys (dg (wid l) l) ((l.length * wid l + 7) / 8) by simp]
  rw [List.drop_left' (by rw [List.length_append, le_len]; rfl)]
  unfold bys
  rw [List.map_map]
  conv => rhs; rw [← List.map_id (byts _ _)]
  apply List.map_congr_left
  intro x hx
  unfold byts at hx
  obtain ⟨i, _, rfl⟩ := List.mem_map.1 hx
  have := byt_lt (dg (wid l) l) i
  show (UInt8.ofNat (byt (dg (wid l) l) i)).toNat = byt (dg (wid l) l) i
  rw [UInt8.toNat_ofNat']
  omega
theorem dT_pcode (l : List Nat) : dT (pcode l) = dg (wid l) l := by
  unfold dT
  rw [dN_pcode, dg_byts]
  apply Nat.mod_eq_of_lt
  have h1 := dg_lt (wid l) l (fun d hd => wid_lt hd)
  refine Nat.lt_of_lt_of_le h1 (Nat.pow_le_pow_right (by decide) ?_)
  rw [Nat.mul_comm (wid l)]
  omega
theorem decP_code (l : List Nat) (h : l.length ≤ 1048576) (hx : U64 l) : decP (pcode l) = some l := by
  have hp : pnums (pcode l) = l := by
    unfold pnums
    rw [dT_pcode, pcode_width l hx, pcode_num l h]
    apply List.ext_getElem?
    intro i
    by_cases hi : i < l.length
    · rw [gvs_get hi, List.getElem?_eq_getElem hi]
      congr 1
      exact gv_list hx (List.getElem?_eq_getElem hi)
    · rw [List.getElem?_eq_none (by rw [gvs_len]; omega), List.getElem?_eq_none (by omega)]
  unfold decP
  rw [pcode_len, pcode_num l h, pcode_width l hx, if_neg (by omega), if_neg (by omega), hp, if_pos rfl]

theorem pnew_long (n : Nat) (a : Option Addr) (cap : Nat) (w : World) (hl : 1048576 < n) (hm : n ≤ maxLen) :
    Calls Try.prog 90 #[.slice a n cap] w fun e w' => e = .returned (.tuple #[.pointer none, .int .i64 2]) ∧ w = w' := by
  unfold maxLen at hm
  have h : (1048576 : Int) < (n : Int) := by omega
  clear hl
  go_enter Try.func90, Try.ntmps90
  go_wp2
  go_ret2
  exact ⟨rfl, rfl⟩
/-- So many zeros. -/
def zs (n : Nat) : List Nat := List.replicate n 0
theorem zs_len (n : Nat) : (zs n).length = n := by simp [zs]
theorem zs_u64 (n : Nat) : U64 (zs n) := by
  intro x hx
  unfold zs at hx
  rw [List.eq_of_mem_replicate hx]
  decide
theorem zs_wid (n : Nat) : wid (zs n) = 0 := by
  have h : wid (zs n) ≤ 0 := (wid_le _ 0).2 (fun x hx => by
    unfold zs at hx
    rw [List.eq_of_mem_replicate hx]
    decide)
  omega
theorem zs_code (n : Nat) : pcode (zs n) = le 4 n ++ [0] := by
  unfold pcode codeP
  rw [zs_wid, zs_len]
  have : bys (dg 0 (zs n)) ((n * 0 + 7) / 8) = [] := by
    rw [Nat.mul_zero]
    rfl
  rw [this]
  rfl
end Go.Proofs.Ytffljcfpofhkgaa.Pk
