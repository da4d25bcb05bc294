/-
  The limits as mathematics: 500 rules with numbered keys, texts of the greatest length, bad texts; of no program.
-/
import Derived.Test.YtpaeppklkicngaaDoorRomZ
import Derived.Test.YtpaeppklkicngaaDoorRomDm
set_option linter.unusedVariables false
set_option linter.unusedSimpArgs false
set_option maxRecDepth 100000
namespace Go.Proofs.YtpaeppklkicngaaDoor.Rom
open Go Go.RowKit Go.Proofs.YtpaeppklkicngaaDoor.Kit Go.Proofs.YtpaeppklkicngaaDoor.Utf

theorem okL_asc {l : List R3} (ha : asc3 l = true) (ho : l.all okR3 = true) : okL (l.map mk3) = true := by
  unfold okL
  rw [Bool.and_eq_true, decide_eq_true_eq]
  constructor
  · rw [List.all_map]
    have : (okR ∘ mk3) = okR3 := funext okR_mk
    rw [this]
    exact ho
  · rw [List.map_map]
    refine List.pairwise_map.2 ((asc_pairwise l ha).imp ?_)
    intro a b h e
    have e2 : a.1 = b.1 := ba_inj e
    rw [e2, bl_irrefl] at h
    cases h
def nk (i : Nat) : List UInt8 := [UInt8.ofNat (97 + i / 26), UInt8.ofNat (97 + i % 26)]
def num3 (i : Nat) : R3 := (nk i, [227, 130, 147], [])
/-- The first m numbered rules. -/
def nums (m : Nat) : List R3 := (List.range m).map num3
theorem nums_succ (m : Nat) : nums (m + 1) = nums m ++ [num3 m] := by unfold nums; rw [List.range_succ, List.map_append]; rfl
theorem nums_len (m : Nat) : (nums m).length = m := by unfold nums; simp
theorem nums_asc : asc3 (nums 500) = true := by decide +kernel
theorem nums_ok : (nums 500).all okR3 = true := by decide +kernel
def fullL : List Rule := (nums 500).map mk3
theorem full_len : fullL.length = 500 := by unfold fullL; rw [List.length_map, nums_len]
theorem full_ok : okL fullL = true := okL_asc nums_asc nums_ok
theorem full_check : checkL fullL = 0 := by
  unfold checkL
  rw [if_neg (by rw [full_len]; omega), if_pos full_ok]
theorem full_short : ∀ r ∈ fullL, Short r := by
  intro r hr
  have h := full_ok
  unfold okL at h
  rw [Bool.and_eq_true, List.all_eq_true] at h
  have h2 := h.1 r hr
  obtain ⟨q1, _, q3, _, q5, _⟩ := okR_parts h2
  have q6 := kana_len q5
  rw [bs_len] at q6
  exact ⟨by omega, by omega, by omega⟩
/-- The text of the first m. -/
def txt (m : Nat) : List UInt8 := printB ((nums m).map mk3)
theorem txt_succ (m : Nat) : txt (m + 1) = txt m ++ (nk m ++ [9, 227, 130, 147, 10]) := by
  unfold txt
  rw [nums_succ, List.map_append]
  unfold printB
  rw [List.flatMap_append]
  congr 1
theorem txt_len (m : Nat) : (txt m).length = 7 * m := by
  induction m with
  | zero => rfl
  | succ m ih => rw [txt_succ, List.length_append, ih]; simp [nk]; omega
theorem txt_parse : parseL (ba (txt 500)) = (fullL, 0, 0) := parse_print full_check (by show (ba (txt 500)).size ≤ _; rw [ba_size, txt_len]; omega)

theorem pc_print_end {rs : List Rule} (h : ∀ r ∈ rs, okR r = true) {z : List UInt8} (hz : (10 : UInt8) ∉ z) : pc 10 (printB rs ++ z) = rs.map lineT ++ [z] := by
  induction rs with
  | nil => exact pc_none hz
  | cons r rs ih =>
    have e : printB (r :: rs) ++ z = lineT r ++ 10 :: (printB rs ++ z) := by
      show ((lineT r ++ [10]) ++ printB rs) ++ z = _
      simp
    rw [e, pc_cut (line_free (h r (by simp))), ih (fun x hx => h x (List.mem_cons_of_mem _ hx))]
    rfl
theorem fold_print_end {ls : List (List UInt8)} {rs : List Rule} : ∀ {acc : List Rule} {k : Nat}, okL (acc ++ rs) = true → (acc ++ rs).length ≤ 500 → foldP acc k (rs.map lineT ++ ls) = foldP (acc ++ rs) (k + rs.length) ls := by
  induction rs with
  | nil => intro acc k h hl; rw [List.append_nil]; rfl
  | cons r rs ih =>
    intro acc k h hl
    have h2 : okL (acc ++ [r]) = true := by
      have := okL_take (k := acc.length + 1) h
      rw [show acc ++ r :: rs = (acc ++ [r]) ++ rs by simp, List.take_left' (by simp)] at this
      exact this
    rw [okL_snoc] at h2
    simp only [Bool.and_eq_true] at h2
    obtain ⟨_, h3, h4⟩ := h2
    have hl2 : acc.length < 500 := by simp at hl; omega
    have hst : stepP acc (lineT r) = some (acc ++ [r]) := by
      unfold stepP
      rw [line_skip h3, line_rule h3]
      simp [h3, h4, hl2]
    show foldP acc k (lineT r :: (rs.map lineT ++ ls)) = _
    rw [fold_some hst, ih (by rw [List.append_assoc]; exact h) (by rw [List.append_assoc]; exact hl), List.append_assoc, List.length_cons, show k + 1 + rs.length = k + (rs.length + 1) by omega]
    rfl
def zzL : List UInt8 := [122, 122, 9, 227, 130, 147]
theorem late_parse : parseL (ba (txt 500 ++ zzL)) = ([], 501, 50) := by
  unfold parseL
  rw [if_neg (by rw [ba_size, List.length_append, txt_len]; simp [zzL]), bs_ba]
  have hok : ∀ r ∈ fullL, okR r = true := by
    have h := full_ok
    unfold okL at h
    rw [Bool.and_eq_true, List.all_eq_true] at h
    exact h.1
  have e : pc 10 (txt 500 ++ zzL) = fullL.map lineT ++ [zzL] := pc_print_end hok (by decide)
  rw [e, fold_print_end (acc := []) (by exact full_ok) (by rw [List.nil_append, full_len]; exact Nat.le_refl _)]
  rw [List.nil_append, full_len]
  have hst : stepP fullL zzL = none := by
    unfold stepP
    rw [show skips zzL = false from rfl]
    have hr : ruleOf zzL = some ⟨ba [122, 122], ba [227, 130, 147], ba []⟩ := by decide +kernel
    rw [hr]
    simp [full_len]
  rw [fold_none hst]
theorem hash_much : parseL (ba (List.replicate 1048577 35)) = ([], 0, 2) := by
  unfold parseL
  rw [if_pos (by rw [ba_size, List.length_replicate]; omega)]
theorem skips_rep (n : Nat) : skips (List.replicate (n + 1) 35) = true := rfl
theorem hash_fits : parseL (ba (List.replicate 1048576 35)) = ([], 0, 0) := by
  unfold parseL
  rw [if_neg (by rw [ba_size, List.length_replicate]; omega), bs_ba, pc_none (by intro h; have := (List.mem_replicate.1 h).2; revert this; decide), fold_skip (skips_rep 1048575)]
  rfl
def badL : List (List UInt8) := [
  [107, 97],
  [107, 97, 9, 227, 129, 139, 9],
  [107, 97, 32],
  [75, 65, 9, 227, 129, 139],
  [107, 121, 97, 97, 97, 9, 227, 129, 139],
  [107, 97, 9, 227, 130, 171],
  [107, 9],
  [107, 9, 9, 107],
  [107, 97, 9, 227, 129, 139, 9, 107, 9, 107],
  [9, 227, 129, 139],
  [107, 97, 9, 227, 129, 139, 227, 129, 139, 227, 129, 139, 227, 129, 139, 227, 129, 139],
  [107, 97, 9, 255],
  [107, 97, 9, 227, 129, 139, 13]]
theorem bad_parse : ∀ t ∈ badL, parseL (ba t) = ([], 1, 50) := by decide +kernel
theorem bad_len : ∀ t ∈ badL, t.length ≤ 20 := by decide
theorem gap_parse : parseL (ba [97, 9, 227, 129, 130, 10, 10, 97, 9, 227, 129, 132]) = ([], 3, 50) := by decide +kernel
def kk1 : Rule := ⟨ba [107, 107], ba [], ba [107]⟩
theorem kk_parse : parseL (ba [107, 107, 9, 9, 107, 10, 35, 32, 255, 10, 10, 35]) = ([kk1], 0, 0) := by decide +kernel
theorem none_parse : parseL (ba []) = ([], 0, 0) := by decide +kernel
theorem more_check : checkL (fullL ++ [noRule]) = 2 := by
  unfold checkL
  rw [if_pos (by rw [List.length_append, full_len]; simp)]
theorem def_tsu : findL defL (ba [120, 116, 115, 117]) = (⟨ba [120, 116, 115, 117], ba [227, 129, 163], ba []⟩, true) := by
  unfold defL
  rw [find_map, def_xtsu]
  rfl
theorem def_no : findL defL (ba []) = (⟨ba [], ba [], ba []⟩, false) := by
  unfold defL
  rw [find_map, show find3 def3 [] = (([], [], []), false) by decide +kernel]
  rfl
theorem def_n : longL defL (ba [110]) = true := by decide +kernel
theorem def_e : longL defL (ba []) = true := by decide +kernel
theorem def_nn : longL defL (ba [110, 110]) = false := by decide +kernel

end Go.Proofs.YtpaeppklkicngaaDoor.Rom
