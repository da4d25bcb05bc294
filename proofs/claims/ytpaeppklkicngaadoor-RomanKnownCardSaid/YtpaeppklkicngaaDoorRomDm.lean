/-
  The rules of the document as lists: in the reference's order, in the program's, and sorted by their keys; of no program.
-/
import Derived.Test.YtpaeppklkicngaaDoorRomDt
import Derived.Lib.Bytealg
set_option linter.unusedVariables false
set_option linter.unusedSimpArgs false
set_option maxRecDepth 100000
namespace Go.Proofs.YtpaeppklkicngaaDoor.Rom
open Go Go.RowKit Go.Proofs.YtpaeppklkicngaaDoor.Kit Go.Proofs.YtpaeppklkicngaaDoor.Utf

/-! ### the order of keys -/
theorem bl_irrefl : ∀ x : List UInt8, Op.bytesLess x x = false
  | [] => rfl
  | a :: x => by
    rw [Op.bytesLess, bl_irrefl x]
    simp
theorem bl_step (a b : UInt8) (x y : List UInt8) : Op.bytesLess (a :: x) (b :: y) = (decide (a.toNat < b.toNat) || (decide (a.toNat = b.toNat) && Op.bytesLess x y)) := by
  rw [Op.bytesLess]
  congr 1
  congr 1
  rw [Bool.eq_iff_iff]
  simp only [beq_iff_eq, decide_eq_true_eq]
  exact ⟨fun h => by rw [h], fun h => UInt8.toNat_inj.1 h⟩
theorem bl_trans : ∀ x y z : List UInt8, Op.bytesLess x y = true → Op.bytesLess y z = true → Op.bytesLess x z = true
  | x, y, [], _, h => by cases y <;> simp [Op.bytesLess] at h
  | [], _, c :: z, _, _ => rfl
  | a :: x, [], c :: z, h, _ => by simp [Op.bytesLess] at h
  | a :: x, b :: y, c :: z, h1, h2 => by
    rw [bl_step] at *
    simp only [Bool.or_eq_true, Bool.and_eq_true, decide_eq_true_eq] at *
    rcases h1 with h1 | ⟨h1, h3⟩ <;> rcases h2 with h2 | ⟨h2, h4⟩
    · left; omega
    · left; omega
    · left; omega
    · right; exact ⟨by omega, bl_trans x y z h3 h4⟩
theorem bl_ntrans : ∀ x y z : List UInt8, Op.bytesLess x y = false → Op.bytesLess y z = false → Op.bytesLess x z = false
  | x, y, [], _, _ => by cases x <;> rfl
  | _, [], c :: z, _, h => by simp [Op.bytesLess] at h
  | [], b :: y, c :: z, h, _ => by simp [Op.bytesLess] at h
  | a :: x, b :: y, c :: z, h1, h2 => by
    rw [bl_step] at *
    simp only [Bool.or_eq_false_iff, Bool.and_eq_false_iff, decide_eq_false_iff_not] at *
    obtain ⟨h1, h3⟩ := h1
    obtain ⟨h2, h4⟩ := h2
    refine ⟨by omega, ?_⟩
    by_cases e : a.toNat = c.toNat
    · right
      have e1 : a.toNat = b.toNat := by omega
      have e2 : b.toNat = c.toNat := by omega
      exact bl_ntrans x y z (h3.resolve_left (fun h => h e1)) (h4.resolve_left (fun h => h e2))
    · exact .inl e
theorem bl_asymm (x y : List UInt8) (h : Op.bytesLess x y = true) : Op.bytesLess y x = false := by
  cases h2 : Op.bytesLess y x
  · rfl
  · rw [← bl_irrefl x, bl_trans x y x h h2]
theorem cmp_bl : ∀ x y : List UInt8, decide (Lib.compareBytes x y < 0) = Op.bytesLess x y
  | [], [] => rfl
  | [], b :: y => rfl
  | a :: x, [] => rfl
  | a :: x, b :: y => by
    rw [bl_step, ← cmp_bl x y, Lib.compareBytes]
    by_cases h1 : a.toNat < b.toNat
    · have h2 : a < b := h1
      simp [h1, h2]
    · have h2 : ¬ a < b := h1
      by_cases h3 : b.toNat < a.toNat
      · have h4 : b < a := h3
        have h5 : ¬ a.toNat = b.toNat := by omega
        simp [h1, h2, h3, h4, h5]
      · have h4 : ¬ b < a := h3
        have h5 : a.toNat = b.toNat := by omega
        simp [h1, h2, h3, h4, h5]

/-! ### rules as triples of lists -/
abbrev R3 := List UInt8 × List UInt8 × List UInt8
def mk3 (p : R3) : Rule := ⟨ba p.1, ba p.2.1, ba p.2.2⟩
def put3 : List R3 → R3 → List R3
  | [], r => [r]
  | x :: xs, r => if Op.bytesLess r.1 x.1 then r :: x :: xs else x :: put3 xs r
theorem toList_ba (l : List UInt8) : (ba l).toList = l := by rw [Lib.toList_data]; simp [ba]
theorem putL_map (r : R3) : ∀ xs : List R3, putL (xs.map mk3) (mk3 r) = (put3 xs r).map mk3 := by
  intro xs
  induction xs with
  | nil => rfl
  | cons x xs ih =>
    rw [List.map_cons, putL, put3]
    show (if Op.bytesLess (ba r.1).toList (ba x.1).toList = true then _ else _) = _
    rw [toList_ba, toList_ba, ih]
    split <;> simp
theorem fold_map : ∀ (l xs : List R3), (l.map mk3).foldl putL (xs.map mk3) = (l.foldl put3 xs).map mk3 := by
  intro l
  induction l with
  | nil => intro xs; rfl
  | cons r l ih => intro xs; rw [List.map_cons, List.foldl_cons, List.foldl_cons, putL_map, ih]
theorem put3_perm (r : R3) : ∀ xs : List R3, (put3 xs r).Perm (r :: xs) := by
  intro xs
  induction xs with
  | nil => exact List.Perm.refl _
  | cons x xs ih =>
    unfold put3
    split
    · exact List.Perm.refl _
    · exact (ih.cons x).trans (List.Perm.swap r x xs)
theorem fold3_perm : ∀ (l xs : List R3), (l.foldl put3 xs).Perm (l ++ xs) := by
  intro l
  induction l with
  | nil => intro xs; exact List.Perm.refl _
  | cons r l ih =>
    intro xs
    rw [List.foldl_cons]
    refine (ih _).trans ?_
    refine ((put3_perm r xs).append_left l).trans ?_
    exact List.perm_middle
def find3 : List R3 → List UInt8 → R3 × Bool
  | [], _ => (([], [], []), false)
  | r :: rs, x => if r.1 = x then (r, true) else find3 rs x
theorem ba_inj {a b : List UInt8} (h : ba a = ba b) : a = b := by rw [← bs_ba a, ← bs_ba b, h]
theorem find_map (x : List UInt8) : ∀ rs : List R3, findL (rs.map mk3) (ba x) = (mk3 (find3 rs x).1, (find3 rs x).2) := by
  intro rs
  induction rs with
  | nil => rfl
  | cons r rs ih =>
    rw [List.map_cons, findL, find3, ih]
    by_cases h : r.1 = x
    · rw [if_pos h, if_pos (show (mk3 r).k = ba x by rw [← h]; rfl)]
    · rw [if_neg h, if_neg (show ¬ (mk3 r).k = ba x from fun e => h (ba_inj e))]
theorem find3_append {a : List R3} {x : List UInt8} (h : (find3 a x).2 = true) (b : List R3) : find3 (a ++ b) x = find3 a x := by
  induction a with
  | nil => cases h
  | cons r a ih =>
    rw [find3] at h
    rw [List.cons_append, find3, find3]
    split
    · rfl
    · rename_i hr; rw [if_neg hr] at h; exact ih h

/-! ### the rules -/
def vw : List UInt8 := [97, 105, 117, 101, 111]
/-- The rules of a row for the first j vowels. -/
def vow3 (L : List UInt8) (K : List (List UInt8)) (j : Nat) : List R3 := (List.range j).filterMap fun i => if K.getD i [] = [] then none else some (L ++ [vw.getD i 0], K.getD i [], [])
theorem vow3_some {L : List UInt8} {K : List (List UInt8)} {j : Nat} (h : K.getD j [] ≠ []) : vow3 L K (j + 1) = vow3 L K j ++ [(L ++ [vw.getD j 0], K.getD j [], [])] := by
  unfold vow3
  rw [List.range_succ, List.filterMap_append, List.filterMap_cons, if_neg h]
  rfl
theorem vow3_none {L : List UInt8} {K : List (List UInt8)} {j : Nat} (h : K.getD j [] = []) : vow3 L K (j + 1) = vow3 L K j := by
  unfold vow3
  rw [List.range_succ, List.filterMap_append, List.filterMap_cons, if_pos h]
  simp
/-- The letters that take small kana: k s t n h m r g z d b p. -/
def conB : List UInt8 := [107, 115, 116, 110, 104, 109, 114, 103, 122, 100, 98, 112]
def conL : List (List UInt8) := [[107], [115], [116], [110], [104], [109], [114], [103], [122], [100], [98], [112]]
def con3 (L k : List UInt8) : List R3 := [(L ++ [121, 97], k ++ [227, 130, 131], []), (L ++ [121, 117], k ++ [227, 130, 133], []), (L ++ [121, 111], k ++ [227, 130, 135], [])]
def row3 (r : List UInt8 × List (List UInt8)) : List R3 := vow3 r.1 r.2 5 ++ if r.1 ∈ conL then con3 r.1 (r.2.getD 1 []) else []
def tc3 : R3 := ([116, 99], [227, 129, 163], [99])
def n3 : List R3 := [([110], [227, 130, 147], []), ([110, 110], [227, 130, 147], []), ([110, 39], [227, 130, 147], [])]
def m3 : List R3 := [([45], [227, 131, 188], []), ([44], [227, 128, 129], []), ([46], [227, 128, 130], [])]
def dblB : List UInt8 := [98, 99, 100, 102, 103, 104, 106, 107, 109, 112, 114, 115, 116, 118, 119, 121, 122]
def dbl3 (c : UInt8) : R3 := ([c] ++ [c], [227, 129, 163], [c])
/-- In the reference's order. -/
def ref3 : List R3 := tabL.flatMap row3 ++ (n3 ++ m3 ++ [tc3]) ++ dblB.map dbl3
def tab3 : List R3 := tabL.flatMap fun r => vow3 r.1 r.2 5
/-- The kana of a letter and i. -/
def kI (c : UInt8) : List UInt8 := match c with
  | 107 => [227, 129, 141]
  | 115 => [227, 129, 151]
  | 116 => [227, 129, 161]
  | 110 => [227, 129, 171]
  | 104 => [227, 129, 178]
  | 109 => [227, 129, 191]
  | 114 => [227, 130, 138]
  | 103 => [227, 129, 142]
  | 122 => [227, 129, 152]
  | 100 => [227, 129, 162]
  | 98 => [227, 129, 179]
  | 112 => [227, 129, 180]
  | _ => []
def cons3 (c : UInt8) : List R3 := con3 [c] (kI c)
/-- In the program's order. -/
def rom3 : List R3 := tab3 ++ conB.flatMap cons3 ++ dblB.map dbl3 ++ [tc3] ++ n3 ++ m3
/-- Sorted by their keys. -/
def def3 : List R3 := [
  ([44], [227, 128, 129], []),
  ([45], [227, 131, 188], []),
  ([46], [227, 128, 130], []),
  ([97], [227, 129, 130], []),
  ([98, 97], [227, 129, 176], []),
  ([98, 98], [227, 129, 163], [98]),
  ([98, 101], [227, 129, 185], []),
  ([98, 105], [227, 129, 179], []),
  ([98, 111], [227, 129, 188], []),
  ([98, 117], [227, 129, 182], []),
  ([98, 121, 97], [227, 129, 179, 227, 130, 131], []),
  ([98, 121, 111], [227, 129, 179, 227, 130, 135], []),
  ([98, 121, 117], [227, 129, 179, 227, 130, 133], []),
  ([99, 99], [227, 129, 163], [99]),
  ([99, 104, 97], [227, 129, 161, 227, 130, 131], []),
  ([99, 104, 101], [227, 129, 161, 227, 129, 135], []),
  ([99, 104, 105], [227, 129, 161], []),
  ([99, 104, 111], [227, 129, 161, 227, 130, 135], []),
  ([99, 104, 117], [227, 129, 161, 227, 130, 133], []),
  ([100, 97], [227, 129, 160], []),
  ([100, 100], [227, 129, 163], [100]),
  ([100, 101], [227, 129, 167], []),
  ([100, 105], [227, 129, 162], []),
  ([100, 111], [227, 129, 169], []),
  ([100, 117], [227, 129, 165], []),
  ([100, 121, 97], [227, 129, 162, 227, 130, 131], []),
  ([100, 121, 111], [227, 129, 162, 227, 130, 135], []),
  ([100, 121, 117], [227, 129, 162, 227, 130, 133], []),
  ([101], [227, 129, 136], []),
  ([102, 97], [227, 129, 181, 227, 129, 129], []),
  ([102, 101], [227, 129, 181, 227, 129, 135], []),
  ([102, 102], [227, 129, 163], [102]),
  ([102, 105], [227, 129, 181, 227, 129, 131], []),
  ([102, 111], [227, 129, 181, 227, 129, 137], []),
  ([102, 117], [227, 129, 181], []),
  ([103, 97], [227, 129, 140], []),
  ([103, 101], [227, 129, 146], []),
  ([103, 103], [227, 129, 163], [103]),
  ([103, 105], [227, 129, 142], []),
  ([103, 111], [227, 129, 148], []),
  ([103, 117], [227, 129, 144], []),
  ([103, 121, 97], [227, 129, 142, 227, 130, 131], []),
  ([103, 121, 111], [227, 129, 142, 227, 130, 135], []),
  ([103, 121, 117], [227, 129, 142, 227, 130, 133], []),
  ([104, 97], [227, 129, 175], []),
  ([104, 101], [227, 129, 184], []),
  ([104, 104], [227, 129, 163], [104]),
  ([104, 105], [227, 129, 178], []),
  ([104, 111], [227, 129, 187], []),
  ([104, 117], [227, 129, 181], []),
  ([104, 121, 97], [227, 129, 178, 227, 130, 131], []),
  ([104, 121, 111], [227, 129, 178, 227, 130, 135], []),
  ([104, 121, 117], [227, 129, 178, 227, 130, 133], []),
  ([105], [227, 129, 132], []),
  ([106, 97], [227, 129, 152, 227, 130, 131], []),
  ([106, 101], [227, 129, 152, 227, 129, 135], []),
  ([106, 105], [227, 129, 152], []),
  ([106, 106], [227, 129, 163], [106]),
  ([106, 111], [227, 129, 152, 227, 130, 135], []),
  ([106, 117], [227, 129, 152, 227, 130, 133], []),
  ([107, 97], [227, 129, 139], []),
  ([107, 101], [227, 129, 145], []),
  ([107, 105], [227, 129, 141], []),
  ([107, 107], [227, 129, 163], [107]),
  ([107, 111], [227, 129, 147], []),
  ([107, 117], [227, 129, 143], []),
  ([107, 121, 97], [227, 129, 141, 227, 130, 131], []),
  ([107, 121, 111], [227, 129, 141, 227, 130, 135], []),
  ([107, 121, 117], [227, 129, 141, 227, 130, 133], []),
  ([109, 97], [227, 129, 190], []),
  ([109, 101], [227, 130, 129], []),
  ([109, 105], [227, 129, 191], []),
  ([109, 109], [227, 129, 163], [109]),
  ([109, 111], [227, 130, 130], []),
  ([109, 117], [227, 130, 128], []),
  ([109, 121, 97], [227, 129, 191, 227, 130, 131], []),
  ([109, 121, 111], [227, 129, 191, 227, 130, 135], []),
  ([109, 121, 117], [227, 129, 191, 227, 130, 133], []),
  ([110], [227, 130, 147], []),
  ([110, 39], [227, 130, 147], []),
  ([110, 97], [227, 129, 170], []),
  ([110, 101], [227, 129, 173], []),
  ([110, 105], [227, 129, 171], []),
  ([110, 110], [227, 130, 147], []),
  ([110, 111], [227, 129, 174], []),
  ([110, 117], [227, 129, 172], []),
  ([110, 121, 97], [227, 129, 171, 227, 130, 131], []),
  ([110, 121, 111], [227, 129, 171, 227, 130, 135], []),
  ([110, 121, 117], [227, 129, 171, 227, 130, 133], []),
  ([111], [227, 129, 138], []),
  ([112, 97], [227, 129, 177], []),
  ([112, 101], [227, 129, 186], []),
  ([112, 105], [227, 129, 180], []),
  ([112, 111], [227, 129, 189], []),
  ([112, 112], [227, 129, 163], [112]),
  ([112, 117], [227, 129, 183], []),
  ([112, 121, 97], [227, 129, 180, 227, 130, 131], []),
  ([112, 121, 111], [227, 129, 180, 227, 130, 135], []),
  ([112, 121, 117], [227, 129, 180, 227, 130, 133], []),
  ([114, 97], [227, 130, 137], []),
  ([114, 101], [227, 130, 140], []),
  ([114, 105], [227, 130, 138], []),
  ([114, 111], [227, 130, 141], []),
  ([114, 114], [227, 129, 163], [114]),
  ([114, 117], [227, 130, 139], []),
  ([114, 121, 97], [227, 130, 138, 227, 130, 131], []),
  ([114, 121, 111], [227, 130, 138, 227, 130, 135], []),
  ([114, 121, 117], [227, 130, 138, 227, 130, 133], []),
  ([115, 97], [227, 129, 149], []),
  ([115, 101], [227, 129, 155], []),
  ([115, 104, 97], [227, 129, 151, 227, 130, 131], []),
  ([115, 104, 101], [227, 129, 151, 227, 129, 135], []),
  ([115, 104, 105], [227, 129, 151], []),
  ([115, 104, 111], [227, 129, 151, 227, 130, 135], []),
  ([115, 104, 117], [227, 129, 151, 227, 130, 133], []),
  ([115, 105], [227, 129, 151], []),
  ([115, 111], [227, 129, 157], []),
  ([115, 115], [227, 129, 163], [115]),
  ([115, 117], [227, 129, 153], []),
  ([115, 121, 97], [227, 129, 151, 227, 130, 131], []),
  ([115, 121, 111], [227, 129, 151, 227, 130, 135], []),
  ([115, 121, 117], [227, 129, 151, 227, 130, 133], []),
  ([116, 97], [227, 129, 159], []),
  ([116, 99], [227, 129, 163], [99]),
  ([116, 101], [227, 129, 166], []),
  ([116, 105], [227, 129, 161], []),
  ([116, 111], [227, 129, 168], []),
  ([116, 115, 117], [227, 129, 164], []),
  ([116, 116], [227, 129, 163], [116]),
  ([116, 117], [227, 129, 164], []),
  ([116, 121, 97], [227, 129, 161, 227, 130, 131], []),
  ([116, 121, 111], [227, 129, 161, 227, 130, 135], []),
  ([116, 121, 117], [227, 129, 161, 227, 130, 133], []),
  ([117], [227, 129, 134], []),
  ([118, 117], [227, 130, 148], []),
  ([118, 118], [227, 129, 163], [118]),
  ([119, 97], [227, 130, 143], []),
  ([119, 111], [227, 130, 146], []),
  ([119, 119], [227, 129, 163], [119]),
  ([120, 97], [227, 129, 129], []),
  ([120, 101], [227, 129, 135], []),
  ([120, 105], [227, 129, 131], []),
  ([120, 111], [227, 129, 137], []),
  ([120, 116, 115, 117], [227, 129, 163], []),
  ([120, 116, 117], [227, 129, 163], []),
  ([120, 117], [227, 129, 133], []),
  ([120, 121, 97], [227, 130, 131], []),
  ([120, 121, 111], [227, 130, 135], []),
  ([120, 121, 117], [227, 130, 133], []),
  ([121, 97], [227, 130, 132], []),
  ([121, 111], [227, 130, 136], []),
  ([121, 117], [227, 130, 134], []),
  ([121, 121], [227, 129, 163], [121]),
  ([122, 97], [227, 129, 150], []),
  ([122, 101], [227, 129, 156], []),
  ([122, 105], [227, 129, 152], []),
  ([122, 111], [227, 129, 158], []),
  ([122, 117], [227, 129, 154], []),
  ([122, 121, 97], [227, 129, 152, 227, 130, 131], []),
  ([122, 121, 111], [227, 129, 152, 227, 130, 135], []),
  ([122, 121, 117], [227, 129, 152, 227, 130, 133], []),
  ([122, 122], [227, 129, 163], [122])]
/-- The rules of the document. -/
def defL : List Rule := def3.map mk3

theorem ref_def : ref3.foldl put3 [] = def3 := by decide +kernel
theorem rom_def : rom3.foldl put3 [] = def3 := by decide +kernel
def asc3 : List R3 → Bool
  | a :: b :: l => Op.bytesLess a.1 b.1 && asc3 (b :: l)
  | _ => true
theorem asc_pairwise : ∀ l : List R3, asc3 l = true → l.Pairwise (fun a b => Op.bytesLess a.1 b.1 = true)
  | [], _ => List.Pairwise.nil
  | [a], _ => List.pairwise_singleton _ _
  | a :: b :: l, h => by
    rw [asc3, Bool.and_eq_true] at h
    have ih := asc_pairwise (b :: l) h.2
    rw [List.pairwise_cons]
    refine ⟨fun c hc => ?_, ih⟩
    rcases List.mem_cons.1 hc with rfl | hc
    · exact h.1
    · exact bl_trans _ _ _ h.1 ((List.pairwise_cons.1 ih).1 c hc)
theorem def_asc : def3.Pairwise (fun a b => Op.bytesLess a.1 b.1 = true) := asc_pairwise _ (by decide +kernel)
theorem def_len : defL.length = 162 := by unfold defL; rw [List.length_map]; decide +kernel
theorem ref_put : (ref3.map mk3).foldl putL [] = defL := by
  have := fold_map ref3 []
  rw [ref_def] at this
  exact this
theorem rom_len : rom3.length = 162 := by decide +kernel
theorem ref_len : ref3.length = 162 := by decide +kernel

/-- A list of these rules that is sorted is the list. -/
theorem rom_sorted {l : List Rule} (hp : l.Perm (rom3.map mk3)) (hs : l.Pairwise (fun a b => Op.bytesLess b.k.toList a.k.toList = false)) : l = defL := by
  have hp2 : l.Perm defL := by
    refine hp.trans (List.Perm.map _ ?_)
    have := fold3_perm rom3 []
    rw [rom_def, List.append_nil] at this
    exact this.symm
  have hd : defL.Pairwise (fun a b => Op.bytesLess a.k.toList b.k.toList = true) := by
    unfold defL
    rw [List.pairwise_map]
    refine def_asc.imp ?_
    intro a b h
    show Op.bytesLess (ba a.1).toList (ba b.1).toList = true
    rw [toList_ba, toList_ba]
    exact h
  have hmem : ∀ a ∈ defL, ∀ b ∈ defL, Op.bytesLess b.k.toList a.k.toList = false → Op.bytesLess a.k.toList b.k.toList = false → a = b := by
    intro a ha b hb h1 h2
    obtain ⟨i, hi, rfl⟩ := List.getElem_of_mem ha
    obtain ⟨j, hj, rfl⟩ := List.getElem_of_mem hb
    have hg := List.pairwise_iff_getElem.1 hd
    by_cases e : i = j
    · subst e; rfl
    · exfalso
      by_cases e2 : i < j
      · rw [hg i j hi hj e2] at h2; cases h2
      · rw [hg j i hj hi (by omega)] at h1; cases h1
  exact List.Perm.eq_of_pairwise (le := fun a b => Op.bytesLess b.k.toList a.k.toList = false) (fun a b ha hb h1 h2 => hmem a (hp2.mem_iff.1 ha) b hb h1 h2) hs (hd.imp fun h => bl_asymm _ _ h) hp2

/-! ### they are allowed -/
def okR3 (p : R3) : Bool := decide (1 ≤ p.1.length ∧ p.1.length ≤ 4) && keysOK p.1 && decide (p.2.2.length < p.1.length) && keysOK p.2.2 && kanaOK p.2.1 && decide (p.2.1.length ≠ 0 ∨ p.2.2.length ≠ 0)
theorem okR_mk (p : R3) : okR (mk3 p) = okR3 p := by
  unfold okR okR3 mk3
  simp only [bs_ba, ba_size]
theorem def_ok : def3.all okR3 = true := by decide +kernel
theorem def_check : checkL defL = 0 := by
  unfold checkL
  rw [if_neg (by rw [def_len]; omega), if_pos]
  unfold okL
  rw [Bool.and_eq_true, decide_eq_true_eq]
  constructor
  · unfold defL
    rw [List.all_map]
    have : (okR ∘ mk3) = okR3 := funext okR_mk
    rw [this]
    exact def_ok
  · unfold defL
    rw [List.map_map]
    refine List.pairwise_map.2 (def_asc.imp ?_)
    intro a b h e
    have e2 : a.1 = b.1 := ba_inj e
    rw [e2, bl_irrefl] at h
    cases h
theorem kI_find : ∀ c ∈ conB, find3 tab3 ([c] ++ [105]) = (([c] ++ [105], kI c, []), true) := by decide +kernel
theorem def_xtsu : find3 def3 [120, 116, 115, 117] = (([120, 116, 115, 117], [227, 129, 163], []), true) := by decide +kernel

end Go.Proofs.YtpaeppklkicngaaDoor.Rom
