/-
  Contract of slices.Reverse over a row of bytes of the call's own.
-/
import Derived.Test.YtffljcfpofhkgaaLoB
import Derived.BigRegion
set_option linter.unusedVariables false
set_option linter.unusedSimpArgs false
set_option maxRecDepth 100000
namespace Go.Proofs.Ytffljcfpofhkgaa.Lo
open Go Go.RowKit Go.Proofs.Ytffljcfpofhkgaa.Kit Go.Proofs.Ytffljcfpofhkgaa.Bv

abbrev By := List UInt8

/-- The first k and the last k of a list exchanged. -/
def rv (xs : By) (k : Nat) : By := (List.range xs.length).map fun t => if t < k ∨ xs.length - k ≤ t then xs.getD (xs.length - 1 - t) 0 else xs.getD t 0
theorem rv_len (xs : By) (k : Nat) : (rv xs k).length = xs.length := by simp [rv]
theorem rv_at (xs : By) (k : Nat) {t : Nat} (h : t < xs.length) : (rv xs k)[t]? = some (if t < k ∨ xs.length - k ≤ t then xs.getD (xs.length - 1 - t) 0 else xs.getD t 0) := by
  unfold rv
  rw [List.getElem?_map, List.getElem?_range h]
  rfl
theorem rv_zero (xs : By) : rv xs 0 = xs := by
  apply List.ext_getElem?
  intro t
  by_cases h : t < xs.length
  · rw [rv_at xs 0 h, if_neg (by omega), List.getD_eq_getElem?_getD, List.getElem?_eq_getElem h]; rfl
  · rw [List.getElem?_eq_none (by rw [rv_len]; omega), List.getElem?_eq_none (by omega)]
theorem rv_end (xs : By) {k : Nat} (h : xs.length ≤ 2 * k + 1) (h2 : 2 * k ≤ xs.length) : rv xs k = xs.reverse := by
  apply List.ext_getElem?
  intro t
  by_cases ht : t < xs.length
  · rw [rv_at xs k ht, List.getElem?_reverse ht]
    have e : (if t < k ∨ xs.length - k ≤ t then xs.getD (xs.length - 1 - t) 0 else xs.getD t 0) = xs.getD (xs.length - 1 - t) 0 := by
      split
      · rfl
      · rename_i hn
        have : t = xs.length - 1 - t := by omega
        rw [← this]
    rw [e, List.getD_eq_getElem?_getD, List.getElem?_eq_getElem (by omega)]; rfl
  · rw [List.getElem?_eq_none (by rw [rv_len]; omega), List.getElem?_eq_none (by rw [List.length_reverse]; omega)]
theorem rv_step (xs : By) {k : Nat} (h : 2 * k + 1 < xs.length) : ((rv xs k).set k (xs.getD (xs.length - 1 - k) 0)).set (xs.length - 1 - k) (xs.getD k 0) = rv xs (k + 1) := by
  apply List.ext_getElem?
  intro t
  rw [List.getElem?_set, List.getElem?_set]
  simp only [List.length_set, rv_len]
  by_cases ht : t < xs.length
  · rw [rv_at xs (k + 1) ht]
    by_cases e1 : xs.length - 1 - k = t
    · rw [if_pos e1, if_pos (by omega), if_pos (by omega)]
      congr 2
      omega
    · rw [if_neg e1]
      by_cases e2 : k = t
      · subst e2
        rw [if_pos rfl, if_pos ht, if_pos (by omega)]
      · rw [if_neg e2, rv_at xs k ht]
        congr 1
        by_cases e3 : t < k ∨ xs.length - k ≤ t
        · rw [if_pos e3, if_pos (by omega)]
        · rw [if_neg e3, if_neg (by omega)]
  · rw [List.getElem?_eq_none (l := rv xs (k + 1)) (by rw [rv_len]; omega), List.getElem?_eq_none (l := rv xs k) (by rw [rv_len]; omega)]
    split <;> rename_i h1
    · omega
    · split
      · omega
      · rfl
theorem u8s_set (l : By) (i : Nat) (c : UInt8) : (u8s l).set i (.int .u8 c.toNat) = u8s (l.set i c) := by simp [u8s, List.map_set]
theorem u8s_at {l : By} {i : Nat} {c : UInt8} (h : l[i]? = some c) : (u8s l)[i]? = some (.int .u8 c.toNat) := by simp [u8s, h]

set_option maxHeartbeats 2000000 in
theorem rev_any (xs : By) (base : Nat) (v : Value) (w : World) (hown : w.ownsRow base 5 1 v xs.length (u8s xs)) (hl : xs.length ≤ 1000000000) :
    Calls Try.prog 74 #[v] w fun e w' => e = .returned (.tuple #[]) ∧ w'.ownsRow base 5 1 v xs.length (u8s xs.reverse) ∧ Below base w w' := by
  rcases hown.2 with ⟨rfl, h0⟩ | ⟨g, cap, cur, rfl, hb, hg, hnc, hcm, hcs, htake⟩
  · have : xs = [] := List.eq_nil_of_length_eq_zero h0
    subst this
    go_enter Try.func74, Try.ntmps74
    go_wp2
    go_loopw [2, 3] (fun i j wr => i = .int .i64 0 ∧ j = .int .i64 (-1) ∧ wr = w) (fun i _ _ => 0)
    case atStart => exact ⟨rfl, rfl, rfl⟩
    case round =>
      obtain ⟨rfl, rfl, rfl⟩ := hrel
      go_wp2
      go_end0
      exact ⟨rfl, hown, Below.refl _ _⟩
  · clear hg hcs htake cur
    go_enter Try.func74, Try.ntmps74
    go_wp2
    go_loopw [2, 3] (fun i j wr => ∃ (k : Nat) (z : Int), i = .int .i64 k ∧ j = .int .i64 z ∧ z = (xs.length : Int) - 1 - k ∧ 2 * k ≤ xs.length ∧ Hid (wr.ownsRow base 5 1 (.slice (some ⟨g, 0, none⟩) xs.length cap) xs.length (u8s (rv xs k))) ∧ Below base w wr) (fun i _ _ => xs.length - (intOf i).toNat)
    case atStart => exact ⟨0, (xs.length : Int) - 1, rfl, rfl, by simp, by omega, by rw [rv_zero]; exact Lib.hid hown, Below.refl _ _⟩
    case round =>
      obtain ⟨k, z, rfl, rfl, hz, hk, hown, hbw⟩ := hrel
      by_cases hkl : 2 * k + 1 < xs.length
      · obtain ⟨J, hJ⟩ : ∃ J : Nat, J = xs.length - 1 - k := ⟨_, rfl⟩
        obtain rfl : z = (J : Int) := by omega
        obtain ⟨g', hg', _, _, hcell, hfz⟩ := own_cells hown.out (by omega)
        cases hg'
        have a1 := rv_at xs k (t := k) (by omega)
        rw [if_neg (by omega)] at a1
        have a2 := rv_at xs k (t := J) (by omega)
        rw [if_neg (by omega)] at a2
        have ck := hcell k _ (u8s_at a1)
        have cJ := hcell J _ (u8s_at a2)
        have fk := hfz k
        have fJ := hfz J
        have hst := rv_step xs hkl
        rw [← hJ] at hst
        have h1 := own_set hown.out (k := k) (by omega) (.int .u8 (xs.getD J 0).toNat)
        rw [u8s_set] at h1
        have h2 := own_set h1 (k := J) (by omega) (.int .u8 (xs.getD k 0).toNat)
        rw [u8s_set, hst] at h2
        have H2 := Lib.hid h2
        have hbs : Below base w ((wr.setCell ⟨g, k, none⟩ (.int .u8 (xs.getD J 0).toNat)).setCell ⟨g, J, none⟩ (.int .u8 (xs.getD k 0).toNat)) := Below.setCell (Below.setCell hbw (by exact hb) _) (by exact hb) _
        have HB := Lib.hid hbs
        have k0 : (0 : Int) ≤ k := by omega
        have k1 : (k : Int) < xs.length := by omega
        have j0 : (0 : Int) ≤ J := by omega
        have j1 : (J : Int) < xs.length := by omega
        have kj : (k : Int) < J := by omega
        have hne : k ≠ J := by omega
        have HJ := Lib.hid hJ
        clear hcell hfz a1 a2 h1 h2 hst hbs hJ hz
        generalize xs.getD J 0 = cj at *
        generalize xs.getD k 0 = ci at *
        go_wp2
        go_region
        go_wp2
        go_roundw
        case rel => exact ⟨k + 1, (J : Int) - 1, by go_num, by go_num, by have := HJ.out; omega, by omega, Lib.hid H2.out, HB.out.drew⟩
        case measure => simp [intOf]; omega
      · have he := rv_end xs (k := k) (by omega) hk
        rw [he] at hown
        clear he
        have hzk : ¬ (k : Int) < z := by omega
        go_wp2
        go_end0
        exact ⟨rfl, hown.out, hbw⟩

end Go.Proofs.Ytffljcfpofhkgaa.Lo
