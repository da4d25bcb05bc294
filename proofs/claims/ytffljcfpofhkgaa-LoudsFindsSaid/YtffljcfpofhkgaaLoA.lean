/-
  Where a trie lies; contracts of Len, family, parent.
-/
import Derived.Test.YtffljcfpofhkgaaLoMathD
import Derived.Test.YtffljcfpofhkgaaPkN
set_option linter.unusedVariables false
set_option linter.unusedSimpArgs false
set_option maxRecDepth 100000
namespace Go.Proofs.Ytffljcfpofhkgaa.Lo
open Go Go.RowKit Go.Proofs.Ytffljcfpofhkgaa.Kit Go.Proofs.Ytffljcfpofhkgaa.Bv Go.Proofs.Ytffljcfpofhkgaa.Pk

/-- The pointer to block p is the trie of the strings L; what it consists of lies from B0 on and below B1. -/
def TrieAt (B0 B1 : Nat) (w : World) (p : Nat) (L : List Str) : Prop :=
  B0 ≤ p ∧ p < B1 ∧ ∃ ps pe pn pd a c, w.heap[p]? = some (.cells #[.pointer (some ⟨ps, 0, none⟩), .pointer (some ⟨pe, 0, none⟩), .slice a (labs L).length c, .pointer (some ⟨pn, 0, none⟩), .pointer (some ⟨pd, 0, none⟩)] 74 (0, 0)) ∧
    VecAt B0 B1 w ps (shp L) ∧ VecAt B0 B1 w pe (ends L) ∧ w.ownsRow B0 5 1 (.slice a (labs L).length c) (labs L).length (u8s (labs L)) ∧ (∀ k, (Value.slice a (labs L).length c).ownBlock = some k → k < B1) ∧
    PkAt B0 B1 w pn (nums L) ∧ PkAt B0 B1 w pd (nods L)
theorem TrieAt.later {B0 B1 : Nat} {w w' : World} {p : Nat} {L : List Str} (h : TrieAt B0 B1 w p L) (hk : ∀ b, B0 ≤ b → b < B1 → w'.heap[b]? = w.heap[b]?) : TrieAt B0 B1 w' p L := by
  obtain ⟨h1, h2, ps, pe, pn, pd, a, c, h3, h4, h5, h6, h7, h8, h9⟩ := h
  exact ⟨h1, h2, ps, pe, pn, pd, a, c, by rw [hk p h1 h2]; exact h3, h4.later hk, h5.later hk, own_blocks h6 h7 hk, h7, h8.later hk, h9.later hk⟩
theorem TrieAt.below {B0 B1 B : Nat} {w w' : World} {p : Nat} {L : List Str} (h : TrieAt B0 B1 w p L) (hb : Below B w w') (hB : B1 ≤ B) : TrieAt B0 B1 w' p L :=
  h.later fun b _ h2 => hb.block b (by omega)
theorem TrieAt.wide {B0 B1 B0' B1' : Nat} {w : World} {p : Nat} {L : List Str} (h : TrieAt B0 B1 w p L) (h0 : B0' ≤ B0) (h1 : B1 ≤ B1') : TrieAt B0' B1' w p L := by
  obtain ⟨k1, k2, ps, pe, pn, pd, a, c, h3, h4, h5, h6, h7, h8, h9⟩ := h
  exact ⟨by omega, by omega, ps, pe, pn, pd, a, c, h3, h4.wide h0 h1, h5.wide h0 h1, own_base h6 h0, fun k hk => Nat.lt_of_lt_of_le (h7 k hk) h1, IntsAt.wide h8 h0 h1, IntsAt.wide h9 h0 h1⟩
/-- What the walk asks of a trie. -/
theorem TrieAt.use {B0 B1 : Nat} {w : World} {p : Nat} {L : List Str} (h : TrieAt B0 B1 w p L) : ∃ ps pe pn pd a c, p < B1 ∧
    (w.cell? ⟨p, 0, none⟩ = some (.pointer (some ⟨ps, 0, none⟩)) ∧ w.cell? ⟨p, 1, none⟩ = some (.pointer (some ⟨pe, 0, none⟩)) ∧ w.cell? ⟨p, 2, none⟩ = some (.slice a (labs L).length c) ∧ w.cell? ⟨p, 3, none⟩ = some (.pointer (some ⟨pn, 0, none⟩)) ∧ w.cell? ⟨p, 4, none⟩ = some (.pointer (some ⟨pd, 0, none⟩))) ∧
    VecAt B0 B1 w ps (shp L) ∧ VecAt B0 B1 w pe (ends L) ∧ Reads w (.slice a (labs L).length c) (u8s (labs L)) ∧ PkAt B0 B1 w pn (nums L) ∧ PkAt B0 B1 w pd (nods L) := by
  obtain ⟨h1, h2, ps, pe, pn, pd, a, c, h3, h4, h5, h6, h7, h8, h9⟩ := h
  exact ⟨ps, pe, pn, pd, a, c, h2, ⟨by rw [cell_of_row w _ 0 _ _ _ h3]; rfl, by rw [cell_of_row w _ 1 _ _ _ h3]; rfl, by rw [cell_of_row w _ 2 _ _ _ h3]; rfl, by rw [cell_of_row w _ 3 _ _ _ h3]; rfl, by rw [cell_of_row w _ 4 _ _ _ h3]; rfl⟩, h4, h5, own_reads h6, h8, h9⟩

theorem tlen_any {B0 B1 : Nat} {L : List Str} {p : Nat} {w : World} (h : TrieAt B0 B1 w p L) (hL : Ok L) :
    Calls Try.prog 35 #[.pointer (some ⟨p, 0, none⟩)] w fun e w' => e = .returned (.int .i64 (L.length : Nat)) ∧ w = w' := by
  obtain ⟨ps, pe, pn, pd, a, c, hp, ⟨x0, x1, x2, x3, x4⟩, _, _, _, hn, _⟩ := h.use
  have HL := Lib.hid (len_pk hn)
  rw [nums_len hL] at HL
  clear x0 x1 x2 x4 hn h
  go_enter Try.func35, Try.ntmps35
  go_wp2_with (go_at_call 63; (with_reducible refine HL.out.mono ?_); rintro e w1 ⟨rfl, rfl⟩)
  go_ret
  exact ⟨rfl, rfl⟩
theorem tlen_nil (w : World) :
    Calls Try.prog 35 #[.pointer none] w fun e w' => e = .returned (.int .i64 0) ∧ w = w' := by
  go_enter Try.func35, Try.ntmps35
  go_wp2
  go_ret
  exact ⟨rfl, rfl⟩

set_option maxHeartbeats 1000000 in
theorem family_any {B0 B1 : Nat} {L : List Str} {p : Nat} {w : World} (h : TrieAt B0 B1 w p L) (hL : Ok L) (hN : (Gs L).length ≤ 524287) (hB : B1 ≤ w.heap.size) {k : Nat} (hk : k < (Gs L).length) :
    Calls Try.prog 72 #[.pointer (some ⟨p, 0, none⟩), .int .i64 (k : Int)] w fun e w' => e = .returned (.tuple #[.int .i64 (off L k : Nat), .int .i64 ((off L k + deg L k : Nat) : Int)]) ∧ Below w.heap.size w w' := by
  obtain ⟨ps, pe, pn, pd, a, c, hp, ⟨x0, x1, x2, x3, x4⟩, hs, _, _, _, _⟩ := h.use
  have hl := shp_len hL
  have hsel := sel_f hL hk
  have HS := select_any hs hB (by omega) false (k : Int)
  rw [hsel] at HS
  have HS := Lib.hid HS
  have HX := Lib.hid (fun W (hW : Below w.heap.size w W) => show W.cell? ⟨p, 0, none⟩ = some (.pointer (some ⟨ps, 0, none⟩)) by rw [hW.cell (p := ⟨p, 0, none⟩) (by show p < _; omega)]; exact x0)
  have HG := Lib.hid (fun W (hW : Below w.heap.size w W) (t : Nat) (ht : t ≤ deg L k) => by
    have hg := get_any (hs.below hW hB) (by omega) ((off L k + k + 1 + t : Nat) : Int)
    rw [gt_nat, (blk hk ht).1] at hg
    exact hg)
  have hoff := off_le hL (i := k + 1) (by omega)
  rw [off_succ hk] at hoff
  obtain ⟨O, hO⟩ : ∃ O, off L k = O := ⟨_, rfl⟩
  obtain ⟨D, hD⟩ : ∃ D, deg L k = D := ⟨_, rfl⟩
  rw [hO, hD] at HG
  rw [hO] at HS
  rw [hO, hD] at hoff ⊢
  clear hO hD hsel hs x1 x2 x3 x4 h hl hL
  have hkN : k ≤ 524287 := by omega
  have hOD : O + D ≤ 524287 := by omega
  have hsub : ((O + k : Nat) : Int) - (k : Int) = (O : Int) := by omega
  clear hoff hk hN
  go_enter Try.func72, Try.ntmps72
  go_wp2_with (go_at_call 75; (with_reducible refine HS.out.mono ?_); rintro e w1 ⟨rfl, hb1⟩)
  go_loopw [5] (fun y wr => ∃ t : Nat, t ≤ D ∧ y = .int .i64 ((O + t : Nat) : Int) ∧ Below w.heap.size w wr) (fun y _ => O + D - (intOf y).toNat)
  case atStart => exact ⟨0, Nat.zero_le _, by simp, hb1⟩
  case round =>
    clear hb1
    obtain ⟨t, ht, rfl, hb⟩ := hrel
    have hx := HX.out _ hb
    have hG := HG.out _ hb t ht
    rw [show ((O + k + 1 + t : Nat) : Int) = ((O + t : Nat) : Int) + (k : Int) + 1 by omega] at hG
    obtain ⟨z, hz⟩ : ∃ z, O + t = z := ⟨_, rfl⟩
    rw [hz] at hG ⊢
    by_cases hlt : t < D
    · rw [decide_eq_true hlt] at hG
      have HG1 := Lib.hid hG
      clear hG
      go_wp2_with (go_at_call 68; (with_reducible refine HG1.out.mono ?_); rintro e w1 ⟨rfl, rfl⟩)
      go_roundw
      case rel => exact ⟨t + 1, by omega, by go_num, hb⟩
      case measure => simp [intOf]; omega
    · rw [decide_eq_false hlt] at hG
      have HG1 := Lib.hid hG
      have e1 : O + D = z := by omega
      rw [e1]
      clear hG
      go_wp2_with (go_at_call 68; (with_reducible refine HG1.out.mono ?_); rintro e w1 ⟨rfl, rfl⟩)
      go_ret2
      exact ⟨by simp; omega, hb⟩
end Go.Proofs.Ytffljcfpofhkgaa.Lo
