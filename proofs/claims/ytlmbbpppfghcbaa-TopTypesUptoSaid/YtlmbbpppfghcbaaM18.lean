/-
  Joined texts: AutFr.
-/
import Derived.Test.YtlmbbpppfghcbaaM17
import Derived.Deep.Slices
import Derived.Deep.Fields
import Derived.ChangeSame
import Derived.Shelf.Vars
set_option linter.unusedVariables false
set_option linter.unusedSimpArgs false
set_option maxRecDepth 100000
namespace Go.Proofs.Ytlmbbpppfghcbaa.Aut
open Go Go.RowKit Go.ChangeShapes Go.WideShapes Go.Deep Go.Proofs.Ytlmbbpppfghcbaa.Kit Go.Proofs.Ytlmbbpppfghcbaa.Utf Go.Proofs.Ytlmbbpppfghcbaa.Rom

theorem three_long (l : List Value) (h : l.length = 3) : ∃ a b c, l = [a, b, c] := by
  cases l with
  | nil => simp at h
  | cons a l =>
    cases l with
    | nil => simp at h
    | cons b l =>
      cases l with
      | nil => simp at h
      | cons c l =>
        cases l with
        | nil => exact ⟨a, b, c, rfl⟩
        | cons d l => simp at h
theorem rules_open {H : Type} {enc : TypeId × Value → H} {w : World} {base : Nat} {spare : Nat → Bool} {held : Bool} {fuel : Nat} {a : Option Addr} {len cap : Nat} {x : DataW H × List MemPlace}
    (h : DataW.trod enc Try.prog w base spare held fuel 40 [.slice a len cap] = some x) : ∃ rs, RowR w (.slice a len cap) rs := by
  rcases open_slice Try.underlying40 h with ⟨hcs, _⟩ | ⟨a', len', cap', m, n, D, Pl, hcs, hb, hl, hm, hmm, hx, hi⟩
  · simp at hcs
    obtain ⟨rfl, rfl, rfl⟩ := hcs
    exact ⟨[], RowR.nil w⟩
  · simp at hcs
    obtain ⟨rfl, rfl, rfl⟩ := hcs
    have hlm : len ≤ m := by rw [hmm]; split <;> omega
    have hC : Try.prog.cellsOf 80 = 3 := by kernel_rfl
    have hS : Try.prog.cellsOf 9 = 1 := by kernel_rfl
    rw [hC] at hi
    obtain ⟨b, off, spot⟩ := a'
    have key : ∀ i, ∃ r : Rule, i < len → w.cell? ((⟨b, off, spot⟩ : Addr).add (i * 3)) = some (.string r.k) ∧ w.cell? ((⟨b, off, spot⟩ : Addr).add (i * 3 + 1)) = some (.string r.o) ∧ w.cell? ((⟨b, off, spot⟩ : Addr).add (i * 3 + 2)) = some (.string r.n) := by
      intro i
      by_cases hil : i < len
      · obtain ⟨cs', hc, ht'⟩ := hi i (by omega)
        obtain ⟨ys, n', hn', hy, hlen, hyl, hf⟩ := DataW.trod_struct Try.underlying80 ht'
        obtain ⟨_, hcl, hat⟩ := World.cells?_some hc
        obtain ⟨v0, v1, v2, rfl⟩ := three_long cs' hcl
        have h0 : DataW.trod enc Try.prog w base spare held n' 9 (([v0, v1, v2].drop 0).take (Try.prog.cellsOf 9)) = ys[0]? := hf 0 _ rfl
        have h1 : DataW.trod enc Try.prog w base spare held n' 9 (([v0, v1, v2].drop 1).take (Try.prog.cellsOf 9)) = ys[1]? := hf 1 _ rfl
        have h2 : DataW.trod enc Try.prog w base spare held n' 9 (([v0, v1, v2].drop 2).take (Try.prog.cellsOf 9)) = ys[2]? := hf 2 _ rfl
        rw [hS] at h0 h1 h2
        have hys : ys.length = 3 := hyl
        rw [List.getElem?_eq_getElem (by omega)] at h0 h1 h2
        obtain ⟨s0, e0, _, _⟩ := DataW.trod_string Try.underlying9 h0
        obtain ⟨s1, e1, _, _⟩ := DataW.trod_string Try.underlying9 h1
        obtain ⟨s2, e2, _, _⟩ := DataW.trod_string Try.underlying9 h2
        simp at e0 e1 e2
        have c0 := hat 0 (by omega)
        have c1 := hat 1 (by omega)
        have c2 := hat 2 (by omega)
        rw [Go.Deep.add_add] at c0 c1 c2
        refine ⟨⟨s0, s1, s2⟩, fun _ => ⟨?_, ?_, ?_⟩⟩
        · rw [Nat.add_zero] at c0; rw [c0]; simp [e0]
        · rw [c1]; simp [e1]
        · rw [c2]; simp [e2]
      · exact ⟨default, fun h => absurd h hil⟩
    obtain ⟨f, hf⟩ := Classical.axiomOfChoice key
    refine ⟨(List.range len).map f, _, len, cap, rfl, by simp, hl, hm, ?_⟩
    by_cases h0 : len = 0
    · exact .inr (.inl ⟨_, rfl, h0⟩)
    · have hsp := (hf 0 (by omega)).1
      have hspot : spot = none := by simpa [Addr.add] using World.cell?_spot hsp
      subst hspot
      refine .inr (.inr ⟨b, off, rfl, World.block_lt_of_cell? w _ hsp, fun i hi2 => ?_⟩)
      simp only [List.length_map, List.length_range] at hi2
      have e : ri ((List.range len).map f) i = f i := by
        unfold ri
        rw [List.getD_eq_getElem?_getD, List.getElem?_map, List.getElem?_range hi2]; rfl
      rw [e]
      have := hf i hi2
      simp only [Addr.add_lit] at this
      exact this

theorem maxL_of {W : World} (h : W.ShapedOpen Try.prog) : MaxL W ∧ 0 < W.heap.size := by
  obtain ⟨m, hm⟩ := cell_of_shapedOpen_int (P := Try.prog) (w := W) (g := 0) (t := 3) (zero := #[.int .i64 0]) (k := .i64) h (of_decide_eq_true (by kernel_rfl)) (by kernel_rfl) rfl (by kernel_rfl) (by kernel_rfl) Try.underlying3
  refine ⟨⟨m, hm⟩, ?_⟩
  unfold World.cell? at hm
  cases hh : W.heap[0]? with
  | none => simp [hh] at hm
  | some o => exact (Array.getElem?_eq_some_iff.1 hh).1

end Go.Proofs.Ytlmbbpppfghcbaa.Aut
