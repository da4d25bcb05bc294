/-
  What the frame opens: slices of bools and of bytes.
-/
import Derived.Test.YtffljcfpofhkgaaBvD
import Derived.Deep.Grids
import Derived.ChangeSlices
set_option linter.unusedVariables false
set_option linter.unusedSimpArgs false
set_option maxRecDepth 100000
namespace Go.Proofs.Ytffljcfpofhkgaa.Bv
open Go Go.RowKit Go.ChangeShapes Go.WideShapes Go.Proofs.Ytffljcfpofhkgaa.Kit

section
variable {H : Type} {enc : TypeId × Value → H} {w : World} {base : Nat} {held : Bool}
theorem bools_open {a : Option Addr} {len cap : Nat} {fuel : Nat} {x : DataW H × List MemPlace}
    (h : DataW.trod enc Try.prog w base (fun _ => true) held fuel 78 (Value.cells (.slice a len cap)).toList = some x) : ∃ z, Reads w (.slice a len cap) (bls z) ∧ z.length = len := by
  rcases Go.Deep.open_bools Try.underlying78 Try.underlying4 (by kernel_rfl) h with ⟨hcs, _⟩ | ⟨y, l, c, B, hcs, _, hl, hm, _, hcell⟩
  · simp [Value.cells] at hcs
    obtain ⟨rfl, rfl, rfl⟩ := hcs
    exact ⟨[], ⟨none, 0, 0, rfl, rfl, Nat.le_refl _, Nat.zero_le _, .inl ⟨rfl, rfl, rfl⟩⟩, rfl⟩
  · simp [Value.cells] at hcs
    obtain ⟨rfl, rfl, rfl⟩ := hcs
    refine ⟨(List.range len).map B, ⟨some y, len, cap, rfl, by simp [bls], hl, hm, ?_⟩, by simp⟩
    by_cases h0 : len = 0
    · exact .inr (.inl ⟨y, rfl, h0⟩)
    · obtain ⟨b, off, spot⟩ := y
      have h1 := hcell 0 (by omega)
      have hspot : spot = none := by simpa [Addr.add] using World.cell?_spot h1
      subst hspot
      refine .inr (.inr ⟨b, off, rfl, World.block_lt_of_cell? w _ h1, fun i u hi => ?_⟩)
      unfold bls at hi
      rw [List.getElem?_map, List.getElem?_map] at hi
      by_cases hil : i < len
      · rw [List.getElem?_range hil] at hi
        simp only [Option.map_some, Option.some.injEq] at hi
        have h2 := hcell i (by omega)
        rw [Addr.add_lit] at h2
        rw [h2, ← hi]
      · rw [List.getElem?_eq_none (by simp; omega)] at hi
        cases hi
theorem u8_back {z : Int} (h : (Lit.int .u8 z).wf = true) : Value.int .u8 ((UInt8.ofNat z.toNat).toNat : Int) = Value.int .u8 z := by
  have h2 : 0 ≤ z ∧ z < 256 := by
    simp [Lit.wf, IntKind.min, IntKind.max, IntKind.signed, IntKind.bits] at h
    omega
  congr 1
  rw [UInt8.toNat_ofNat']
  omega
theorem bytes_open {a : Option Addr} {len cap : Nat} {fuel : Nat} {x : DataW H × List MemPlace}
    (h : DataW.trod enc Try.prog w base (fun _ => true) held fuel 51 (Value.cells (.slice a len cap)).toList = some x) : ∃ z, Reads w (.slice a len cap) (u8s z) ∧ z.length = len := by
  have hrow : ∃ zs, IsRow .u8 w a len cap zs := by
    rcases open_ints Try.underlying51 Try.underlying5 (by kernel_rfl) h with ⟨hcs, _⟩ | ⟨x, l, c, zs, hcs, _, hl, hm, hz, _, hcell, hwz⟩
    · simp [Value.cells] at hcs
      obtain ⟨rfl, rfl, rfl⟩ := hcs
      exact ⟨[], .inl ⟨rfl, rfl, rfl, rfl⟩⟩
    · simp [Value.cells] at hcs
      obtain ⟨rfl, rfl, rfl⟩ := hcs
      exact ⟨zs, .inr ⟨_, rfl, hl, hm, by simpa using hz, hcell, hwz⟩⟩
  obtain ⟨zs, hzs⟩ := hrow
  have hl := hzs.len
  refine ⟨(zs.take len).map fun z => UInt8.ofNat z.toNat, ?_, by simp; omega⟩
  have e : u8s ((zs.take len).map fun z => UInt8.ofNat z.toNat) = (zs.take len).map (Value.int .u8) := by
    unfold u8s
    rw [List.map_map]
    apply List.map_congr_left
    intro z hz
    exact u8_back (hzs.wf z (List.mem_of_mem_take hz))
  rw [e]
  exact hzs.reads
end
end Go.Proofs.Ytffljcfpofhkgaa.Bv
