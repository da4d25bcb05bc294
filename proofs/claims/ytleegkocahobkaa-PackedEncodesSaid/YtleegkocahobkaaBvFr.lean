/-
  What the frame opens: slices of bools and of bytes.
-/
import Derived.Test.YtleegkocahobkaaBvD
import Derived.Deep.Grids
import Derived.ChangeSlices
set_option linter.unusedVariables false
set_option linter.unusedSimpArgs false
set_option maxRecDepth 100000
namespace Go.Proofs.Ytleegkocahobkaa.Bv
open Go Go.RowKit Go.ChangeShapes Go.WideShapes Go.Proofs.Ytleegkocahobkaa.Kit

section
variable {H : Type} {enc : TypeId × Value → H} {w : World} {base : Nat} {held : Bool}
theorem u8_back {z : Int} (h : (Lit.int .u8 z).wf = true) : Value.int .u8 ((UInt8.ofNat z.toNat).toNat : Int) = Value.int .u8 z := by
  have h2 : 0 ≤ z ∧ z < 256 := by
    simp [Lit.wf, IntKind.min, IntKind.max, IntKind.signed, IntKind.bits] at h
    omega
  congr 1
  rw [UInt8.toNat_ofNat']
  omega
theorem bytes_open {a : Option Addr} {len cap : Nat} {fuel : Nat} {x : DataW H × List MemPlace}
    (h : DataW.trod enc Try.prog w base (fun _ => true) held fuel 38 (Value.cells (.slice a len cap)).toList = some x) : ∃ z, Reads w (.slice a len cap) (u8s z) ∧ z.length = len := by
  have hrow : ∃ zs, IsRow .u8 w a len cap zs := by
    rcases open_ints Try.underlying38 Try.underlying5 (by kernel_rfl) h with ⟨hcs, _⟩ | ⟨x, l, c, zs, hcs, _, hl, hm, hz, _, hcell, hwz⟩
    · simp [Value.cells] at hcs
      obtain ⟨rfl, rfl, rfl⟩ := hcs
      exact ⟨[], .inl ⟨rfl, rfl, rfl, rfl⟩⟩
    · simp [Value.cells] at hcs
      obtain ⟨rfl, rfl, rfl⟩ := hcs
      exact ⟨zs, .inr ⟨_, rfl, hl, hm, by simpa using hz, hcell, hwz⟩⟩
  obtain ⟨zs, hzs⟩ := hrow
  have hl := hzs.len
  refine ⟨(zs.take len).map fun z => UInt8.ofNat z.toNat, ?_, by simp; omega⟩
  have e : u8s ((zs.take len).map fun z => UInt8.ofNat z.toNat) = (zs.take len).map (Value.int .u8) := by
    unfold u8s
    rw [List.map_map]
    apply List.map_congr_left
    intro z hz
    exact u8_back (hzs.wf z (List.mem_of_mem_take hz))
  rw [e]
  exact hzs.reads
end
end Go.Proofs.Ytleegkocahobkaa.Bv
