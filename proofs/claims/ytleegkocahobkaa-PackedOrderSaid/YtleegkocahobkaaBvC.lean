/-
  Rows of 64-bit words and of bits; contract of bitvec.counts.
-/
import Derived.Test.YtleegkocahobkaaBvA
import Derived.Test.YtleegkocahobkaaBvB
set_option linter.unusedVariables false
set_option linter.unusedSimpArgs false
set_option maxRecDepth 100000
namespace Go.Proofs.Ytleegkocahobkaa.Bv
open Go Go.RowKit Go.Proofs.Ytleegkocahobkaa.Kit

def u64s (ns : List Nat) : List Value := ns.map fun n : Nat => Value.int .u64 (n : Int)
theorem u64s_len (ns : List Nat) : (u64s ns).length = ns.length := by simp [u64s]
theorem u64s_append (a b : List Nat) : u64s (a ++ b) = u64s a ++ u64s b := by simp [u64s]
theorem u64s_get {ns : List Nat} {i n : Nat} (h : ns[i]? = some n) : (u64s ns)[i]? = some (.int .u64 (n : Int)) := by
  unfold u64s; rw [List.getElem?_map, h]; rfl
theorem info_u64 : (Try.prog.info? 27).map (fun i => (i.zero, i.size, i.bytes)) = some (some (.int .u64 0), 1, 8) := by kernel_rfl
theorem info_u8 : (Try.prog.info? 5).map (fun i => (i.zero, i.size, i.bytes)) = some (some (.int .u8 0), 1, 1) := by kernel_rfl
theorem info_bool : (Try.prog.info? 4).map (fun i => (i.zero, i.size, i.bytes)) = some (some (.bool false), 1, 1) := by kernel_rfl

/-- What the walk asks of a slice that reads as cells: element i. -/
theorem Reads.cell {w : World} {a : Option Addr} {n cap : Nat} {xs : List Value} (h : Reads w (.slice a n cap) xs) {i : Nat} {x : Value} (hi : xs[i]? = some x) :
    ∃ b off, a = some ⟨b, off, none⟩ ∧ b < w.heap.size ∧ w.cell? ⟨b, off + i, none⟩ = some x := by
  obtain ⟨a, len, cap, e, h1, h2, h3, h4⟩ := h
  cases e
  have hl := (List.getElem?_eq_some_iff.1 hi).1
  rcases h4 with ⟨rfl, hl2, _⟩ | ⟨x, rfl, hl2⟩ | ⟨b, off, rfl, hb, hx⟩
  · omega
  · omega
  · exact ⟨b, off, rfl, hb, hx i x hi⟩

def cntL (l : List Bool) (k : Nat) : List Nat := (List.range k).map (cnt l)
theorem cntL_len (l : List Bool) (k : Nat) : (cntL l k).length = k := by simp [cntL]
theorem cntL_succ (l : List Bool) (k : Nat) : cntL l (k + 1) = cntL l k ++ [cnt l k] := by simp [cntL, List.range_succ]
theorem own_nil (w : World) (base : Nat) (e : TypeId) (size : Nat) : w.ownsRow base e size (.slice none 0 0) 0 [] := ⟨by simp, .inl ⟨rfl, rfl⟩⟩

end Go.Proofs.Ytleegkocahobkaa.Bv
