/-
  Contracts of the program's Print.
-/
import Derived.Test.YtmbccolkgephgaaRomG
import Derived.Test.YtmbccolkgephgaaRomP
import Derived.Test.YtmbccolkgephgaaShelfW
set_option linter.unusedVariables false
set_option linter.unusedSimpArgs false
set_option maxRecDepth 100000
namespace Go.Proofs.Ytmbccolkgephgaa.Rom
open Go Go.RowKit Go.Proofs.Ytmbccolkgephgaa.Kit Go.Proofs.Ytmbccolkgephgaa.Utf

/-- A rule's line, without its end. -/
def lineT (r : Rule) : List UInt8 := (bs r.k ++ 9 :: bs r.o) ++ (if r.n.size = 0 then [] else 9 :: bs r.n)
def printB (rs : List Rule) : List UInt8 := rs.flatMap fun r => lineT r ++ [10]
def printL (rs : List Rule) : ByteArray × Int := if checkL rs = 0 then (ba (printB rs), 0) else (ba [], checkL rs)
theorem printB_succ {rs : List Rule} {k : Nat} (h : k < rs.length) : printB (rs.take (k + 1)) = printB (rs.take k) ++ (lineT (ri rs k) ++ [10]) := by
  unfold printB; rw [take_succ_ri rs k h, List.flatMap_append]; simp
theorem lineT_len {r : Rule} (h : Short r) : (lineT r).length ≤ 4000000 := by
  obtain ⟨h1, h2, h3⟩ := h
  unfold lineT
  split <;> simp only [List.length_append, List.length_cons, List.length_nil, bs_len] <;> omega
theorem printB_len {rs : List Rule} (h : ∀ r ∈ rs, Short r) : (printB rs).length ≤ rs.length * 4000001 := by
  induction rs with
  | nil => simp [printB]
  | cons r rs ih =>
    have h1 := lineT_len (h r (by simp))
    have h2 := ih (fun x hx => h x (List.mem_cons_of_mem _ hx))
    show ((lineT r ++ [10]) ++ printB rs).length ≤ _
    simp only [List.length_append, List.length_cons, List.length_nil]
    omega
theorem strCells_bs (s : ByteArray) : Lib.strCells s = Lib.byteCells (bs s) := rfl
theorem byteCells_app (a b : List UInt8) : Lib.byteCells (a ++ b) = Lib.byteCells a ++ Lib.byteCells b := by simp [Lib.byteCells]
theorem bs_app (a b : ByteArray) : bs (a ++ b) = bs a ++ bs b := by simp [bs]

theorem builder_kept2 {T e : TypeId} {B b : Nat} {bs : List Value} {w w' : World} (h : Lib.IsBuilderF T e B b bs w) (hk : ∀ k, B ≤ k → k < w.heap.size → w'.heap[k]? = w.heap[k]?) : Lib.IsBuilderF T e B b bs w' := by
  have one : ∀ p, Lib.BuilderAtF T e B b p bs w → Lib.BuilderAtF T e B b p bs w' := by
    rintro p ⟨hB, v, hb, hown, hne⟩
    refine ⟨hB, v, ?_, ⟨hown.1, ?_⟩, hne⟩
    · rw [hk b hB (Array.getElem?_eq_some_iff.1 hb).1]; exact hb
    · rcases hown.2 with hn | ⟨g, cap, cur, fz, hv, hbg, hg, rest⟩
      · exact .inl hn
      · exact .inr ⟨g, cap, cur, fz, hv, hbg, by rw [hk g hbg (Array.getElem?_eq_some_iff.1 hg).1]; exact hg, rest⟩
  exact h.elim (fun x => .inl (one _ x)) (fun x => .inr (one _ x))
theorem builder_new2 (T e : TypeId) (w : World) (b : Nat) (hb : b = w.heap.size) : Lib.IsBuilderF T e b b [] (w.alloc (.cells #[.pointer none, .slice none 0 0] T)) := by
  subst hb
  exact .inl ⟨Nat.le_refl _, .slice none 0 0, (by show (w.heap.push _)[w.heap.size]? = _; simp), World.ownsRowF_nil _ _ _ _, by simp [Value.ownBlock]⟩

/-- What a box holds stands behind work on a builder. -/
theorem box_kept {w w' : World} {g b : Nat} {r : Rule} (h : w.heap[g]? = some (.cells #[.string r.k, .string r.o, .string r.n] 32 (0, 0))) (ho : Lib.OthersKept 5 (some b) w w') (hne : g ≠ b) :
    w'.heap[g]? = some (.cells #[.string r.k, .string r.o, .string r.n] 32 (0, 0)) :=
  ho g _ h (by simpa using hne) (fun c fz e => by cases e)

theorem isB {B b : Nat} {bs : List Value} {w : World} (h : Lib.BuilderAtF 64 5 B b (.pointer (some ⟨b, 0, none⟩)) bs w) : Lib.IsBuilderF 64 5 B b bs w := .inr h
theorem nl_size : ({ data := #[10] } : ByteArray).size = 1 := rfl

end Go.Proofs.Ytmbccolkgephgaa.Rom
