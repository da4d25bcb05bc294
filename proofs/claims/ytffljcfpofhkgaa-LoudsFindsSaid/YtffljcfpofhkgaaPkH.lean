/-
  A list's sequence; contracts of the laws' has and works.
-/
import Derived.Test.YtffljcfpofhkgaaPkG
set_option linter.unusedVariables false
set_option linter.unusedSimpArgs false
set_option maxRecDepth 100000
namespace Go.Proofs.Ytffljcfpofhkgaa.Pk
open Go Go.RowKit Go.Proofs.Ytffljcfpofhkgaa.Kit Go.Proofs.Ytffljcfpofhkgaa.Bv

/-- The pointer to block p is the sequence of the list l. -/
def PkAt (B0 B1 : Nat) (w : World) (p : Nat) (l : List Nat) : Prop := IntsAt B0 B1 w p l.length (wid l) (dg (wid l) l)
theorem PkAt.below {B0 B1 B : Nat} {w w' : World} {p : Nat} {l : List Nat} (h : PkAt B0 B1 w p l) (hb : Below B w w') (hB : B1 ≤ B) : PkAt B0 B1 w' p l := IntsAt.below h hb hB
theorem PkAt.later {B0 B1 : Nat} {w w' : World} {p : Nat} {l : List Nat} (h : PkAt B0 B1 w p l) (hk : ∀ b, B0 ≤ b → b < B1 → w'.heap[b]? = w.heap[b]?) : PkAt B0 B1 w' p l := IntsAt.later h hk
def U64 (l : List Nat) : Prop := ∀ x ∈ l, x < 18446744073709551616
theorem gv_list {l : List Nat} (hl : U64 l) {i x : Nat} (h : l[i]? = some x) : gv (dg (wid l) l) (wid l) i = x := by
  unfold gv
  rw [Nat.min_eq_left (wid_64 hl)]
  exact dg_get _ l (fun n hn => wid_lt hn) i x h
theorem pnew_at (l : List Nat) (a : Option Addr) (cap : Nat) (w : World) (hl : l.length ≤ 1048576) (hx : U64 l) (hR : Reads w (.slice a l.length cap) (u64s l)) :
    Calls Try.prog 90 #[.slice a l.length cap] w fun e w' => ∃ p, e = .returned (.tuple #[.pointer (some ⟨p, 0, none⟩), .int .i64 0]) ∧ PkAt w.heap.size w'.heap.size w' p l ∧ Below w.heap.size w w' := pnew_ok l a cap w hl hx hR
theorem get_at {B0 B1 : Nat} {w : World} {p : Nat} {l : List Nat} (h : PkAt B0 B1 w p l) (hB : B1 ≤ w.heap.size) (hl : l.length ≤ 1048577) (hx : U64 l) {i x : Nat} (hi : l[i]? = some x) :
    Calls Try.prog 47 #[.pointer (some ⟨p, 0, none⟩), .int .i64 (i : Int)] w fun e w' => e = .returned (.tuple #[.int .u64 (x : Int), .bool true]) ∧ Below w.heap.size w w' := by
  have := get_pk h hB hl (by have := wid_64 hx; omega) i (List.getElem?_eq_some_iff.1 hi).1
  rwa [gv_list hx hi] at this

theorem encode_at {B0 B1 : Nat} {w : World} {p : Nat} {l : List Nat} (h : PkAt B0 B1 w p l) (hB : B1 ≤ w.heap.size) (hl : l.length ≤ 1048577) (hx : U64 l) :
    Calls Try.prog 52 #[.pointer (some ⟨p, 0, none⟩)] w (EncPost (pcode l) w) := encode_pk h hB hl (wid_64 hx)
def l0 : List Nat := [5, 0, 3]
def c0 : List UInt8 := [3, 0, 0, 0, 3, 197, 0]
theorem pcode0 : pcode l0 = c0 := by decide +kernel
theorem wid0 : wid l0 = 3 := by decide +kernel
theorem u64_l0 : U64 l0 := by unfold U64 l0; decide

end Go.Proofs.Ytffljcfpofhkgaa.Pk
