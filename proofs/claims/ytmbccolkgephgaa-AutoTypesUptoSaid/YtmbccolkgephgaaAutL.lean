/-
  The least keys reckoned: the search as a function, for closed examples.
-/
import Derived.Test.YtmbccolkgephgaaAutBfs
set_option linter.unusedVariables false
set_option linter.unusedSimpArgs false
namespace Go.Proofs.Ytmbccolkgephgaa.Aut
open Go Go.Proofs.Ytmbccolkgephgaa.Utf Go.Proofs.Ytmbccolkgephgaa.Rom

def tryKey (rs : List Rule) (s : By) (x : Nd) (Q : List Nd) (i : Nat) : List Nd :=
  match feedO rs 1000 x.p [keyB i] with
  | none => Q
  | some (o, q) => if o.isPrefixOf (s.drop x.n) then
      (if Q.any (fun y => decide (y.n = x.n + o.length ∧ y.p = q)) then Q else Q ++ [⟨x.n + o.length, q, x.w ++ [keyB i], x.n, x.p, keyB i⟩]) else Q
def expand (rs : List Rule) (s : By) (x : Nd) (k : Nat) (Q : List Nd) : List Nd := (List.range k).foldl (tryKey rs s x) Q
def allSome (rs : List Rule) (p : By) : Bool := (List.range 94).all fun i => (feedO rs 1000 p [keyB i]).isSome
def bfs (rs : List Rule) (s : By) : Nat → Nat → List Nd → Option (Option By)
  | 0, _, _ => none
  | f + 1, i, Q => match Q[i]? with
    | none => some none
    | some x => if x.n = s.length ∧ x.p = [] then some (some x.w) else if allSome rs x.p then bfs rs s f (i + 1) (expand rs s x 94 Q) else none

variable {rs : List Rule} {s : By}
theorem keyB_lt {i k : Nat} (h : i < k) (hk : k < 94) : keyB i < keyB k := by
  rw [UInt8.lt_iff_toNat_lt, (keyB_is (by omega)).1, (keyB_is hk).1]; omega
theorem expand_inv (hok : okL rs = true) {x : Nd} {i : Nat} (hall : allSome rs x.p = true) : ∀ (k : Nat) {Q : List Nd}, k ≤ 94 → Inv rs s Q i [] → Q[i]? = some x →
    Inv rs s (expand rs s x k Q) i ((List.range k).map keyB) ∧ (expand rs s x k Q)[i]? = some x ∧ ∀ j, j ≤ i → (expand rs s x k Q)[j]? = Q[j]?
  | 0, Q, _, hI, hx => ⟨hI, hx, fun _ _ => rfl⟩
  | k + 1, Q, hk, hI, hx => by
    obtain ⟨h1, h2, h3⟩ := expand_inv hok hall k (by omega) hI hx
    have e : expand rs s x (k + 1) Q = tryKey rs s x (expand rs s x k Q) k := by unfold expand; rw [List.range_succ, List.foldl_append]; rfl
    have ek : (List.range (k + 1)).map keyB = (List.range k).map keyB ++ [keyB k] := by rw [List.range_succ, List.map_append]; rfl
    rw [e, ek]
    generalize expand rs s x k Q = Q2 at *
    have hs : (feedO rs 1000 x.p [keyB k]).isSome = true := by
      unfold allSome at hall
      rw [List.all_eq_true] at hall
      exact hall k (List.mem_range.2 (by omega))
    obtain ⟨⟨o, q⟩, hf⟩ := Option.isSome_iff_exists.1 hs
    have hst := feedO_sound hf
    have hlt : ∀ d ∈ (List.range k).map keyB, d < keyB k := fun d hd => by
      rw [List.mem_map] at hd
      obtain ⟨i, hi, rfl⟩ := hd
      exact keyB_lt (List.mem_range.1 hi) (by omega)
    unfold tryKey
    rw [hf]
    dsimp only
    split
    · rename_i hp
      have hp' := List.isPrefixOf_iff_prefix.1 hp
      split
      · rename_i ha
        rw [List.any_eq_true] at ha
        obtain ⟨y, hy, ha⟩ := ha
        rw [decide_eq_true_eq] at ha
        exact ⟨h1.old hok h2 hlt hst hy ha.1 ha.2, h2, h3⟩
      · rename_i ha
        have hl := (List.getElem?_eq_some_iff.1 h2).1
        refine ⟨h1.new hok h2 (keyB_is (by omega)).2 hlt hst hp' (fun y hy h => ha (List.any_eq_true.2 ⟨y, hy, by rw [decide_eq_true_eq]; exact h⟩)), by rw [List.getElem?_append_left hl]; exact h2, fun j hj => ?_⟩
        rw [List.getElem?_append_left (by omega)]
        exact h3 j hj
    · rename_i hp
      exact ⟨h1.skip hok h2 hst (fun h => hp (List.isPrefixOf_iff_prefix.2 h)), h2, h3⟩
theorem bfs_sound (hok : okL rs = true) : ∀ (f i : Nat) (Q : List Nd) (r : Option By), Inv rs s Q i [] → i ≤ Q.length → (∀ j x, j < i → Q[j]? = some x → ¬ (x.n = s.length ∧ x.p = [])) → bfs rs s f i Q = some r → Least rs s (r.getD []) r.isSome
  | 0, _, _, _, _, _, _, h => by cases h
  | f + 1, i, Q, r, hI, hi, hno, h => by
    unfold bfs at h
    split at h
    · rename_i hx
      cases h
      have : i = Q.length := by rw [List.getElem?_eq_none_iff] at hx; omega
      subst this
      exact hI.none hok (fun j x hj => hno j x (List.getElem?_eq_some_iff.1 hj).1 hj)
    · rename_i x hx
      split at h
      · rename_i he
        cases h
        exact hI.found hok hx he.1 he.2
      · rename_i he
        split at h
        · rename_i hall
          obtain ⟨h1, h2, h3⟩ := expand_inv (s := s) hok hall 94 (Nat.le_refl _) hI hx
          have h4 := h1.next hok h2 (fun c hc hn o q _ => by
            obtain ⟨k, hk, rfl⟩ := keyB_of hc
            exact absurd (List.mem_map.2 ⟨k, List.mem_range.2 hk, rfl⟩) hn)
          refine bfs_sound hok f (i + 1) _ r h4 (List.getElem?_eq_some_iff.1 h2).1 (fun j y hj hy => ?_) h
          rw [h3 j (by omega)] at hy
          by_cases e : j = i
          · subst e; rw [hx] at hy; cases hy; exact he
          · exact hno j y (by omega) hy
        · cases h
theorem bfs_least (hok : okL rs = true) {f : Nat} {r : Option By} (h : bfs rs s f 0 [nd0] = some r) : Least rs s (r.getD []) r.isSome :=
  bfs_sound hok f 0 [nd0] r (inv_start rs s) (Nat.zero_le _) (fun j x hj => by omega) h

/-! ### the second table of examples -/
def smallR : List Rule := [⟨ba [97], ba [227, 129, 130], ba []⟩, ⟨ba [110], ba [227, 130, 147], ba []⟩, ⟨ba [110, 97], ba [227, 129, 170], ba []⟩, ⟨ba [110, 110], ba [227, 130, 147], ba []⟩, ⟨ba [120, 121], ba [], ba [97]⟩]
theorem small_ok : okL smallR = true := by decide +kernel
theorem small_check : checkL smallR = 0 := by decide +kernel
theorem small_na : Least smallR [227, 129, 170] [110, 97] true := bfs_least (f := 30) (r := some [110, 97]) small_ok (by decide +kernel)
theorem small_run1 : Feeds smallR [] [110, 110, 97] [227, 130, 147, 227, 129, 130] [] := feedO_sound (f := 100) (by decide +kernel)
theorem small_run2 : Feeds smallR [] [120, 121, 97] [227, 129, 130, 227, 129, 130] [] := feedO_sound (f := 100) (by decide +kernel)
theorem small_flush : Flushes smallR [110] [227, 130, 147] := flushO_sound (f := 100) (by decide +kernel)

end Go.Proofs.Ytmbccolkgephgaa.Aut
