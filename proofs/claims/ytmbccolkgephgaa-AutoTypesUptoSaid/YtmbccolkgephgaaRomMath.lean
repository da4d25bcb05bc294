/-
  Rules of romanisation as mathematics: which are allowed, which lists of them; of no program.
-/
import Derived.Test.YtmbccolkgephgaaUtfMathC
import Derived.Test.YtmbccolkgephgaaUtfS
set_option linter.unusedVariables false
set_option linter.unusedSimpArgs false
namespace Go.Proofs.Ytmbccolkgephgaa.Rom
open Go Go.Proofs.Ytmbccolkgephgaa.Utf

/-- A rule: its keys, what they write, the keys that are pending then. -/
structure Rule where
  k : ByteArray
  o : ByteArray
  n : ByteArray

theorem Rule.ext' {a b : Rule} (h1 : a.k = b.k) (h2 : a.o = b.o) (h3 : a.n = b.n) : a = b := by cases a; cases b; simp_all
instance : DecidableEq Rule := fun a b =>
  if h : a.k = b.k ∧ a.o = b.o ∧ a.n = b.n then .isTrue (Rule.ext' h.1 h.2.1 h.2.2) else .isFalse (fun e => h (by rw [e]; exact ⟨rfl, rfl, rfl⟩))
instance : Inhabited Rule := ⟨⟨ByteArray.empty, ByteArray.empty, ByteArray.empty⟩⟩

def isKeyZ (b : Int) : Bool := decide (97 ≤ b ∧ b ≤ 122 ∨ b = 45 ∨ b = 44 ∨ b = 46 ∨ b = 39)
def keysOK (l : List UInt8) : Bool := l.all fun b => isKeyZ b.toNat
def isKanaZ (c : Int) : Bool := decide (12353 ≤ c ∧ c ≤ 12438 ∨ c = 12540 ∨ c = 12289 ∨ c = 12290)
def kanaOK (l : List UInt8) : Bool :=
  match chars l with
  | some cs => decide (cs.length ≤ 4) && cs.all isKanaZ
  | none => false
/-- Is a rule by itself allowed? -/
def okR (r : Rule) : Bool :=
  decide (1 ≤ r.k.size ∧ r.k.size ≤ 4) && keysOK (bs r.k) && decide (r.n.size < r.k.size) && keysOK (bs r.n) && kanaOK (bs r.o) && decide (r.o.size ≠ 0 ∨ r.n.size ≠ 0)
/-- Are the rules allowed together, be they as many as they may? -/
def okL (rs : List Rule) : Bool := rs.all okR && decide (rs.map Rule.k).Nodup
def checkL (rs : List Rule) : Int := if rs.length > 500 then 2 else if okL rs then 0 else 50

theorem okL_nil : okL [] = true := rfl
/-- The key is none of those. -/
def newK (ks : List ByteArray) (k : ByteArray) : Bool := ks.all fun x => decide (x ≠ k)
theorem newK_iff {ks : List ByteArray} {k : ByteArray} : newK ks k = true ↔ k ∉ ks := by
  simp only [newK, List.all_eq_true, decide_eq_true_eq]
  exact ⟨fun h hk => h k hk rfl, fun h x hx e => h (e ▸ hx)⟩
theorem okL_snoc (rs : List Rule) (r : Rule) : okL (rs ++ [r]) = (okL rs && (okR r && newK (rs.map Rule.k) r.k)) := by
  unfold okL
  rw [List.all_append, List.map_append, Bool.eq_iff_iff]
  simp only [List.all_cons, List.all_nil, Bool.and_true, List.map_cons, List.map_nil, Bool.and_eq_true, decide_eq_true_eq, List.nodup_append, newK_iff]
  constructor
  · rintro ⟨⟨h1, h2⟩, h3, h4, h5⟩
    exact ⟨⟨h1, h3⟩, h2, fun hc => h5 r.k hc r.k (by simp) rfl⟩
  · rintro ⟨⟨h1, h3⟩, h2, h4⟩
    refine ⟨⟨h1, h2⟩, h3, by simp, fun a ha b hb => ?_⟩
    rw [List.mem_singleton] at hb
    subst hb
    intro e
    subst e
    exact h4 ha
theorem okL_take {rs : List Rule} {k : Nat} (h : okL rs = true) : okL (rs.take k) = true := by
  unfold okL at *
  simp only [Bool.and_eq_true, decide_eq_true_eq, List.all_eq_true] at *
  exact ⟨fun x hx => h.1 x (List.mem_of_mem_take hx), by rw [List.map_take]; exact h.2.sublist (List.take_sublist _ _)⟩
theorem okL_drop {rs : List Rule} {k : Nat} (h : okL rs = true) : okL (rs.drop k) = true := by
  unfold okL at *
  simp only [Bool.and_eq_true, decide_eq_true_eq, List.all_eq_true] at *
  exact ⟨fun x hx => h.1 x (List.mem_of_mem_drop hx), by rw [List.map_drop]; exact h.2.sublist (List.drop_sublist _ _)⟩
/-- Where the list goes wrong, it goes wrong at a first rule. -/
theorem okL_bad {rs : List Rule} {k : Nat} (h : okL (rs.take k) = false) : okL rs = false := by
  cases h2 : okL rs
  · rfl
  · rw [okL_take h2] at h; cases h
theorem okL_perm {a b : List Rule} (h : a.Perm b) : okL a = okL b := by
  unfold okL
  rw [Bool.eq_iff_iff]
  simp only [Bool.and_eq_true, decide_eq_true_eq, List.all_eq_true]
  exact ⟨fun ⟨h1, h2⟩ => ⟨fun x hx => h1 x (h.mem_iff.2 hx), ((h.map _).nodup_iff).1 h2⟩, fun ⟨h1, h2⟩ => ⟨fun x hx => h1 x (h.mem_iff.1 hx), ((h.map _).nodup_iff).2 h2⟩⟩

/-- An allowed rule has few and short strings. -/
theorem okR_short {r : Rule} (h : okR r = true) : 1 ≤ r.k.size ∧ r.k.size ≤ 4 ∧ r.n.size ≤ 3 := by
  unfold okR at h
  simp only [Bool.and_eq_true, decide_eq_true_eq] at h
  omega

theorem bs_nil_iff (s : ByteArray) : s.size = 0 ↔ s = ⟨#[]⟩ := ⟨fun h => ByteArray.ext (Array.eq_empty_of_size_eq_zero h), fun h => by rw [h]; rfl⟩

end Go.Proofs.Ytmbccolkgephgaa.Rom
