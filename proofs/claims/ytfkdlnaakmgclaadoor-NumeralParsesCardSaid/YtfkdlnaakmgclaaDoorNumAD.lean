/-
  What the reference's guess reads: from the right to the left. Of no program but for the lists.
-/
import Derived.Test.YtfkdlnaakmgclaaDoorNumAC
import Derived.Test.YtfkdlnaakmgclaaDoorNumJ
set_option linter.unusedVariables false
set_option linter.unusedSimpArgs false
namespace Go.Proofs.YtfkdlnaakmgclaaDoor.Num
open Go Go.RowKit Go.Proofs.YtfkdlnaakmgclaaDoor.Kit Go.Proofs.YtfkdlnaakmgclaaDoor.Utf

/-- The digits read, the group and the unit. -/
abbrev GS := (Nat → Nat) × Nat × Nat
def gstep (st : GS) (t : Int × Int × Int) : GS :=
  if 0 < t.1 then (st.1, 4 * t.1.toNat, 0)
  else if 0 < t.2.1 then ((fun p => if p = st.2.1 + t.2.1.toNat ∧ st.1 p = 0 then 1 else st.1 p), st.2.1, t.2.1.toNat)
  else if 0 < t.2.2 then ((fun p => if p = st.2.1 + st.2.2 then t.2.2.toNat else st.1 p), st.2.1, st.2.2)
  else st
def tri (c : List UInt8) : Int × Int × Int := (ixC lGu c, max (ixC lPu c) (ixC lFu c), max (ixC lPd c) (ixC lFd c))
def gch (st : GS) (c : Int) : GS := gstep st (tri (enc c))
def back (st : GS) (cs : List Int) : GS := cs.foldr (fun c st => gch st c) st
def g0 : GS := (fun _ => 0, 0, 0)
theorem back_append (st : GS) (a b : List Int) : back st (a ++ b) = back (back st b) a := by unfold back; exact List.foldr_append
theorem back_cons (st : GS) (c : Int) (b : List Int) : back st (c :: b) = gch (back st b) c := rfl

theorem tri_pd : ∀ d, d ≤ 9 → 1 ≤ d → tri (enc (pd d)) = (-1, -1, (d : Int)) := by decide
theorem tri_fd : ∀ d, d ≤ 9 → 1 ≤ d → tri (enc (fd d)) = (-1, -1, (d : Int)) := by decide
theorem tri_pu : ∀ u, u ≤ 3 → 1 ≤ u → tri (enc ((pu u).getD 0 0)) = (-1, (u : Int), -1) := by decide
theorem tri_fu : ∀ u, u ≤ 3 → 1 ≤ u → tri (enc ((fu u).getD 0 0)) = (-1, (u : Int), -1) := by decide
theorem tri_gu : ∀ g, g ≤ 4 → 1 ≤ g → tri (enc ((gu g).getD 0 0)) = ((g : Int), -1, -1) := by decide
theorem tri_zero : tri (enc 38646) = (-1, -1, 0) := by decide

theorem gch_d {st : GS} {c : Int} {d : Nat} (h1 : 1 ≤ d) (h : tri (enc c) = (-1, -1, (d : Int))) : gch st c = ((fun p => if p = st.2.1 + st.2.2 then d else st.1 p), st.2.1, st.2.2) := by
  unfold gch gstep
  rw [h]
  simp only
  rw [if_neg (by omega), if_neg (by omega), if_pos (by omega), Int.toNat_natCast]
theorem gch_u {st : GS} {c : Int} {u : Nat} (h1 : 1 ≤ u) (h : tri (enc c) = (-1, (u : Int), -1)) : gch st c = ((fun p => if p = st.2.1 + u ∧ st.1 p = 0 then 1 else st.1 p), st.2.1, u) := by
  unfold gch gstep
  rw [h]
  simp only
  rw [if_neg (by omega), if_pos (by omega), Int.toNat_natCast]
theorem back_gu (st : GS) (g : Nat) (h4 : g ≤ 4) (h1 : 1 ≤ g) : back st (gu g) = (st.1, 4 * g, 0) := by
  rw [one_of (gu_of g h4 h1).1]
  show gch st _ = _
  unfold gch gstep
  rw [tri_gu g h4 h1]
  simp only
  rw [if_pos (by omega), Int.toNat_natCast]

/-- What a digit and its unit are read as, from the right. -/
def GoodB (h : Nat → Nat → List Int) : Prop :=
  ∀ (st : GS) d u, 1 ≤ d → d ≤ 9 → u ≤ 3 → st.1 (st.2.1 + u) = 0 → (u = 0 → st.2.2 = 0) → back st (h d u) = ((fun p => if p = st.2.1 + u then d else st.1 p), st.2.1, u)
theorem goodB_of {h U : Nat → Nat → List Int} {P : Nat → Int} (hP : ∀ d, d ≤ 9 → 1 ≤ d → tri (enc (P d)) = (-1, -1, (d : Int)))
    (U : Nat → List Int) (hU0 : U 0 = []) (hU : ∀ u, u ≤ 3 → 1 ≤ u → (U u).length = 1 ∧ tri (enc ((U u).getD 0 0)) = (-1, (u : Int), -1))
    (hh : ∀ d u, h d u = P d :: U u ∨ (d = 1 ∧ 0 < u ∧ h d u = U u)) : GoodB h := by
  intro st d u h1 h9 h3 hz hu0
  by_cases hu : u = 0
  · subst hu
    have e : h d 0 = [P d] := by
      rcases hh d 0 with e | ⟨_, e, _⟩
      · rw [e, hU0]
      · omega
    rw [e]
    show gch st (P d) = _
    rw [gch_d h1 (hP d h9 h1), hu0 rfl]
  · obtain ⟨l1, l2⟩ := hU u h3 (by omega)
    have e1 : back st (U u) = ((fun p => if p = st.2.1 + u then 1 else st.1 p), st.2.1, u) := by
      rw [one_of l1]
      show gch st _ = _
      rw [gch_u (by omega) l2]
      congr 1
      funext p
      by_cases hp : p = st.2.1 + u
      · subst hp; rw [if_pos ⟨rfl, hz⟩, if_pos rfl]
      · rw [if_neg (fun e => hp e.1), if_neg hp]
    rcases hh d u with e | ⟨rfl, _, e⟩
    · rw [e, back_cons, e1, gch_d h1 (hP d h9 h1)]
      simp only
      congr 1
      funext p
      by_cases hp : p = st.2.1 + u
      · rw [if_pos hp, if_pos hp]
      · rw [if_neg hp, if_neg hp, if_neg hp]
    · rw [e, e1]
theorem goodB_kp : GoodB kp := goodB_of (U := fun _ _ => []) tri_pd pu rfl (fun u h3 h1 => ⟨(pu_of u h3 h1).1, tri_pu u h3 h1⟩) (fun d u => by
  unfold kp
  by_cases e : d = 1 ∧ 0 < u
  · rw [if_pos e]; exact .inr ⟨e.1, e.2, rfl⟩
  · rw [if_neg e]; exact .inl rfl)
theorem goodB_fp : GoodB fp := goodB_of (U := fun _ _ => []) tri_fd fu rfl (fun u h3 h1 => ⟨(fu_of u h3 h1).1, tri_fu u h3 h1⟩) (fun d u => .inl rfl)

theorem back_units {h : Nat → Nat → List Int} (hg : GoodB h) : ∀ (ds : List Nat) (b : Bool), ds.length ≤ 20 → (∀ d ∈ ds, d ≤ 9) →
    (∀ p, (back g0 (units h b ds)).1 p = pl ds p) ∧ (ds.length % 4 ≠ 0 → b = true → (back g0 (units h b ds)).2.1 = 4 * (ds.length / 4)) := by
  intro ds
  induction ds with
  | nil => intro b _ _; exact ⟨fun p => (pl_nil p).symm, fun h => absurd rfl h⟩
  | cons d ds ih =>
    intro b hl h9
    rw [List.length_cons] at hl
    have hd9 : d ≤ 9 := h9 d (List.mem_cons_self ..)
    obtain ⟨i1, i2⟩ := ih (un b d ds.length) (by omega) (fun x hx => h9 x (List.mem_cons_of_mem _ hx))
    rw [units_cons, back_append]
    have inil : ds.length = 0 → back g0 (units h (un b d ds.length) ds) = g0 := fun e => by
      rw [List.eq_nil_of_length_eq_zero e]; rfl
    obtain ⟨st1, hst1⟩ : ∃ st1, back g0 (units h (un b d ds.length) ds) = st1 := ⟨_, rfl⟩
    rw [hst1] at i1 i2 inil ⊢
    obtain ⟨n, hn⟩ : ∃ n, ds.length = n := ⟨_, rfl⟩
    rw [hn] at i2 inil hl
    unfold uo
    rw [hn, back_append]
    -- the group's sign
    obtain ⟨st2, hst2⟩ : ∃ st2, back st1 (if n % 4 = 0 ∧ (b = true ∨ d ≠ 0) then gu (n / 4) else []) = st2 := ⟨_, rfl⟩
    have j1 : ∀ p, st2.1 p = pl ds p := fun p => by
      rw [← hst2]
      split
      · by_cases hq : n / 4 = 0
        · rw [hq]; exact i1 p
        · rw [back_gu st1 (n / 4) (by omega) (by omega)]; exact i1 p
      · exact i1 p
    have j2 : n % 4 = 0 → (b = true ∨ d ≠ 0) → st2.2.1 = 4 * (n / 4) ∧ st2.2.2 = 0 := fun h4 hbd => by
      rw [← hst2, if_pos ⟨h4, hbd⟩]
      by_cases hq : n / 4 = 0
      · rw [hq, inil (by omega)]; exact ⟨rfl, rfl⟩
      · rw [back_gu st1 (n / 4) (by omega) (by omega)]; exact ⟨rfl, rfl⟩
    have j3 : n % 4 ≠ 0 → (b = true ∨ d ≠ 0) → st2.2.1 = 4 * (n / 4) := fun h4 hbd => by
      rw [← hst2, if_neg (fun e => h4 e.1)]
      refine i2 h4 ?_
      unfold un
      rw [if_neg h4]
      rcases hbd with e | e
      · rw [e]; rfl
      · simp [e]
    rw [hst2]
    have hpl0 : pl ds n = 0 := pl_out ds n (by omega)
    by_cases hd0 : d = 0
    · rw [if_pos hd0]
      refine ⟨fun p => ?_, fun h4 hb => ?_⟩
      · rw [pl_cons, hn]
        show st2.1 p = _
        rw [j1 p]
        by_cases hp : p = n
        · rw [if_pos hp, hp, hpl0, hd0]
        · rw [if_neg hp]
      · rw [List.length_cons, hn] at h4 ⊢
        show st2.2.1 = _
        by_cases h40 : n % 4 = 0
        · rw [(j2 h40 (.inl hb)).1]; omega
        · rw [j3 h40 (.inl hb)]; omega
    · rw [if_neg hd0]
      have hgr : st2.2.1 = 4 * (n / 4) := by
        by_cases h40 : n % 4 = 0
        · exact (j2 h40 (.inr hd0)).1
        · exact j3 h40 (.inr hd0)
      have hsum : st2.2.1 + n % 4 = n := by omega
      rw [hg st2 d (n % 4) (by omega) hd9 (by omega) (by rw [hsum, j1, hpl0]) (fun h0 => (j2 h0 (.inr hd0)).2)]
      refine ⟨fun p => ?_, fun h4 hb => ?_⟩
      · rw [pl_cons, hn]
        show (if p = st2.2.1 + n % 4 then d else st2.1 p) = _
        rw [hsum, j1]
      · rw [List.length_cons, hn] at h4 ⊢
        show st2.2.1 = _
        rw [hgr]; omega

/-- Digits without leading zeros, but at least one. -/
def strip1 : List Nat → List Nat
  | [] => []
  | [x] => [x]
  | x :: y :: t => if x = 0 then strip1 (y :: t) else x :: y :: t
theorem strip1_zeros (k : Nat) {l : List Nat} (h : l ≠ []) : strip1 (List.replicate k 0 ++ l) = strip1 l := by
  induction k with
  | zero => rfl
  | succ k ih =>
    rw [List.replicate_succ, List.cons_append]
    cases e : List.replicate k 0 ++ l with
    | nil => exact absurd (List.append_eq_nil_iff.1 e).2 h
    | cons y t =>
      show (if 0 = 0 then strip1 (y :: t) else _) = _
      rw [if_pos rfl, ← e, ih]
theorem strip1_self {l : List Nat} (h : DS l) : strip1 l = l := by
  match l, h with
  | [], h => rfl
  | [x], h => rfl
  | x :: y :: t, h =>
    show (if x = 0 then _ else _) = _
    rw [if_neg]
    intro e
    subst e
    have := h.2.2.2 rfl
    cases this
theorem strip1_DS : ∀ {l : List Nat}, 1 ≤ l.length → l.length ≤ 20 → (∀ d ∈ l, d ≤ 9) → DS (strip1 l) := by
  intro l
  induction l with
  | nil => intro h; simp at h
  | cons x t ih =>
    intro h1 h2 h9
    cases t with
    | nil => exact ⟨by simp [strip1], by simp [strip1], h9, fun e => by
        have : x = 0 := Option.some.inj e
        subst this; rfl⟩
    | cons y t =>
      unfold strip1
      split
      · exact ih (by simp) (by simp at h2 ⊢; omega) (fun d hd => h9 d (List.mem_cons_of_mem _ hd))
      · rename_i hx
        exact ⟨h1, h2, h9, fun e => absurd (Option.some.inj e) hx⟩

/-- What guess returns for the characters of a number. -/
theorem guess_math {ds : List Nat} {cs : List Int} (hd : DS ds) (h : cs = kanjiC ds ∨ cs = formC ds) : strip1 (big (back g0 cs).1) = ds := by
  have hne : ds ≠ [] := fun e => by rw [e] at hd; exact absurd hd.1 (by simp)
  have key : ∀ p, (back g0 cs).1 p = pl ds p := by
    by_cases h0 : ds = [0]
    · subst h0
      have hcs : cs = [38646] := by rcases h with h | h <;> exact h
      subst hcs
      intro p
      have e : back g0 [38646] = g0 := by
        show gch g0 38646 = g0
        unfold gch gstep
        rw [tri_zero]; rfl
      rw [e, pl_cons, pl_nil]
      split <;> rfl
    · rcases h with h | h
      · have e : cs = units kp false ds := by rw [h]; unfold kanjiC; rw [if_neg h0]
        rw [e]; exact (back_units goodB_kp ds false hd.2.1 hd.2.2.1).1
      · have e : cs = units fp false ds := by rw [h]; unfold formC; rw [if_neg h0]
        rw [e]; exact (back_units goodB_fp ds false hd.2.1 hd.2.2.1).1
  rw [big_eq _ ds hd.2.1 (fun p _ => key p), strip1_zeros _ hne, strip1_self hd]

theorem e3_kp : ∀ d, d ≤ 9 → ∀ u, u ≤ 3 → ∀ c ∈ kp d u, (enc c).length = 3 := by decide
theorem e3_fp : ∀ d, d ≤ 9 → ∀ u, u ≤ 3 → ∀ c ∈ fp d u, (enc c).length = 3 := by decide
theorem e3_gu : ∀ g, g ≤ 4 → ∀ c ∈ gu g, (enc c).length = 3 := by decide
theorem e3_uo {h : Nat → Nat → List Int} (hv : ∀ d, d ≤ 9 → ∀ u, u ≤ 3 → ∀ c ∈ h d u, (enc c).length = 3) : ∀ b d a, d ≤ 9 → a ≤ 19 → ∀ c ∈ uo h b d a, (enc c).length = 3 := by
  intro b d a h9 ha c hc
  unfold uo at hc
  rcases List.mem_append.1 hc with hc | hc
  · split at hc
    · simp at hc
    · exact hv d h9 (a % 4) (by omega) c hc
  · split at hc
    · exact e3_gu (a / 4) (by omega) c hc
    · simp at hc
theorem e3_W {ds : List Nat} {cs : List Int} (hd : DS ds) (h : cs = kanjiC ds ∨ cs = formC ds) : ∀ c ∈ cs, (enc c).length = 3 := by
  intro c hc
  rcases h with h | h
  · rw [h] at hc
    unfold kanjiC at hc
    split at hc
    · rw [List.mem_singleton.1 hc]; decide
    · exact eachS_mem (e3_uo e3_kp) ds false hd.2.2.1 hd.2.1 c hc
  · rw [h] at hc
    unfold formC at hc
    split at hc
    · rw [List.mem_singleton.1 hc]; decide
    · exact eachS_mem (e3_uo e3_fp) ds false hd.2.2.1 hd.2.1 c hc

end Go.Proofs.YtfkdlnaakmgclaaDoor.Num
