/-
  Numbers in kanji, on lists of digits and characters: how they are written, how they are read, and that reading takes back writing. No program is named here.
-/
import Derived.Test.YteelmjmiankflaaDoorUtfMath
namespace Go.Proofs.YteelmjmiankflaaDoor.Num
open Go

def plainC : List Int := [12295, 19968, 20108, 19977, 22235, 20116, 20845, 19971, 20843, 20061]
def formalC : List Int := [38646, 22769, 24336, 21442, 22235, 20116, 20845, 19971, 20843, 20061]
def pd (d : Nat) : Int := plainC.getD d 0
def fd (d : Nat) : Int := formalC.getD d 0
def pu (u : Nat) : List Int := ([[], [21313], [30334], [21315]] : List (List Int)).getD u []
def fu (u : Nat) : List Int := ([[], [25342], [30334], [21315]] : List (List Int)).getD u []
def gu (g : Nat) : List Int := ([[], [19975], [20740], [20806], [20140]] : List (List Int)).getD g []

/-- What each digit writes, one after the other, where a Bool is kept between them: the digit, and how many come behind it. -/
def eachS (out : Bool → Nat → Nat → List Int) (next : Bool → Nat → Nat → Bool) : Bool → List Nat → List Int
  | _, [] => []
  | b, d :: ds => out b d ds.length ++ eachS out next (next b d ds.length) ds

def kp (d u : Nat) : List Int := if d = 1 ∧ 0 < u then pu u else pd d :: pu u
def fp (d u : Nat) : List Int := fd d :: fu u
def uo (h : Nat → Nat → List Int) (b : Bool) (d a : Nat) : List Int :=
  (if d = 0 then [] else h d (a % 4)) ++ (if a % 4 = 0 ∧ (b = true ∨ d ≠ 0) then gu (a / 4) else [])
def un (b : Bool) (d a : Nat) : Bool := if a % 4 = 0 then false else (b || d != 0)
def units (h : Nat → Nat → List Int) (b : Bool) (ds : List Nat) : List Int := eachS (uo h) un b ds
def kanjiC (ds : List Nat) : List Int := if ds = [0] then [38646] else units kp false ds
def formC (ds : List Nat) : List Int := if ds = [0] then [38646] else units fp false ds
def posC (ds : List Nat) : List Int := eachS (fun _ d _ => [pd d]) (fun b _ _ => b) false ds
def commaC (ds : List Nat) : List Int := eachS (fun _ d a => (48 + d : Int) :: (if 0 < a ∧ a % 3 = 0 then [44] else [])) (fun b _ _ => b) false ds
def ascC (ds : List Nat) : List Int := eachS (fun _ d _ => [(48 + d : Int)]) (fun b _ _ => b) false ds
def wideC (ds : List Nat) : List Int := eachS (fun _ d _ => [(65296 + d : Int)]) (fun b _ _ => b) false ds

theorem units_cons (h : Nat → Nat → List Int) (b : Bool) (d : Nat) (ds : List Nat) : units h b (d :: ds) = uo h b d ds.length ++ units h (un b d ds.length) ds := rfl

/-- Decimal digits. -/
def DS (ds : List Nat) : Prop := 1 ≤ ds.length ∧ ds.length ≤ 20 ∧ (∀ d ∈ ds, d ≤ 9) ∧ (ds.head? = some 0 → ds = [0])
instance (ds : List Nat) : Decidable (DS ds) := inferInstanceAs (Decidable (_ ∧ _ ∧ _ ∧ _))

/-! ### Reading -/
def dgt (c : Int) : Option Nat := (List.range 10).find? (fun i => pd i == c || fd i == c)
def unt (c : Int) : Option Nat := (List.range 4).find? (fun i => pu i == [c] || fu i == [c])
def grp (c : Int) : Option Nat := (List.range 5).find? (fun i => gu i == [c])

abbrev St := (Nat → Nat) × (Nat → Nat) × Nat
def endG (s : St) (p : Nat) : St := ((fun i => if i / 4 = p then (if i % 4 = 0 then s.2.2 else s.2.1 (i % 4)) else s.1 i), (fun _ => 0), 0)
def step (s : St) (c : Int) : Option St :=
  match dgt c with
  | some d => some (s.1, s.2.1, d)
  | none => match unt c with
    | some u => some (s.1, (fun i => if i = u then max s.2.2 1 else s.2.1 i), 0)
    | none => match grp c with
      | some p => some (endG s p)
      | none => none
def run : St → List Int → Option St
  | s, [] => some s
  | s, c :: cs => match step s c with
    | none => none
    | some s' => run s' cs
def st0 : St := (fun _ => 0, fun _ => 0, 0)
def big (num : Nat → Nat) : List Nat := (List.range 20).map fun i => num (19 - i)
def strip (l : List Nat) : List Nat := l.dropWhile (· == 0)
def readU (cs : List Int) : Option (List Nat) := (run st0 cs).map fun s => strip (big (endG s 0).1)
def readE : List Int → Option (List Nat)
  | [] => some []
  | c :: cs => match dgt c with
    | none => none
    | some d => (readE cs).map (d :: ·)

theorem run_cons (s : St) (c : Int) (cs : List Int) : run s (c :: cs) = match step s c with
    | none => none
    | some s' => run s' cs := rfl
theorem run_append (s : St) (a b : List Int) : run s (a ++ b) = match run s a with
    | none => none
    | some s' => run s' b := by
  induction a generalizing s with
  | nil => rfl
  | cons c a ih =>
    show run s (c :: (a ++ b)) = _
    rw [run_cons, run_cons]
    cases step s c with
    | none => rfl
    | some s' => exact ih s'

theorem dgt_pd : ∀ d, d ≤ 9 → dgt (pd d) = some d := by decide
theorem dgt_fd : ∀ d, d ≤ 9 → dgt (fd d) = some d := by decide
theorem pu_of : ∀ u, u ≤ 3 → 1 ≤ u → (pu u).length = 1 ∧ dgt ((pu u).getD 0 0) = none ∧ unt ((pu u).getD 0 0) = some u ∧ grp ((pu u).getD 0 0) = none := by decide
theorem fu_of : ∀ u, u ≤ 3 → 1 ≤ u → (fu u).length = 1 ∧ dgt ((fu u).getD 0 0) = none ∧ unt ((fu u).getD 0 0) = some u ∧ grp ((fu u).getD 0 0) = none := by decide
theorem gu_of : ∀ g, g ≤ 4 → 1 ≤ g → (gu g).length = 1 ∧ dgt ((gu g).getD 0 0) = none ∧ unt ((gu g).getD 0 0) = none ∧ grp ((gu g).getD 0 0) = some g := by decide
theorem pd_of : ∀ d, d ≤ 9 → unt (pd d) = none ∧ grp (pd d) = none := by decide
theorem fd_of : ∀ d, d ≤ 9 → unt (fd d) = none ∧ grp (fd d) = none := by decide
theorem one_of {l : List Int} (h : l.length = 1) : l = [l.getD 0 0] := by
  match l, h with
  | [a], _ => rfl

theorem step_pd (s : St) (d : Nat) (h : d ≤ 9) : step s (pd d) = some (s.1, s.2.1, d) := by unfold step; rw [dgt_pd d h]
theorem step_fd (s : St) (d : Nat) (h : d ≤ 9) : step s (fd d) = some (s.1, s.2.1, d) := by unfold step; rw [dgt_fd d h]
theorem run_one (s : St) (c : Int) : run s [c] = step s c := by unfold run; cases step s c <;> rfl
theorem run_pu (s : St) (u : Nat) (h3 : u ≤ 3) (h1 : 1 ≤ u) : run s (pu u) = some (s.1, (fun i => if i = u then max s.2.2 1 else s.2.1 i), 0) := by
  obtain ⟨hl, hd, hu, _⟩ := pu_of u h3 h1
  rw [one_of hl, run_one]; unfold step; rw [hd]; simp only [hu]
theorem run_fu (s : St) (u : Nat) (h3 : u ≤ 3) (h1 : 1 ≤ u) : run s (fu u) = some (s.1, (fun i => if i = u then max s.2.2 1 else s.2.1 i), 0) := by
  obtain ⟨hl, hd, hu, _⟩ := fu_of u h3 h1
  rw [one_of hl, run_one]; unfold step; rw [hd]; simp only [hu]
theorem run_gu (s : St) (g : Nat) (h4 : g ≤ 4) (h1 : 1 ≤ g) : run s (gu g) = some (endG s g) := by
  obtain ⟨hl, hd, hu, hg⟩ := gu_of g h4 h1
  rw [one_of hl, run_one]; unfold step; rw [hd]; simp only [hu, hg]
theorem run_cons_some {s s' : St} {c : Int} {cs : List Int} (h : step s c = some s') : run s (c :: cs) = run s' cs := by
  show (match step s c with
    | none => none
    | some s' => run s' cs) = _
  rw [h]

def Good (h : Nat → Nat → List Int) : Prop :=
  (∀ (s : St) d u, s.2.2 = 0 → 1 ≤ d → d ≤ 9 → 1 ≤ u → u ≤ 3 → run s (h d u) = some (s.1, (fun i => if i = u then d else s.2.1 i), 0)) ∧
  ∀ (s : St) d, 1 ≤ d → d ≤ 9 → run s (h d 0) = some (s.1, s.2.1, d)
theorem good_kp : Good kp := by
  refine ⟨fun s d u h0 hd1 hd9 hu1 hu3 => ?_, fun s d hd1 hd9 => ?_⟩
  · unfold kp
    split
    · rename_i h
      rw [run_pu s u hu3 hu1, h0, h.1]; rfl
    · rw [run_cons_some (step_pd s d hd9), run_pu _ u hu3 hu1]
      have : max d 1 = d := by omega
      simp only [this]
  · unfold kp
    rw [if_neg (by omega), run_cons_some (step_pd s d hd9)]; rfl
theorem good_fp : Good fp := by
  refine ⟨fun s d u h0 hd1 hd9 hu1 hu3 => ?_, fun s d hd1 hd9 => ?_⟩
  · unfold fp
    rw [run_cons_some (step_fd s d hd9), run_fu _ u hu3 hu1]
    have : max d 1 = d := by omega
    simp only [this]
  · unfold fp
    rw [run_cons_some (step_fd s d hd9)]; rfl

/-- The digit at a place, from the right. -/
def pl (ds : List Nat) (p : Nat) : Nat := ds.reverse.getD p 0
theorem pl_nil (p : Nat) : pl [] p = 0 := by simp [pl]
theorem pl_cons (d : Nat) (ds : List Nat) (p : Nat) : pl (d :: ds) p = if p = ds.length then d else pl ds p := by
  unfold pl
  rw [List.reverse_cons, List.getD_eq_getElem?_getD, List.getD_eq_getElem?_getD, List.getElem?_append]
  split
  · rename_i h; simp at h; rw [if_neg (by omega)]
  · rename_i h
    simp at h
    by_cases e : p = ds.length
    · subst e; simp
    · rw [if_neg e]
      simp
      rw [List.getElem?_eq_none (by simp; omega), List.getElem?_eq_none (by simp; omega)]
theorem pl_out (ds : List Nat) (p : Nat) (h : ds.length ≤ p) : pl ds p = 0 := by
  unfold pl
  rw [List.getD_eq_getElem?_getD, List.getElem?_eq_none (by simpa using h)]; rfl

theorem key (h : Nat → Nat → List Int) (hg : Good h) : ∀ (ds : List Nat) (b : Bool) (s : St), 1 ≤ ds.length → ds.length ≤ 20 → (∀ d ∈ ds, d ≤ 9) → s.2.2 = 0 →
    (∀ i, i < 4 → (ds.length % 4 = 0 ∨ i < ds.length % 4 ∨ b = false) → s.2.1 i = 0) → (∀ i, i < 4 * ((ds.length + 3) / 4) → s.1 i = 0) → (ds.length % 4 = 0 → b = false) →
    ∃ s', run s (units h b ds) = some s' ∧ ∀ p, p < 20 → (endG s' 0).1 p = if p < ds.length then pl ds p else if p < 4 * ((ds.length + 3) / 4) then s.2.1 (p % 4) else s.1 p := by
  intro ds
  induction ds with
  | nil => intro b s h1; simp at h1
  | cons d ds ih =>
    intro b s h1 h20 hd hdig hgrp hnum hb
    have hd9 : d ≤ 9 := hd d (by simp)
    simp only [List.length_cons] at h20 hgrp hnum hb ⊢
    by_cases hds : ds = []
    · subst hds
      simp only [List.length_nil] at *
      by_cases hd0 : d = 0
      · subst hd0
        refine ⟨s, by cases b <;> simp [units, eachS, uo, gu, run], fun p hp => ?_⟩
        simp only [endG, pl_cons, pl_nil]
        have z0 := hgrp 0 (by omega) (by omega)
        by_cases hp4 : p < 4
        · rw [if_pos (by omega : p / 4 = 0)]
          by_cases hp0 : p = 0
          · subst hp0; simp [hdig]
          · rw [if_neg (by omega), if_neg (by omega), if_pos (by omega)]
        · rw [if_neg (by omega), if_neg (by omega), if_neg (by omega)]
      · refine ⟨(s.1, s.2.1, d), ?_, fun p hp => ?_⟩
        · have e : units h b [d] = h d 0 ++ [] := by cases b <;> simp [units, eachS, uo, hd0, gu]
          rw [e, List.append_nil, hg.2 s d (by omega) hd9]
        · simp only [endG, pl_cons, pl_nil]
          by_cases hp4 : p < 4
          · rw [if_pos (by omega : p / 4 = 0)]
            by_cases hp0 : p = 0
            · subst hp0; simp
            · rw [if_neg (by omega), if_neg (by omega), if_pos (by omega)]
          · rw [if_neg (by omega), if_neg (by omega), if_neg (by omega)]
    · have hn1 : 1 ≤ ds.length := by cases ds with
        | nil => exact absurd rfl hds
        | cons => simp
      obtain ⟨n, hn⟩ : ∃ n, ds.length = n := ⟨_, rfl⟩
      rw [units_cons]
      by_cases hu : n % 4 = 0
      · -- a digit with the unit of its group
        have hg4 : n / 4 ≤ 4 := by omega
        have hg1 : 1 ≤ n / 4 := by omega
        have z0 := hgrp 0 (by omega) (by omega)
        by_cases hsome : b = true ∨ d ≠ 0
        · have hrun : run s (uo h b d ds.length) = some (endG (s.1, s.2.1, d) (n / 4)) := by
            unfold uo
            rw [hn, if_pos (And.intro hu hsome), hu, run_append]
            by_cases hd0 : d = 0
            · subst hd0
              rw [if_pos rfl]
              show run s (gu (n / 4)) = _
              rw [run_gu s _ hg4 hg1]
              simp only [endG, hdig]
            · rw [if_neg hd0, hg.2 s d (by omega) hd9]
              exact run_gu _ _ hg4 hg1
          obtain ⟨s', hs', hp⟩ := ih false (endG (s.1, s.2.1, d) (n / 4)) hn1 (by omega) (fun x hx => hd x (by simp [hx])) rfl (fun i _ _ => rfl)
            (fun i hi => by
              simp only [endG]
              rw [if_neg (by omega)]
              exact hnum i (by omega)) (fun _ => rfl)
          refine ⟨s', by
            rw [run_append, hrun]
            have e : un b d ds.length = false := by unfold un; rw [hn, if_pos hu]
            rw [e]; exact hs', fun p hpp => ?_⟩
          rw [hp p hpp, pl_cons]
          simp only [endG, hn]
          by_cases c1 : p < n
          · rw [if_pos c1, if_pos (by omega), if_neg (by omega)]
          · rw [if_neg c1, if_neg (by omega)]
            by_cases c2 : p = n
            · subst c2; rw [if_pos rfl, if_pos hu, if_pos (by omega), if_pos rfl]
            · by_cases c3 : p < 4 * ((n + 1 + 3) / 4)
              · rw [if_pos (by omega), if_neg (by omega), if_neg (by omega), if_pos c3]
              · rw [if_neg (by omega), if_neg (by omega), if_neg c3]
        · have hb0 : b = false := by cases b <;> simp_all
          have hd0 : d = 0 := by
            rcases Nat.eq_zero_or_pos d with e | e
            · exact e
            · exact absurd (Or.inr (by omega)) hsome
          subst hb0 hd0
          have hrun : uo h false 0 ds.length = [] := by
            unfold uo; simp
          have e2 : un false 0 ds.length = false := by unfold un; split <;> rfl
          rw [hrun, e2, List.nil_append]
          obtain ⟨s', hs', hp⟩ := ih false s hn1 (by omega) (fun x hx => hd x (by simp [hx])) hdig (fun i hi _ => hgrp i hi (by simp))
            (fun i hi => hnum i (by omega)) (fun _ => rfl)
          refine ⟨s', hs', fun p hpp => ?_⟩
          rw [hp p hpp, pl_cons]
          simp only [hn]
          by_cases c1 : p < n
          · rw [if_pos c1, if_pos (by omega), if_neg (by omega)]
          · rw [if_neg c1, if_neg (by omega)]
            by_cases c2 : p = n
            · subst c2; rw [if_pos (by omega), if_pos rfl]; exact hnum p (by omega)
            · rw [if_neg (by omega)]
              by_cases c3 : p < 4 * ((n + 1 + 3) / 4)
              · rw [if_pos c3, hgrp (p % 4) (by omega) (by simp)]; exact hnum p (by omega)
              · rw [if_neg c3]
      · have hgu : ∀ x : Bool, (if n % 4 = 0 ∧ (x = true ∨ d ≠ 0) then gu (n / 4) else []) = [] := fun x => if_neg (fun e => hu e.1)
        have e2 : un b d ds.length = (b || d != 0) := by unfold un; rw [hn, if_neg hu]
        by_cases hd0 : d = 0
        · subst hd0
          have hrun : uo h b 0 ds.length = [] := by unfold uo; rw [hn, hgu]; rfl
          have e3 : (b || (0 : Nat) != 0) = b := by cases b <;> rfl
          rw [hrun, e2, e3, List.nil_append]
          obtain ⟨s', hs', hp⟩ := ih b s hn1 (by omega) (fun x hx => hd x (by simp [hx])) hdig
            (fun i hi hx => by
              rw [hn] at hx
              by_cases hM : (n + 1) % 4 = 0
              · exact hgrp i hi (by rw [hn]; exact .inl hM)
              · rcases hx with hx | hx | hx
                · exact absurd hx hu
                · exact hgrp i hi (by rw [hn]; exact .inr (.inl (by omega)))
                · exact hgrp i hi (.inr (.inr hx)))
            (fun i hi => hnum i (by omega)) (fun e => absurd (by omega : n % 4 = 0) hu)
          refine ⟨s', hs', fun p hpp => ?_⟩
          rw [hp p hpp, pl_cons]
          simp only [hn]
          by_cases c1 : p < n
          · rw [if_pos c1, if_pos (by omega), if_neg (by omega)]
          · rw [if_neg c1]
            by_cases c2 : p = n
            · subst c2; rw [if_pos (by omega), if_pos (by omega), if_pos rfl]
              exact hgrp (p % 4) (by omega) (by
                rw [hn]
                by_cases hM : (p + 1) % 4 = 0
                · exact .inl hM
                · exact .inr (.inl (by omega)))
            · rw [if_neg (by omega : ¬ p < n + 1)]
              have : (n + 1 + 3) / 4 = (n + 3) / 4 := by omega
              rw [this]
        · have hrun : run s (uo h b d ds.length) = some (s.1, (fun i => if i = n % 4 then d else s.2.1 i), 0) := by
            unfold uo
            rw [hn, hgu, List.append_nil, if_neg hd0]
            exact hg.1 s d (n % 4) hdig (by omega) hd9 (by omega) (by omega)
          have e3 : (b || d != 0) = true := by cases b <;> simp [hd0]
          obtain ⟨s', hs', hp⟩ := ih true (s.1, (fun i => if i = n % 4 then d else s.2.1 i), 0) hn1 (by omega) (fun x hx => hd x (by simp [hx])) rfl
            (fun i hi hx => by
              rw [hn] at hx
              simp only
              rcases hx with hx | hx | hx
              · exact absurd hx hu
              · rw [if_neg (by omega)]
                by_cases hM : (n + 1) % 4 = 0
                · exact hgrp i hi (by rw [hn]; exact .inl hM)
                · exact hgrp i hi (by rw [hn]; exact .inr (.inl (by omega)))
              · cases hx)
            (fun i hi => hnum i (by omega)) (fun e => absurd (by omega : n % 4 = 0) hu)
          refine ⟨s', by rw [run_append, hrun, e2, e3]; exact hs', fun p hpp => ?_⟩
          rw [hp p hpp, pl_cons]
          simp only [hn]
          by_cases c1 : p < n
          · rw [if_pos c1, if_pos (by omega), if_neg (by omega)]
          · rw [if_neg c1]
            by_cases c2 : p = n
            · subst c2; rw [if_pos (by omega), if_pos rfl, if_pos (by omega), if_pos rfl]
            · rw [if_neg (by omega : ¬ p < n + 1)]
              have : (n + 1 + 3) / 4 = (n + 3) / 4 := by omega
              rw [this]
              by_cases c3 : p < 4 * ((n + 3) / 4)
              · rw [if_pos c3, if_pos c3, if_neg (by omega)]
              · rw [if_neg c3, if_neg c3]

theorem big_get (num : Nat → Nat) (i : Nat) (h : i < 20) : (big num)[i]? = some (num (19 - i)) := by
  unfold big
  rw [List.getElem?_map, List.getElem?_range h]; rfl
theorem big_len (num : Nat → Nat) : (big num).length = 20 := by simp [big]

theorem big_eq (num : Nat → Nat) (ds : List Nat) (h20 : ds.length ≤ 20) (hp : ∀ p, p < 20 → num p = pl ds p) : big num = List.replicate (20 - ds.length) 0 ++ ds := by
  apply List.ext_getElem?
  intro i
  by_cases hi : i < 20
  · rw [big_get num i hi, hp _ (by omega), List.getElem?_append]
    split
    · rename_i h; simp at h
      rw [pl_out _ _ (by omega)]
      rw [List.getElem?_replicate, if_pos (by omega)]
    · rename_i h; simp at h
      rw [List.length_replicate, List.getElem?_eq_getElem (by omega)]
      unfold pl
      rw [List.getD_eq_getElem?_getD, List.getElem?_reverse (by omega), List.getElem?_eq_getElem (by omega)]
      simp only [Option.getD_some, Option.some.injEq]
      congr 1; omega
  · rw [List.getElem?_eq_none (by rw [big_len]; omega), List.getElem?_eq_none (by simp; omega)]

theorem strip_zeros (k : Nat) (l : List Nat) : strip (List.replicate k 0 ++ l) = strip l := by
  unfold strip
  induction k with
  | zero => simp
  | succ k ih => rw [List.replicate_succ, List.cons_append, List.dropWhile_cons, if_pos (by rfl), ih]
theorem strip_self {l : List Nat} (h : l.head? ≠ some 0) : strip l = l := by
  cases l with
  | nil => rfl
  | cons a l =>
    have : a ≠ 0 := by simpa using h
    unfold strip
    rw [List.dropWhile_cons, if_neg (by simpa using this)]

theorem DS.head {ds : List Nat} (h : DS ds) (h0 : ds ≠ [0]) : ds.head? ≠ some 0 := fun e => h0 (h.2.2.2 e)

/-- What is written with units is read with units. -/
theorem readU_units (h : Nat → Nat → List Int) (hg : Good h) (ds : List Nat) (hd : DS ds) (h0 : ds ≠ [0]) : readU (units h false ds) = some ds := by
  obtain ⟨s', hs', hp⟩ := key h hg ds false st0 hd.1 hd.2.1 hd.2.2.1 rfl (fun _ _ _ => rfl) (fun _ _ => rfl) (fun _ => rfl)
  unfold readU
  rw [hs']
  simp only [Option.map_some]
  rw [big_eq _ ds hd.2.1 (fun p hpp => by
    rw [hp p hpp]
    split
    · rfl
    · rename_i hx; rw [pl_out _ _ (by omega)]; split <;> rfl), strip_zeros, strip_self (hd.head h0)]

theorem posC_map (ds : List Nat) : posC ds = ds.map pd := by
  unfold posC
  induction ds with
  | nil => rfl
  | cons d ds ih => unfold eachS; rw [ih]; rfl
theorem ascC_map (ds : List Nat) : ascC ds = ds.map fun d : Nat => (48 + d : Int) := by
  unfold ascC
  induction ds with
  | nil => rfl
  | cons d ds ih => unfold eachS; rw [ih]; rfl
theorem wideC_map (ds : List Nat) : wideC ds = ds.map fun d : Nat => (65296 + d : Int) := by
  unfold wideC
  induction ds with
  | nil => rfl
  | cons d ds ih => unfold eachS; rw [ih]; rfl

theorem readE_pos (ds : List Nat) (hd : ∀ d ∈ ds, d ≤ 9) : readE (posC ds) = some ds := by
  rw [posC_map]
  induction ds with
  | nil => rfl
  | cons d ds ih =>
    show readE (pd d :: ds.map pd) = _
    unfold readE
    rw [dgt_pd d (hd d (by simp)), ih (fun x hx => hd x (by simp [hx]))]; rfl

/-- What a number is written as by one of the three. -/
def Wr (ds : List Nat) (cs : List Int) : Prop := cs = kanjiC ds ∨ cs = posC ds ∨ cs = formC ds

theorem zero_read : readE [38646] = some [0] := by decide

/-- What is written is read in one of the two ways. -/
theorem complete {ds : List Nat} {cs : List Int} (hd : DS ds) (h : Wr ds cs) : readE cs = some ds ∨ readU cs = some ds := by
  by_cases h0 : ds = [0]
  · subst h0
    left
    rcases h with h | h | h <;> subst h <;> decide
  · rcases h with h | h | h
    · right; subst h; unfold kanjiC; rw [if_neg h0]; exact readU_units kp good_kp ds hd h0
    · left; subst h; exact readE_pos ds hd.2.2.1
    · right; subst h; unfold formC; rw [if_neg h0]; exact readU_units fp good_fp ds hd h0

/-- Digits read with units: the last one alone counts. -/
theorem run_digits (s : St) (ds : List Nat) (hd : ∀ d ∈ ds, d ≤ 9) (h0 : ds ≠ []) : run s (ds.map pd) = some (s.1, s.2.1, ds.getLast h0) := by
  induction ds generalizing s with
  | nil => exact absurd rfl h0
  | cons d ds ih =>
    rw [List.map_cons, run_cons_some (step_pd s d (hd d (by simp)))]
    by_cases e : ds = []
    · subst e; rfl
    · rw [ih _ (fun x hx => hd x (by simp [hx])) e, List.getLast_cons e]

theorem readU_digits (ds : List Nat) (hd : ∀ d ∈ ds, d ≤ 9) (h0 : ds ≠ []) : readU (ds.map pd) = some (if ds.getLast h0 = 0 then [] else [ds.getLast h0]) := by
  unfold readU
  rw [run_digits st0 ds hd h0]
  simp only [Option.map_some, Option.some.injEq]
  obtain ⟨x, hx⟩ : ∃ x, ds.getLast h0 = x := ⟨_, rfl⟩
  rw [hx]
  have e : big (endG (st0.1, st0.2.1, x) 0).1 = List.replicate 19 0 ++ [x] := by
    have : (endG (st0.1, st0.2.1, x) 0).1 = fun i => if i = 0 then x else 0 := by
      funext i
      simp only [endG, st0]
      by_cases e : i = 0
      · subst e; simp
      · rw [if_neg e]; split
        · rw [if_neg (by omega)]
        · rfl
    rw [this]; rfl
  rw [e, strip_zeros]
  split
  · rename_i h; subst h; rfl
  · rename_i h; exact strip_self (by simpa using h)

theorem pd_inj : ∀ a, a ≤ 9 → ∀ b, b ≤ 9 → (pd a = pd b ∨ pd a = fd b) → a = b := by decide
theorem pd_38646 : ∀ a, a ≤ 9 → pd a ≠ 38646 := by decide

/-- Of units and digits. -/
theorem pos_units {a b : List Nat} (ha : DS a) (hb : DS b) (h : Nat → Nat → List Int) (hg : Good h) (hh : ∀ d, d ≤ 9 → h d 0 = [pd d] ∨ h d 0 = [fd d]) (h0 : b ≠ [0]) (e : posC a = units h false b) : a = b := by
  have ha0 : a ≠ [] := by intro e; rw [e] at ha; exact absurd ha.1 (by simp)
  have r := readU_units h hg b hb h0
  rw [← e, posC_map, readU_digits a ha.2.2.1 ha0] at r
  have r := Option.some.inj r
  split at r
  · rw [← r] at hb; exact absurd hb.1 (by simp)
  · obtain ⟨x, hx⟩ : ∃ x, a.getLast ha0 = x := ⟨_, rfl⟩
    rw [hx] at r
    subst r
    have hx9 : x ≤ 9 := hb.2.2.1 x (by simp)
    have hxn : x ≠ 0 := fun e => h0 (by rw [e])
    have e2 : units h false [x] = h x 0 := by simp [units, eachS, uo, hxn, gu]
    rw [e2, posC_map] at e
    match a, ha0 with
    | [y], _ =>
      simp at hx
      subst hx; rfl
    | y :: z :: t, _ =>
      rcases hh x hx9 with e3 | e3 <;> rw [e3] at e <;> simp at e

theorem kp0 : ∀ d, d ≤ 9 → kp d 0 = [pd d] ∨ kp d 0 = [fd d] := by decide
theorem fp0 : ∀ d, d ≤ 9 → fp d 0 = [pd d] ∨ fp d 0 = [fd d] := by decide

theorem units_zero_no {b : List Nat} (hb : DS b) (h : Nat → Nat → List Int) (hg : Good h) (h0 : b ≠ [0]) : units h false b ≠ [38646] := by
  intro e
  have r := readU_units h hg b hb h0
  rw [e] at r
  have : readU [38646] = some [] := by decide
  rw [this] at r
  have := Option.some.inj r
  rw [← this] at hb; exact absurd hb.1 (by simp)

theorem pos_zero_no {a : List Nat} (ha : DS a) : posC a ≠ [38646] := by
  intro e
  rw [posC_map] at e
  match a, ha with
  | [x], ha => simp at e; exact pd_38646 x (ha.2.2.1 x (by simp)) e
  | [], ha => simp at e
  | _ :: _ :: _, _ => simp at e

/-- No two numbers are written alike. -/
theorem unique {a b : List Nat} {cs : List Int} (ha : DS a) (hb : DS b) (h1 : Wr a cs) (h2 : Wr b cs) : a = b := by
  have split1 : ∀ {x : List Nat}, DS x → Wr x cs → (x = [0] ∧ cs = [38646]) ∨ cs = posC x ∨ (x ≠ [0] ∧ ∃ h, Good h ∧ (∀ d, d ≤ 9 → h d 0 = [pd d] ∨ h d 0 = [fd d]) ∧ cs = units h false x) := by
    intro x hx h
    by_cases h0 : x = [0]
    · subst h0
      rcases h with h | h | h
      · exact .inl ⟨rfl, h⟩
      · exact .inr (.inl h)
      · exact .inl ⟨rfl, h⟩
    · rcases h with h | h | h
      · unfold kanjiC at h; rw [if_neg h0] at h; exact .inr (.inr ⟨h0, kp, good_kp, kp0, h⟩)
      · exact .inr (.inl h)
      · unfold formC at h; rw [if_neg h0] at h; exact .inr (.inr ⟨h0, fp, good_fp, fp0, h⟩)
  rcases split1 ha h1 with ⟨ea, ec⟩ | ec | ⟨a0, h, hg, hh, ec⟩ <;> rcases split1 hb h2 with ⟨eb, ed⟩ | ed | ⟨b0, k, kg, kk, ed⟩
  · rw [ea, eb]
  · exact absurd (ed.symm.trans ec) (pos_zero_no hb)
  · exact absurd (ed.symm.trans ec) (units_zero_no hb k kg b0)
  · exact absurd (ec.symm.trans ed) (pos_zero_no ha)
  · have r1 := readE_pos a ha.2.2.1
    have r2 := readE_pos b hb.2.2.1
    rw [← ec] at r1; rw [← ed, r1] at r2; exact Option.some.inj r2
  · exact pos_units ha hb k kg kk b0 (ec.symm.trans ed)
  · exact absurd (ec.symm.trans ed) (units_zero_no ha h hg a0)
  · exact (pos_units hb ha h hg hh a0 (ed.symm.trans ec)).symm
  · have r1 := readU_units h hg a ha a0
    have r2 := readU_units k kg b hb b0
    rw [← ec] at r1; rw [← ed, r1] at r2; exact Option.some.inj r2

end Go.Proofs.YteelmjmiankflaaDoor.Num
