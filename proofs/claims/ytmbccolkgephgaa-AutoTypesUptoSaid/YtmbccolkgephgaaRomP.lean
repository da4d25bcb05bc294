/-
  Texts of rules as mathematics: pieces, lines, what is read; of no program.
-/
import Derived.Test.YtmbccolkgephgaaRomF
import Derived.Lib.SplitLaws
set_option linter.unusedVariables false
set_option linter.unusedSimpArgs false
namespace Go.Proofs.Ytmbccolkgephgaa.Rom
open Go Go.RowKit Go.Proofs.Ytmbccolkgephgaa.Kit Go.Proofs.Ytmbccolkgephgaa.Utf

/-- The pieces of a list between the bytes c. -/
def pc (c : UInt8) : List UInt8 → List (List UInt8)
  | [] => [[]]
  | b :: l => if b = c then [] :: pc c l else match pc c l with
    | [] => [[b]]
    | p :: ps => (b :: p) :: ps
theorem pc_cons (c b : UInt8) (l : List UInt8) : pc c (b :: l) = if b = c then [] :: pc c l else match pc c l with
    | [] => [[b]]
    | p :: ps => (b :: p) :: ps := rfl
theorem pc_ne (c : UInt8) (l : List UInt8) : pc c l ≠ [] := by
  cases l with
  | nil => simp [pc]
  | cons b l => rw [pc_cons]; split; simp; split <;> simp
theorem pc_none {c : UInt8} {l : List UInt8} (h : c ∉ l) : pc c l = [l] := by
  induction l with
  | nil => rfl
  | cons b l ih =>
    rw [pc_cons, if_neg (fun e => h (by rw [e]; exact List.mem_cons_self)), ih (fun hm => h (List.mem_cons_of_mem _ hm))]
theorem pc_cut {c : UInt8} {p r : List UInt8} (h : c ∉ p) : pc c (p ++ c :: r) = p :: pc c r := by
  induction p with
  | nil => show pc c (c :: r) = _; rw [pc_cons, if_pos rfl]
  | cons b p ih =>
    show pc c (b :: (p ++ c :: r)) = _
    rw [pc_cons, if_neg (fun e => h (by rw [e]; exact List.mem_cons_self)), ih (fun hm => h (List.mem_cons_of_mem _ hm))]
/-- A list has the byte, or not: and where first. -/
theorem cut_cases (c : UInt8) (l : List UInt8) : c ∉ l ∨ ∃ p r, l = p ++ c :: r ∧ c ∉ p := by
  induction l with
  | nil => left; simp
  | cons b l ih =>
    by_cases h : b = c
    · right; exact ⟨[], l, by rw [h]; rfl, by simp⟩
    · rcases ih with h2 | ⟨p, r, rfl, h2⟩
      · left; intro hm; rcases List.mem_cons.1 hm with e | e
        · exact h e.symm
        · exact h2 e
      · right; exact ⟨b :: p, r, rfl, fun hm => by rcases List.mem_cons.1 hm with e | e
                                                   · exact h e.symm
                                                   · exact h2 e⟩
theorem pc_free {c : UInt8} {l : List UInt8} : ∀ p ∈ pc c l, c ∉ p := by
  obtain ⟨n, hn⟩ : ∃ n, l.length = n := ⟨_, rfl⟩
  induction n using Nat.strongRecOn generalizing l with
  | ind n ih =>
    intro p hp
    rcases cut_cases c l with h | ⟨q, r, rfl, h⟩
    · rw [pc_none h, List.mem_singleton] at hp; rw [hp]; exact h
    · rw [pc_cut h] at hp
      rcases List.mem_cons.1 hp with rfl | hp
      · exact h
      · exact ih r.length (by rw [← hn]; simp; omega) rfl p hp
/-- Pieces with the byte between them. -/
def jn (c : UInt8) : List (List UInt8) → List UInt8
  | [] => []
  | [p] => p
  | p :: ps => p ++ c :: jn c ps
theorem jn_cons (c : UInt8) (p : List UInt8) {ps : List (List UInt8)} (h : ps ≠ []) : jn c (p :: ps) = p ++ c :: jn c ps := by
  cases ps with
  | nil => exact absurd rfl h
  | cons _ _ => rfl
theorem pc_jn {c : UInt8} {ps : List (List UInt8)} (h : ps ≠ []) (hf : ∀ p ∈ ps, c ∉ p) : pc c (jn c ps) = ps := by
  induction ps with
  | nil => exact absurd rfl h
  | cons p ps ih =>
    cases ps with
    | nil => exact pc_none (hf p (by simp))
    | cons q qs =>
      rw [jn_cons c p (by simp), pc_cut (hf p (by simp)), ih (by simp) (fun x hx => hf x (List.mem_cons_of_mem _ hx))]
theorem jn_pc (c : UInt8) (l : List UInt8) : jn c (pc c l) = l := by
  obtain ⟨n, hn⟩ : ∃ n, l.length = n := ⟨_, rfl⟩
  induction n using Nat.strongRecOn generalizing l with
  | ind n ih =>
    rcases cut_cases c l with h | ⟨q, r, rfl, h⟩
    · rw [pc_none h]; rfl
    · rw [pc_cut h, jn_cons c q (pc_ne c r), ih r.length (by rw [← hn]; simp; omega) r rfl]

/-! ### the library's splitting and cutting at one byte -/
theorem index_no {c : UInt8} {l : List UInt8} (h : c ∉ l) : Lib.index l [c] = -1 := by
  rw [Lib.index_one]
  induction l with
  | nil => rfl
  | cons b l ih =>
    unfold Lib.indexByte
    have hb : (b == c) = false := by simp; intro e; exact h (by rw [e]; exact List.mem_cons_self)
    rw [hb, ih (fun hm => h (List.mem_cons_of_mem _ hm))]
    rfl
theorem index_at {c : UInt8} {p r : List UInt8} (h : c ∉ p) : Lib.index (p ++ c :: r) [c] = p.length := by
  rw [Lib.index_one]
  induction p with
  | nil => show Lib.indexByte (c :: r) c = _; unfold Lib.indexByte; simp
  | cons b p ih =>
    show Lib.indexByte (b :: (p ++ c :: r)) c = _
    unfold Lib.indexByte
    have hb : (b == c) = false := by simp; intro e; exact h (by rw [e]; exact List.mem_cons_self)
    rw [hb, ih (fun hm => h (List.mem_cons_of_mem _ hm))]
    have : (((p.length : Int)) == -1) = false := by simp <;> omega
    rw [this]
    simp

theorem splitK_pc (c : UInt8) : ∀ (k : Nat) (l : List UInt8), l.count c = k → Lib.splitK [c] 0 k l = pc c l := by
  intro k
  induction k with
  | zero =>
    intro l h
    rw [pc_none (List.count_eq_zero.1 h)]; rfl
  | succ k ih =>
    intro l h
    rcases cut_cases c l with h2 | ⟨p, r, rfl, h2⟩
    · rw [List.count_eq_zero.2 h2] at h; omega
    · unfold Lib.splitK
      rw [index_at h2, if_neg (by simp <;> omega), pc_cut h2]
      have e1 : ((p.length : Int)).toNat = p.length := by omega
      rw [e1]
      congr 1
      · simp
      · rw [show (p ++ c :: r).drop (p.length + [c].length) = r by simp]
        apply ih
        rw [List.count_append, List.count_eq_zero.2 h2, List.count_cons_self] at h
        omega

def ba (l : List UInt8) : ByteArray := ⟨l.toArray⟩
theorem bs_ba (l : List UInt8) : bs (ba l) = l := by simp [ba, bs]
theorem ba_bs (s : ByteArray) : ba (bs s) = s := ba_ext (by simp [ba])
theorem ba_size (l : List UInt8) : (ba l).size = l.length := by rw [← bs_len, bs_ba]
theorem splitB_pc (c : UInt8) (s : ByteArray) : Lib.splitB ⟨#[c]⟩ 0 (Lib.countB s ⟨#[c]⟩) s = (pc c (bs s)).map ba := by
  have h := Lib.splitB_data ⟨#[c]⟩ 0 (Lib.countB s ⟨#[c]⟩) s
  have e : Lib.countB s ⟨#[c]⟩ = (bs s).count c := Lib.count_one c (bs s)
  rw [e] at h ⊢
  rw [show (({ data := #[c] } : ByteArray)).data.toList = [c] from rfl, splitK_pc c _ _ rfl] at h
  rw [← h, List.map_map]
  conv => lhs; rw [← List.map_id (Lib.splitB _ _ _ _)]
  apply List.map_congr_left
  intro a _
  exact (ba_bs a).symm
theorem cut_no {c : UInt8} {l : List UInt8} (h : c ∉ l) : Lib.cut l [c] = (l, [], false) := by
  unfold Lib.cut; rw [index_no h, if_neg (by omega)]
theorem cut_at {c : UInt8} {p r : List UInt8} (h : c ∉ p) : Lib.cut (p ++ c :: r) [c] = (p, r, true) := by
  unfold Lib.cut
  rw [index_at h, if_pos (by omega)]
  have e1 : ((p.length : Int)).toNat = p.length := by omega
  rw [e1]
  simp

/-! ### what a line says -/
def ruleOf (line : List UInt8) : Option Rule :=
  match pc 9 line with
  | [a, b] => some ⟨ba a, ba b, ba []⟩
  | [a, b, n] => if n = [] then none else some ⟨ba a, ba b, ba n⟩
  | _ => none
def skips (line : List UInt8) : Bool := match line with | [] => true | b :: _ => decide (b = 35)
def stepP (acc : List Rule) (line : List UInt8) : Option (List Rule) :=
  if skips line then some acc else match ruleOf line with
    | some r => if okR r && newK (acc.map Rule.k) r.k && decide (acc.length < 500) then some (acc ++ [r]) else none
    | none => none
/-- The rules, the line, the error. -/
def foldP : List Rule → Nat → List (List UInt8) → List Rule × Nat × Int
  | acc, _, [] => (acc, 0, 0)
  | acc, i, l :: ls => match stepP acc l with
    | some acc' => foldP acc' (i + 1) ls
    | none => ([], i + 1, 50)
def parseL (s : ByteArray) : List Rule × Nat × Int := if s.size > 1048576 then ([], 0, 2) else foldP [] 0 (pc 10 (bs s))

/-- What the program takes a line for. -/
def lineR (line : List UInt8) : Rule × Bool :=
  let a := Lib.cut line [9]
  let b := Lib.cut a.2.1 [9]
  (⟨ba a.1, ba b.1, ba b.2.1⟩, a.2.2 && (b.2.2 == decide (b.2.1 ≠ [])))
theorem tab_no_key : isKeyZ ((9 : UInt8).toNat : Int) = false := by decide
theorem keys_no_tab {l : List UInt8} (h : (9 : UInt8) ∈ l) : keysOK l = false := by
  cases e : keysOK l
  · rfl
  · unfold keysOK at e
    have := List.all_eq_true.1 e 9 h
    rw [tab_no_key] at this; cases this
theorem lineR_is (acc : List Rule) (line : List UInt8) (h : skips line = false) (hl : acc.length ≤ 500) :
    stepP acc line = if (lineR line).2 && accB (acc.map Rule.k) (lineR line).1 then some (acc ++ [(lineR line).1]) else none := by
  unfold stepP
  rw [h, if_neg (by simp)]
  have hacc : ∀ r, (okR r && newK (acc.map Rule.k) r.k && decide (acc.length < 500)) = accB (acc.map Rule.k) r := fun r => by
    unfold accB
    rw [List.length_map]
    congr 1
    apply decide_eq_decide.2; omega
  unfold ruleOf lineR
  rcases cut_cases 9 line with h1 | ⟨p, rest, rfl, h1⟩
  · rw [pc_none h1, cut_no h1]; simp
  · rw [pc_cut h1, cut_at h1]
    simp only
    rcases cut_cases 9 rest with h2 | ⟨q, n, rfl, h2⟩
    · rw [pc_none h2, cut_no h2]
      simp only [hacc]
      simp
    · rw [pc_cut h2, cut_at h2]
      simp only
      rcases cut_cases 9 n with h3 | ⟨n1, n2, rfl, h3⟩
      · rw [pc_none h3]
        simp only
        by_cases hn : n = []
        · simp [hn]
        · simp only [if_neg hn, hacc]
          simp [hn]
      · rw [pc_cut h3]
        have e : okR ⟨ba p, ba q, ba (n1 ++ 9 :: n2)⟩ = false := by
          unfold okR
          simp only [bs_ba]
          rw [keys_no_tab (l := n1 ++ 9 :: n2) (by simp)]
          simp
        have e2 : accB (acc.map Rule.k) ⟨ba p, ba q, ba (n1 ++ 9 :: n2)⟩ = false := by unfold accB; rw [e]; rfl
        rw [e2]
        have : ∃ x y, pc 9 n2 = x :: y := by
          cases hx : pc 9 n2 with
          | nil => exact absurd hx (pc_ne _ _)
          | cons x y => exact ⟨x, y, rfl⟩
        obtain ⟨x, y, hxy⟩ := this
        rw [hxy]
        simp

end Go.Proofs.Ytmbccolkgephgaa.Rom
