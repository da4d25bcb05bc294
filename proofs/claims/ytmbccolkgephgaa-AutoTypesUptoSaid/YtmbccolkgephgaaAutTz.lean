/-
  The reference's Step, its states in layers, and the contracts of its where, used and Type (AutRs, AutTm, AutTa, AutTu, AutTy in one text: a claim holds few files).
-/
import Derived.Test.YtmbccolkgephgaaAutRg
import Derived.Deep.RegionLaw
import Derived.Test.YtmbccolkgephgaaAutBfs
import Derived.BigQuiet
import Derived.Laws.OwnMore
import Derived.Test.YtmbccolkgephgaaUtfH
import Derived.Deep.RegionHeld3
import Derived.Deep.AppendLies
import Derived.Deep.DeepCutAuto
import Derived.Maps.AppendAt
set_option linter.unusedVariables false
set_option linter.unusedSimpArgs false
set_option maxRecDepth 100000
namespace Go.Proofs.Ytmbccolkgephgaa.Aut
open Go Go.RowKit Go.Proofs.Ytmbccolkgephgaa.Kit Go.Proofs.Ytmbccolkgephgaa.Utf Go.Proofs.Ytmbccolkgephgaa.Rom

set_option maxHeartbeats 4000000 in
theorem rstep_any (v : Value) (rs : List Rule) (p : ByteArray) (c : UInt8) (w : World) (hR : RowR w v rs) (hok : okL rs = true) (hsh : ∀ r ∈ rs, Short r) (hs : p.size ≤ 50000) :
    Calls Try.prog 22 #[v, .string p, .int .u8 c.toNat] w fun e w' => e = .returned (.tuple #[.string (ba (fd rs (keysOf (bs p)) (keysOf [c])).1), .string (ba (fd rs (keysOf (bs p)) (keysOf [c])).2)]) ∧ Below w.heap.size w w' := by
  have hkl := keysOf_le (bs p)
  rw [bs_len] at hkl
  have hk2 := keysOf_le [c]
  rw [List.length_singleton] at hk2
  have HK1 := Lib.hid (fun W => rkeys_any p W (by omega))
  have HK2 := Lib.hid (fun W => rkeys_any (ba [c]) W (by rw [ba_size]; simp))
  rw [bs_ba] at HK2
  have HF : Hid (∀ W, Below w.heap.size w W → Calls Try.prog 35 #[v, .string (ba (keysOf (bs p))), .string (ba (keysOf [c]))] W fun e w' => e = .returned (.tuple #[.string (ba (fd rs (keysOf (bs p)) (keysOf [c])).1), .string (ba (fd rs (keysOf (bs p)) (keysOf [c])).2)]) ∧ Below W.heap.size W w') := Lib.hid fun W hW => by
    have h := rfeed_any v rs (ba (keysOf (bs p))) (ba (keysOf [c])) W (hR.later hW (Nat.le_refl _)) hok hsh (by rw [ba_size, ba_size]; omega)
    rw [bs_ba, bs_ba] at h
    exact h
  generalize ba (keysOf (bs p)) = K1 at *
  generalize ba (keysOf [c]) = K2 at *
  generalize ba (fd rs (keysOf (bs p)) (keysOf [c])).1 = O at *
  generalize ba (fd rs (keysOf (bs p)) (keysOf [c])).2 = Q at *
  clear hR hsh hkl hk2
  go_enter Try.func22, Try.ntmps22
  go_wp2
  have hcv1 : ∀ W : World, (convert 47 9 (.slice (some ⟨W.heap.size, 0, none⟩) 1 1)).run Try.prog (W.alloc (Obj.cells #[.int .u8 c.toNat] 5)) = .ok (.string (ba [c])) (W.alloc (Obj.cells #[.int .u8 c.toNat] 5)) := fun W => conv_lit W c (heap_alloc_new W _)
  have hcv2 : ∀ W : World, (convert 47 9 (.slice (some ⟨W.heap.size, 0, none⟩) 1 1)).run Try.prog (W.alloc (Obj.cells #[.int .u8 c.toNat] 5)).drew = .ok (.string (ba [c])) (W.alloc (Obj.cells #[.int .u8 c.toNat] 5)).drew := fun W => conv_lit W c (W' := (W.alloc (Obj.cells #[.int .u8 c.toNat] 5)).drew) (heap_alloc_new W _)
  have HC3 : Hid (∀ W1 : World, Below (w.heap.size + 1) (w.alloc (Obj.cells #[.int .u8 c.toNat] 5)).drew W1 → (convert 47 9 (.slice (some ⟨w.heap.size, 0, none⟩) 1 1)).run Try.prog W1 = .ok (.string (ba [c])) W1) := Lib.hid fun W1 h => conv_lit w c (W' := W1) (by rw [h.block w.heap.size (by omega)]; exact heap_alloc_new w _)
  generalize ba [c] = L at *
  go_region_law (first
    | (go_simp; go_at_call 28; (with_reducible refine (HK1.out _).mono ?_); rintro e w1 ⟨rfl, hb1⟩; have hbw1 : Below w.heap.size w w1 := (by first | exact (Below.refl _ w).drew.trans hb1 | exact (((Below.refl _ _).alloc (Nat.le_refl _) _).drew).trans (hb1.mono (by simp))); try have hcv3 := HC3.out w1 (hb1.mono (by simp)))
    | (go_simp; go_at_call 28; (with_reducible refine (HK2.out _).mono ?_); rintro e w2 ⟨rfl, hb2⟩; have hbw2 : Below w.heap.size w w2 := (by first | exact hbw1.trans (hb2.mono hbw1.size) | exact (hbw1.alloc hbw1.size _).trans (hb2.mono (by simp; have := hbw1.size; omega))))
    | (go_simp; go_at_call 35; (with_reducible refine (HF.out _ hbw2).mono ?_); rintro e w3 ⟨rfl, hb3⟩))
  all_goals go_wp2
  all_goals go_ret2
  all_goals exact ⟨rfl, hbw2.trans (hb3.mono hbw2.size)⟩

end Go.Proofs.Ytmbccolkgephgaa.Aut

set_option linter.unusedVariables false
set_option linter.unusedSimpArgs false
namespace Go.Proofs.Ytmbccolkgephgaa.Aut
open Go Go.Proofs.Ytmbccolkgephgaa.Utf Go.Proofs.Ytmbccolkgephgaa.Rom

theorem pw_or {α : Type} {R : α → α → Prop} {l : List α} (h : l.Pairwise R) {x y : α} (hx : x ∈ l) (hy : y ∈ l) (hne : x ≠ y) : R x y ∨ R y x := by
  obtain ⟨a, ha⟩ := List.mem_iff_getElem?.1 hx
  obtain ⟨b, hb⟩ := List.mem_iff_getElem?.1 hy
  rcases Nat.lt_trichotomy a b with h1 | h1 | h1
  · exact .inl (pw_lt h ha hb h1)
  · subst h1
    rw [ha] at hb
    exact absurd (Option.some.inj hb) hne
  · exact .inr (pw_lt h hb ha h1)

/-- A state of the reference: how much is written, what is pending, the keys. -/
structure Sd where
  n : Nat
  p : By
  w : By
def sd0 : Sd := ⟨0, [], []⟩
def Good (rs : List Rule) (s : By) (x : Sd) : Prop := AllK x.w ∧ x.n ≤ s.length ∧ Feeds rs [] x.w (s.take x.n) x.p
def Same2 (a b : Sd) : Prop := a.n = b.n ∧ a.p = b.p

variable {rs : List Rule} {s : By}

/-- All states that are reached by at most d keys. -/
structure Lay (rs : List Rule) (s : By) (old : List Sd) (d : Nat) : Prop where
  good : ∀ x ∈ old, Good rs s x
  len : ∀ x ∈ old, x.w.length ≤ d
  dist : old.Pairwise (fun a b => ¬ Same2 a b)
  least : ∀ ks n q, AllK ks → ks.length ≤ d → n ≤ s.length → Feeds rs [] ks (s.take n) q → ∃ x ∈ old, x.n = n ∧ x.p = q ∧ sle x.w ks
  nofin : ∀ x ∈ old, x.w.length < d → ¬ (x.n = s.length ∧ x.p = [])

theorem lay0 (rs : List Rule) (s : By) : Lay rs s [sd0] 0 where
  good x hx := by
    rw [List.mem_singleton] at hx
    subst hx
    exact ⟨AllK.nil, Nat.zero_le _, by show Feeds rs [] [] (s.take 0) []; rw [List.take_zero]; exact .nil []⟩
  len x hx := by
    rw [List.mem_singleton] at hx
    subst hx
    exact Nat.le_refl _
  dist := List.pairwise_singleton ..
  least ks n q hk hl hn hf := by
    have : ks = [] := List.eq_nil_of_length_eq_zero (by omega)
    subst this
    obtain ⟨h1, h2⟩ := hf.det (.nil [])
    have h3 := congrArg List.length h1
    rw [List.length_take, List.length_nil] at h3
    exact ⟨sd0, by simp, by show 0 = n; omega, h2.symm, .inl rfl⟩
  nofin x hx h := by omega

/-- The states that one more key leads to, as far as P says. -/
structure Nx (rs : List Rule) (s : By) (old : List Sd) (d : Nat) (P : Sd → UInt8 → Prop) (next : List Sd) : Prop where
  good : ∀ y ∈ next, Good rs s y
  len : ∀ y ∈ next, y.w.length = d + 1
  new : ∀ y ∈ next, ∀ x ∈ old, ¬ Same2 x y
  dist : next.Pairwise (fun a b => ¬ Same2 a b)
  got : ∀ x c, P x c → ∀ o q, Feeds rs x.p [c] o q → o <+: s.drop x.n → (∃ y ∈ old, y.n = x.n + o.length ∧ y.p = q) ∨ (∃ y ∈ next, y.n = x.n + o.length ∧ y.p = q ∧ sle y.w (x.w ++ [c]))
theorem nx0 (rs : List Rule) (s : By) (old : List Sd) (d : Nat) (P : Sd → UInt8 → Prop) (hP : ∀ x c, ¬ P x c) : Nx rs s old d P [] where
  good y hy := by cases hy
  len y hy := by cases hy
  new y hy := by cases hy
  dist := .nil
  got x c h := absurd h (hP x c)
theorem Nx.mono {old next : List Sd} {d : Nat} {P P' : Sd → UInt8 → Prop} (h : Nx rs s old d P next) (hP : ∀ x c, P' x c → P x c) : Nx rs s old d P' next :=
  { h with got := fun x c hx => h.got x c (hP x c hx) }

/-- A key that leads nowhere. -/
theorem Nx.skip {old next : List Sd} {d : Nat} {P : Sd → UInt8 → Prop} (h : Nx rs s old d P next) {x : Sd} {c : UInt8} {o q : By} (hst : Feeds rs x.p [c] o q) (hno : ¬ o <+: s.drop x.n) : Nx rs s old d (fun x' c' => P x' c' ∨ (x' = x ∧ c' = c)) next :=
  ⟨h.good, h.len, h.new, h.dist, fun x' c' hx o' q' hf hp => by
      rcases hx with hx | ⟨rfl, rfl⟩
      · exact h.got x' c' hx o' q' hf hp
      · obtain ⟨rfl, rfl⟩ := hf.det hst
        exact absurd hp hno⟩
/-- A key that leads to a state of an earlier layer. -/
theorem Nx.old {old next : List Sd} {d : Nat} {P : Sd → UInt8 → Prop} (h : Nx rs s old d P next) {x : Sd} {c : UInt8} {o q : By} (hst : Feeds rs x.p [c] o q) {y : Sd} (hy : y ∈ old) (hyn : y.n = x.n + o.length) (hyp : y.p = q) : Nx rs s old d (fun x' c' => P x' c' ∨ (x' = x ∧ c' = c)) next :=
  ⟨h.good, h.len, h.new, h.dist, fun x' c' hx o' q' hf hp => by
      rcases hx with hx | ⟨rfl, rfl⟩
      · exact h.got x' c' hx o' q' hf hp
      · obtain ⟨rfl, rfl⟩ := hf.det hst
        exact .inl ⟨y, hy, hyn, hyp⟩⟩
theorem good_next {x : Sd} (hg : Good rs s x) {c : UInt8} (hk : isKb c = true) {o q : By} (hst : Feeds rs x.p [c] o q) (hp : o <+: s.drop x.n) : Good rs s ⟨x.n + o.length, q, x.w ++ [c]⟩ := by
  obtain ⟨h1, h2⟩ := cont_mk (x := ⟨x.n, x.p, x.w, 0, [], 0⟩) hg hst hp
  exact ⟨hg.1.append (AllK.one hk), h1, h2⟩
/-- A key that leads to a state that this layer lacks. -/
theorem Nx.add {old next : List Sd} {d : Nat} {P : Sd → UInt8 → Prop} (h : Nx rs s old d P next) {x : Sd} (hg : Good rs s x) (hl : x.w.length = d) {c : UInt8} (hk : isKb c = true) {o q : By} (hst : Feeds rs x.p [c] o q) (hp : o <+: s.drop x.n)
    (h1 : ∀ y ∈ old, ¬ (y.n = x.n + o.length ∧ y.p = q)) (h2 : ∀ y ∈ next, ¬ (y.n = x.n + o.length ∧ y.p = q)) : Nx rs s old d (fun x' c' => P x' c' ∨ (x' = x ∧ c' = c)) (next ++ [⟨x.n + o.length, q, x.w ++ [c]⟩]) where
  good y hy := by
    rcases List.mem_append.1 hy with hy | hy
    · exact h.good y hy
    · rw [List.mem_singleton] at hy; subst hy; exact good_next hg hk hst hp
  len y hy := by
    rcases List.mem_append.1 hy with hy | hy
    · exact h.len y hy
    · rw [List.mem_singleton] at hy; subst hy; show (x.w ++ [c]).length = _; simp [hl]
  new y hy z hz := by
    rcases List.mem_append.1 hy with hy | hy
    · exact h.new y hy z hz
    · rw [List.mem_singleton] at hy; subst hy; exact h1 z hz
  dist := by
    rw [List.pairwise_append]
    refine ⟨h.dist, List.pairwise_singleton .., fun a ha b hb => ?_⟩
    rw [List.mem_singleton] at hb; subst hb
    exact h2 a ha
  got x' c' hx o' q' hf hp' := by
    rcases hx with hx | ⟨rfl, rfl⟩
    · rcases h.got x' c' hx o' q' hf hp' with h3 | ⟨y, hy, h3⟩
      · exact .inl h3
      · exact .inr ⟨y, List.mem_append_left _ hy, h3⟩
    · obtain ⟨rfl, rfl⟩ := hf.det hst
      exact .inr ⟨_, List.mem_append_right _ (List.mem_singleton.2 rfl), rfl, rfl, .inl rfl⟩
/-- A key that leads to a state of this layer with lesser keys. -/
theorem pw_set {α : Type} {R : α → α → Prop} : ∀ {l : List α} {i : Nat} {a b : α}, l.Pairwise R → l[i]? = some a → (∀ x, R a x ↔ R b x) → (∀ x, R x a ↔ R x b) → (l.set i b).Pairwise R
  | [], i, a, b, _, h, _, _ => by simp at h
  | z :: l, 0, a, b, hp, h, h1, h2 => by
    rw [List.getElem?_cons_zero] at h
    cases h
    rw [List.pairwise_cons] at hp
    rw [List.set_cons_zero, List.pairwise_cons]
    exact ⟨fun x hx => (h1 x).1 (hp.1 x hx), hp.2⟩
  | z :: l, i + 1, a, b, hp, h, h1, h2 => by
    rw [List.getElem?_cons_succ] at h
    rw [List.pairwise_cons] at hp
    rw [List.set_cons_succ, List.pairwise_cons]
    refine ⟨fun x hx => ?_, pw_set hp.2 h h1 h2⟩
    rcases List.mem_or_eq_of_mem_set hx with hx | rfl
    · exact hp.1 x hx
    · exact (h2 z).1 (hp.1 a (List.mem_of_getElem? h))
theorem Nx.better {old next : List Sd} {d : Nat} {P : Sd → UInt8 → Prop} (h : Nx rs s old d P next) {x : Sd} (hg : Good rs s x) (hl : x.w.length = d) {c : UInt8} (hk : isKb c = true) {o q : By} (hst : Feeds rs x.p [c] o q) (hp : o <+: s.drop x.n)
    {i : Nat} {y : Sd} (hy : next[i]? = some y) (hyn : y.n = x.n + o.length) (hyp : y.p = q) (hlt : x.w ++ [c] < y.w) : Nx rs s old d (fun x' c' => P x' c' ∨ (x' = x ∧ c' = c)) (next.set i ⟨x.n + o.length, q, x.w ++ [c]⟩) := by
  have hym := List.mem_of_getElem? hy
  have hyl := h.len y hym
  have hi : i < next.length := (List.getElem?_eq_some_iff.1 hy).1
  have hmem : (⟨x.n + o.length, q, x.w ++ [c]⟩ : Sd) ∈ next.set i ⟨x.n + o.length, q, x.w ++ [c]⟩ := List.mem_of_getElem? (i := i) (by rw [List.getElem?_set_self hi])
  refine ⟨fun z hz => ?_, fun z hz => ?_, fun z hz b hb => ?_, ?_, fun x' c' hx o' q' hf hp' => ?_⟩
  · rcases List.mem_or_eq_of_mem_set hz with hz | rfl
    · exact h.good z hz
    · exact good_next hg hk hst hp
  · rcases List.mem_or_eq_of_mem_set hz with hz | rfl
    · exact h.len z hz
    · show (x.w ++ [c]).length = _; simp [hl]
  · rcases List.mem_or_eq_of_mem_set hz with hz | rfl
    · exact h.new z hz b hb
    · have := h.new y hym b hb
      unfold Same2 at this ⊢
      rw [hyn, hyp] at this
      exact this
  · refine pw_set h.dist hy (fun z => ?_) (fun z => ?_)
    · unfold Same2; rw [hyn, hyp]
    · unfold Same2; rw [hyn, hyp]
  · rcases hx with hx | ⟨rfl, rfl⟩
    · rcases h.got x' c' hx o' q' hf hp' with h3 | ⟨z, hz, h4, h5, h6⟩
      · exact .inl h3
      · by_cases e : z = y
        · subst e
          refine .inr ⟨_, hmem, by rw [← h4, hyn], by rw [← h5, hyp], ?_⟩
          refine sle_trans (.inr (.inr ⟨by rw [hyl]; simp [hl], hlt⟩)) h6
        · obtain ⟨j, hj⟩ := List.mem_iff_getElem?.1 hz
          have hji : i ≠ j := by
            rintro rfl
            rw [hj] at hy
            exact e (Option.some.inj hy)
          exact .inr ⟨z, List.mem_of_getElem? (i := j) (by rw [List.getElem?_set_ne hji]; exact hj), h4, h5, h6⟩
    · obtain ⟨rfl, rfl⟩ := hf.det hst
      exact .inr ⟨_, hmem, rfl, rfl, .inl rfl⟩
/-- A key that leads to a state of this layer with keys that are not lesser. -/
theorem Nx.worse {old next : List Sd} {d : Nat} {P : Sd → UInt8 → Prop} (h : Nx rs s old d P next) {x : Sd} (hl : x.w.length = d) {c : UInt8} {o q : By} (hst : Feeds rs x.p [c] o q)
    {y : Sd} (hy : y ∈ next) (hyn : y.n = x.n + o.length) (hyp : y.p = q) (hlt : ¬ x.w ++ [c] < y.w) : Nx rs s old d (fun x' c' => P x' c' ∨ (x' = x ∧ c' = c)) next :=
  ⟨h.good, h.len, h.new, h.dist, fun x' c' hx o' q' hf hp' => by
      rcases hx with hx | ⟨rfl, rfl⟩
      · exact h.got x' c' hx o' q' hf hp'
      · obtain ⟨rfl, rfl⟩ := hf.det hst
        refine .inr ⟨y, hy, hyn, hyp, ?_⟩
        have hyl := h.len y hy
        rcases sle_total y.w (x'.w ++ [c']) with h1 | h1
        · exact h1
        · rcases h1 with h1 | h1 | ⟨_, h1⟩
          · exact .inl h1.symm
          · rw [hyl] at h1; simp [hl] at h1
          · exact absurd h1 hlt⟩

/-- The keys that are worth a look. -/
def Keyset (rs : List Rule) (s U : By) : Prop := (∀ c ∈ U, isKb c = true) ∧ ∀ c, isKb c = true → c ∉ U → c ∉ s ∧ Other rs c

/-- One more layer. -/
theorem Lay.next (hok : okL rs = true) {U : By} (hU : Keyset rs s U) {old next last : List Sd} {d : Nat} (h : Lay rs s old d) (hlast : ∀ x, x ∈ last ↔ x ∈ old ∧ x.w.length = d) (hnf : ∀ x ∈ last, ¬ (x.n = s.length ∧ x.p = []))
    {P : Sd → UInt8 → Prop} (hN : Nx rs s old d P next) (hP : ∀ x ∈ last, ∀ c ∈ U, P x c) : Lay rs s (old ++ next) (d + 1) ∧ ∀ x, x ∈ next ↔ x ∈ old ++ next ∧ x.w.length = d + 1 := by
  refine ⟨⟨fun x hx => ?_, fun x hx => ?_, ?_, fun ks n q hk hl hn hf => ?_, fun x hx hlt => ?_⟩, fun x => ⟨fun hx => ⟨List.mem_append_right _ hx, hN.len x hx⟩, fun ⟨hx, hlx⟩ => ?_⟩⟩
  · rcases List.mem_append.1 hx with hx | hx
    · exact h.good x hx
    · exact hN.good x hx
  · rcases List.mem_append.1 hx with hx | hx
    · exact Nat.le_succ_of_le (h.len x hx)
    · exact Nat.le_of_eq (hN.len x hx)
  · rw [List.pairwise_append]
    exact ⟨h.dist, hN.dist, fun a ha b hb => hN.new b hb a ha⟩
  · by_cases hld : ks.length ≤ d
    · obtain ⟨x, hx, h1⟩ := h.least ks n q hk hld hn hf
      exact ⟨x, List.mem_append_left _ hx, h1⟩
    have hne : ks ≠ [] := by intro e; rw [e] at hld; exact hld (Nat.zero_le _)
    obtain ⟨ks', c, rfl⟩ : ∃ ks' c, ks = ks' ++ [c] := ⟨ks.dropLast, ks.getLast hne, (List.dropLast_concat_getLast hne).symm⟩
    rw [List.length_append, List.length_singleton] at hl hld
    obtain ⟨o1, q1, o2, hf1, hf2, ho⟩ := hf.split hok
    have hl1 := congrArg List.length ho
    rw [List.length_take, List.length_append] at hl1
    have e1 : o1 = s.take o1.length := by
      have := congrArg (List.take o1.length) ho
      rw [List.take_take, List.take_append_of_le_length (Nat.le_refl _), List.take_of_length_le (Nat.le_refl o1.length), Nat.min_eq_left (by omega)] at this
      exact this.symm
    rw [e1] at hf1
    obtain ⟨x, hx, hxn, hxp, hle⟩ := h.least ks' o1.length q1 hk.left (by omega) (by omega) hf1
    have hcc := hk.right c (by simp)
    have hg := h.good x hx
    have hst : Feeds rs x.p [c] o2 q := by rw [hxp]; exact hf2
    have hfx : Feeds rs [] (x.w ++ [c]) (s.take n) q := by
      have := hg.2.2.comp hst
      rw [ho, e1, ← hxn]
      exact this
    have hle2 := sle_snoc hle c
    by_cases hxd : x.w.length < d
    · obtain ⟨y, hy, h1, h2, h3⟩ := h.least (x.w ++ [c]) n q (hg.1.append (AllK.one hcc)) (by simp; omega) hn hfx
      exact ⟨y, List.mem_append_left _ hy, h1, h2, sle_trans h3 hle2⟩
    have hxl : x.w.length = d := by have := h.len x hx; omega
    have hxm := (hlast x).2 ⟨hx, hxl⟩
    obtain ⟨c1, c2, c3⟩ := cont hok (x := ⟨x.n, x.p, x.w, 0, [], 0⟩) hg hst hn hfx
    have c1' : n = x.n + o2.length := c1
    have hpre : o2 <+: s.drop x.n := by
      refine ⟨s.drop n, ?_⟩
      have h4 := congrArg (List.drop x.n) c3
      rw [List.drop_left' (l₁ := s.take x.n) (by rw [List.length_take]; have := hg.2.1; omega)] at h4
      exact h4.symm
    by_cases hcU : c ∈ U
    · rcases hN.got x c (hP x hxm c hcU) o2 q hst hpre with ⟨y, hy, h1, h2⟩ | ⟨y, hy, h1, h2, h3⟩
      · refine ⟨y, List.mem_append_left _ hy, by rw [h1, c1'], h2, .inr (.inl ?_)⟩
        have := h.len y hy
        rw [List.length_append, List.length_singleton]
        omega
      · exact ⟨y, List.mem_append_right _ hy, by rw [h1, c1'], h2, sle_trans h3 hle2⟩
    · obtain ⟨hcs, hco⟩ := hU.2 c hcc hcU
      obtain ⟨F, hF⟩ := flushes_ex hok x.p
      obtain ⟨e2, _⟩ := hst.det (feeds_other hok hco _ x.p (Nat.le_refl _) hF)
      refine absurd ?_ hcs
      rw [c3, e2]
      simp
  · rcases List.mem_append.1 hx with hx | hx
    · by_cases hd : x.w.length < d
      · exact h.nofin x hx hd
      · exact hnf x ((hlast x).2 ⟨hx, by omega⟩)
    · have := hN.len x hx
      omega
  · rcases List.mem_append.1 hx with hx | hx
    · have := h.len x hx
      omega
    · exact hx

theorem Lay.found (hok : okL rs = true) {old : List Sd} {d : Nat} (h : Lay rs s old d) {x : Sd} (hx : x ∈ old) (hd : x.w.length = d) (hn : x.n = s.length) (hp : x.p = []) : Least rs s x.w true := by
  have hg := h.good x hx
  obtain ⟨g1, g2, g3⟩ := hg
  rw [hn, List.take_length, hp] at g3
  refine .inl ⟨rfl, ⟨g1, g3⟩, fun k' hk' => ?_⟩
  by_cases hl : k'.length ≤ d
  · obtain ⟨y, hy, h1, h2, h3⟩ := h.least k' s.length [] hk'.1 hl (Nat.le_refl _) (by rw [List.take_length]; exact hk'.2)
    by_cases e : x = y
    · subst e; exact h3
    · exact absurd ⟨h1, h2⟩ (h.nofin y hy (by
        have hyl := h.len y hy
        rcases Nat.lt_or_ge y.w.length d with h4 | h4
        · exact h4
        · exact absurd (show Same2 x y from ⟨by rw [hn, h1], by rw [hp, h2]⟩) (by
            rcases pw_or h.dist hx hy e with h5 | h5
            · exact h5
            · exact fun h6 => h5 ⟨h6.1.symm, h6.2.symm⟩)))
  · exact .inr (.inl (by omega))
theorem Lay.none (hok : okL rs = true) {old : List Sd} {d : Nat} (h : Lay rs s old d) (hlast : ∀ x ∈ old, x.w.length ≠ d) : Least rs s [] false := by
  have key : ∀ (m : Nat) (ks : By), ks.length = m → AllK ks → ∀ n q, n ≤ s.length → Feeds rs [] ks (s.take n) q → ∃ x ∈ old, x.n = n ∧ x.p = q := by
    intro m
    induction m with
    | zero =>
      intro ks hl hk n q hn hf
      obtain ⟨x, hx, h1, h2, _⟩ := h.least ks n q hk (by omega) hn hf
      exact ⟨x, hx, h1, h2⟩
    | succ m ih =>
      intro ks hl hk n q hn hf
      have hne : ks ≠ [] := by intro e; rw [e] at hl; cases hl
      obtain ⟨ks', c, rfl⟩ : ∃ ks' c, ks = ks' ++ [c] := ⟨ks.dropLast, ks.getLast hne, (List.dropLast_concat_getLast hne).symm⟩
      obtain ⟨o1, q1, o2, hf1, hf2, ho⟩ := hf.split hok
      have hl1 := congrArg List.length ho
      rw [List.length_take, List.length_append] at hl1
      have e1 : o1 = s.take o1.length := by
        have := congrArg (List.take o1.length) ho
        rw [List.take_take, List.take_append_of_le_length (Nat.le_refl _), List.take_of_length_le (Nat.le_refl o1.length), Nat.min_eq_left (by omega)] at this
        exact this.symm
      rw [e1] at hf1
      obtain ⟨x, hx, hxn, hxp⟩ := ih ks' (by simpa using hl) hk.left o1.length q1 (by omega) hf1
      have hg := h.good x hx
      have hst : Feeds rs x.p [c] o2 q := by rw [hxp]; exact hf2
      have hxl : x.w.length < d := by have := h.len x hx; have := hlast x hx; omega
      obtain ⟨y, hy, h1, h2, _⟩ := h.least (x.w ++ [c]) n q (hg.1.append (AllK.one (hk.right c (by simp)))) (by simp; omega) hn (by
        have := hg.2.2.comp hst
        rw [ho, e1, ← hxn]
        exact this)
      exact ⟨y, hy, h1, h2⟩
  refine .inr ⟨rfl, rfl, fun k' hk' => ?_⟩
  obtain ⟨x, hx, h1, h2⟩ := key _ k' rfl hk'.1 s.length [] (Nat.le_refl _) (by rw [List.take_length]; exact hk'.2)
  exact h.nofin x hx (by have := h.len x hx; have := hlast x hx; omega) ⟨h1, h2⟩

theorem few_of (hok : okL rs = true) {l : List Sd} (hg : ∀ x ∈ l, Good rs s x) (hd : l.Pairwise (fun a b => ¬ Same2 a b)) : l.length ≤ (s.length + 1) * (1 + 4 * rs.length) := by
  have h1 : (l.map fun x => (x.n, x.p)).Nodup := by
    unfold List.Nodup
    rw [List.pairwise_map]
    exact hd.imp (fun {a b} hab e => hab (by injection e with e1 e2; exact ⟨e1, e2⟩))
  have h2 := nodup_le (u := (List.range (s.length + 1)).flatMap fun n => (pends rs).map fun p => (n, p)) h1 (fun y hy => by
    rw [List.mem_map] at hy
    obtain ⟨x, hx, rfl⟩ := hy
    obtain ⟨_, hn, hf⟩ := hg x hx
    rw [List.mem_flatMap]
    exact ⟨x.n, by rw [List.mem_range]; omega, List.mem_map.2 ⟨x.p, pends_mem (hf.pend (.inl rfl)), rfl⟩⟩)
  rw [List.length_map] at h2
  have h3 : ∀ (l : List Nat), (l.flatMap fun n => (pends rs).map fun p => (n, p)).length = l.length * (pends rs).length := by
    intro l
    induction l with
    | nil => simp
    | cons a l ih => rw [List.flatMap_cons, List.length_append, ih, List.length_map, List.length_cons, Nat.add_mul]; omega
  rw [h3, List.length_range] at h2
  exact Nat.le_trans h2 (Nat.mul_le_mul_left _ (pends_len hok))
theorem Pend.short (hok : okL rs = true) {p : By} (h : Pend rs p) : p.length ≤ 4 := by
  rcases h with rfl | h
  · exact Nat.zero_le _
  · unfold longL at h
    rw [List.any_eq_true] at h
    obtain ⟨r, hr, h⟩ := h
    unfold longR at h
    rw [Bool.and_eq_true, decide_eq_true_eq, ba_size] at h
    have := (okR_next (ok_of hok hr)).2.1
    omega
theorem Good.short (hok : okL rs = true) {x : Sd} (h : Good rs s x) : x.p.length ≤ 4 ∧ AllK x.p := ⟨(h.2.2.pend (.inl rfl)).short hok, h.2.2.keys hok AllK.nil h.1⟩

/-- The first i states are done, and of state x the first k keys. -/
def Done (ll : List Sd) (U : By) (i : Nat) (x' : Sd) (c' : UInt8) : Prop := x' ∈ ll.take i ∧ c' ∈ U
theorem done_all {ll : List Sd} {U : By} {i : Nat} (hi : i = ll.length) : ∀ x ∈ ll, ∀ c ∈ U, Done ll U i x c := fun x hx c hc => ⟨by rw [hi, List.take_length]; exact hx, hc⟩
theorem done_more {ll : List Sd} {U : By} {i k : Nat} {x : Sd} (hx : ll[i]? = some x) (hk : U.length ≤ k) : ∀ x' c', Done ll U (i + 1) x' c' → (Done ll U i x' c' ∨ (x' = x ∧ c' ∈ U.take k)) := by
  intro x' c' h
  obtain ⟨h1, h2⟩ := h
  obtain ⟨hi, e⟩ := List.getElem?_eq_some_iff.1 hx
  rw [List.take_succ_eq_append_getElem hi, List.mem_append, List.mem_singleton, e] at h1
  rcases h1 with h1 | h1
  · exact .inl ⟨h1, h2⟩
  · exact .inr ⟨h1, by rw [List.take_of_length_le hk]; exact h2⟩
theorem done_key {ll : List Sd} {U : By} {i k : Nat} {x : Sd} {c : UInt8} (hc : U[k]? = some c) : ∀ x' c', (Done ll U i x' c' ∨ (x' = x ∧ c' ∈ U.take (k + 1))) → ((Done ll U i x' c' ∨ (x' = x ∧ c' ∈ U.take k)) ∨ (x' = x ∧ c' = c)) := by
  intro x' c' h
  rcases h with h | ⟨h1, h2⟩
  · exact .inl (.inl h)
  · obtain ⟨hi, e⟩ := List.getElem?_eq_some_iff.1 hc
    rw [List.take_succ_eq_append_getElem hi, List.mem_append, List.mem_singleton, e] at h2
    rcases h2 with h2 | h2
    · exact .inl (.inr ⟨h1, h2⟩)
    · exact .inr ⟨h1, h2⟩

end Go.Proofs.Ytmbccolkgephgaa.Aut

set_option linter.unusedVariables false
set_option linter.unusedSimpArgs false
set_option maxRecDepth 100000
namespace Go.Proofs.Ytmbccolkgephgaa.Aut
open Go Go.RowKit Go.Proofs.Ytmbccolkgephgaa.Kit Go.Proofs.Ytmbccolkgephgaa.Utf Go.Proofs.Ytmbccolkgephgaa.Rom

/-- A state as a value, and a row of states as cells. -/
def sagg (x : Sd) : Value := .agg #[.int .i64 x.n, .string (ba x.p), .string (ba x.w)]
def sc (l : List Sd) : List Value := l.flatMap fun x => [.int .i64 x.n, .string (ba x.p), .string (ba x.w)]
theorem sc_nil : sc [] = [] := rfl
theorem sc_cons (x : Sd) (l : List Sd) : sc (x :: l) = .int .i64 x.n :: .string (ba x.p) :: .string (ba x.w) :: sc l := rfl
theorem sc_append (a b : List Sd) : sc (a ++ b) = sc a ++ sc b := by simp [sc]
theorem sc_len (l : List Sd) : (sc l).length = l.length * 3 := by
  induction l with
  | nil => rfl
  | cons r rs ih => rw [sc_cons]; simp [ih]; omega
theorem sc_oneCell (l : List Sd) : ∀ u ∈ sc l, u.oneCell' = true := by
  induction l with
  | nil => intro u hu; cases hu
  | cons r rs ih =>
    intro u hu
    rw [sc_cons] at hu
    rcases List.mem_cons.1 hu with rfl | hu
    · rfl
    rcases List.mem_cons.1 hu with rfl | hu
    · rfl
    rcases List.mem_cons.1 hu with rfl | hu
    · rfl
    exact ih u hu
theorem sc_at : ∀ {l : List Sd} {i : Nat} {x : Sd}, l[i]? = some x → (sc l)[i * 3]? = some (.int .i64 x.n) ∧ (sc l)[i * 3 + 1]? = some (.string (ba x.p)) ∧ (sc l)[i * 3 + 2]? = some (.string (ba x.w))
  | [], i, x, h => by simp at h
  | y :: l, 0, x, h => by
    rw [List.getElem?_cons_zero] at h
    cases h
    exact ⟨rfl, rfl, rfl⟩
  | y :: l, i + 1, x, h => by
    rw [List.getElem?_cons_succ] at h
    have := sc_at h
    rw [sc_cons, show (i + 1) * 3 = i * 3 + 1 + 1 + 1 by omega]
    exact this
theorem sc_set : ∀ {l : List Sd} {i : Nat} (x : Sd), i < l.length → (((sc l).set (i * 3) (.int .i64 x.n)).set (i * 3 + 1) (.string (ba x.p))).set (i * 3 + 2) (.string (ba x.w)) = sc (l.set i x)
  | [], i, x, h => by simp at h
  | y :: l, 0, x, h => rfl
  | y :: l, i + 1, x, h => by
    rw [List.length_cons] at h
    have := sc_set (l := l) (i := i) x (by omega)
    rw [sc_cons, List.set_cons_succ, sc_cons, show (i + 1) * 3 = i * 3 + 1 + 1 + 1 by omega, ← this]
    rfl

/-- The slice v reads as the states l. -/
def RowS (w : World) (v : Value) (l : List Sd) : Prop :=
  ∃ a cap, v = .slice a l.length cap ∧ (l = [] ∨ ∃ b, a = some ⟨b, 0, none⟩ ∧ b < w.heap.size ∧
    ∀ i x, l[i]? = some x → w.cell? ⟨b, i * 3, none⟩ = some (.int .i64 x.n) ∧ w.cell? ⟨b, i * 3 + 1, none⟩ = some (.string (ba x.p)) ∧ w.cell? ⟨b, i * 3 + 2, none⟩ = some (.string (ba x.w)))
theorem RowS.block {w w' : World} {v : Value} {l : List Sd} (h : RowS w v l) (hb : ∀ b, v.ownBlock = some b → b < w.heap.size → w'.heap[b]? = w.heap[b]?) (hs : w.heap.size ≤ w'.heap.size) : RowS w' v l := by
  obtain ⟨a, cap, rfl, h⟩ := h
  refine ⟨a, cap, rfl, h.imp id ?_⟩
  rintro ⟨b, rfl, hlt, hx⟩
  refine ⟨b, rfl, by omega, fun i x hi => ?_⟩
  obtain ⟨h1, h2, h3⟩ := hx i x hi
  have e := hb b rfl hlt
  exact ⟨by rw [World.cell?_of_block (a := ⟨b, _, none⟩) e]; exact h1, by rw [World.cell?_of_block (a := ⟨b, _, none⟩) e]; exact h2, by rw [World.cell?_of_block (a := ⟨b, _, none⟩) e]; exact h3⟩
theorem RowS.later {w w' : World} {v : Value} {l : List Sd} (h : RowS w v l) {B : Nat} (hb : Below B w w') (hB : w.heap.size ≤ B) : RowS w' v l :=
  h.block (fun b _ hlt => hb.block b (by omega)) hb.size
theorem rows_of_own {w : World} {base : Nat} {e : TypeId} {v : Value} {n : Nat} {l : List Sd} (h : w.ownsRow base e 3 v n (sc l)) : RowS w v l ∧ n = l.length := by
  have hn : n = l.length := by have := h.1; rw [sc_len] at this; omega
  subst hn
  refine ⟨?_, rfl⟩
  rcases h.2 with ⟨rfl, h0⟩ | ⟨g, cap, cur, rfl, hb, hg, hnc, hcm, hcs, htake⟩
  · have : l = [] := List.eq_nil_of_length_eq_zero h0
    subst this
    exact ⟨none, 0, rfl, .inl rfl⟩
  · refine ⟨_, cap, rfl, .inr ⟨g, rfl, (Array.getElem?_eq_some_iff.1 hg).1, fun i x hi => ?_⟩⟩
    have hil := (List.getElem?_eq_some_iff.1 hi).1
    obtain ⟨h1, h2, h3⟩ := sc_at hi
    exact ⟨by rw [h.cellAt _ (by omega)]; exact h1, by rw [h.cellAt _ (by omega)]; exact h2, by rw [h.cellAt _ (by omega)]; exact h3⟩

/-- What where tells. -/
def WherePost (l : List Sd) (n : Nat) (p : By) (w : World) (e : Ending) (w' : World) : Prop :=
  Below w.heap.size w w' ∧ ((e = .returned (.int .i64 (-1)) ∧ Hid (∀ y ∈ l, ¬ (y.n = n ∧ y.p = p))) ∨ ∃ (i : Nat) (y : Sd), e = .returned (.int .i64 i) ∧ i < l.length ∧ Hid (l[i]? = some y) ∧ Hid (y.n = n ∧ y.p = p))

theorem str_ba (a b : By) : ((ba a).toList == (ba b).toList) = decide (a = b) := by
  rw [Lib.toList_data, Lib.toList_data, Bool.eq_iff_iff, beq_iff_eq, decide_eq_true_eq]
  exact Iff.rfl

set_option maxHeartbeats 8000000 in
theorem where_any (v : Value) (l : List Sd) (n : Nat) (p k : By) (w : World) (hR : RowS w v l) (hl : l.length ≤ 1000000000) :
    Calls Try.prog 46 #[v, .agg #[.int .i64 n, .string (ba p), .string (ba k)]] w (WherePost l n p w) := by
  have HR := Lib.hid hR
  obtain ⟨a, cap, rfl, _⟩ := hR
  go_enter Try.func46, Try.ntmps46
  go_wp2
  have e0 := heap_alloc_new w (Obj.cells #[.int .i64 n, .string (ba p), .string (ba k)] 86)
  obtain ⟨W, hW⟩ : ∃ W, w.alloc (Obj.cells #[.int .i64 n, .string (ba p), .string (ba k)] 86) = W := ⟨_, rfl⟩
  have hb0 : Below w.heap.size w W := by rw [← hW]; exact (Below.refl _ _).alloc (Nat.le_refl _) _
  have hsz : w.heap.size < W.heap.size := by rw [← hW]; simp
  rw [hW] at e0 ⊢
  clear hW
  obtain ⟨g, hg⟩ : ∃ g, w.heap.size = g := ⟨_, rfl⟩
  have HG := Lib.hid hg
  rw [hg] at e0 hsz hb0 ⊢
  have HE := Lib.hid e0
  clear e0 hg
  go_loopw [5] (fun i wr => ∃ k : Nat, i = .int .i64 k ∧ k ≤ l.length ∧ Hid (∀ y ∈ l.take k, ¬ (y.n = n ∧ y.p = p)) ∧ Below (g + 1) W wr) (fun i _ => l.length - (intOf i).toNat)
  case atStart => exact ⟨0, rfl, Nat.zero_le _, Lib.hid (fun y hy => by simp at hy), Below.refl _ _⟩
  case round =>
    obtain ⟨m, rfl, hm, hno, hbr⟩ := hrel
    have hbw : Below g w wr := hb0.trans (hbr.mono (Nat.le_succ g))
    by_cases hml : m < l.length
    · obtain ⟨a', cap', e, h⟩ := HR.out
      cases e
      obtain ⟨b, rfl, hbl, hx⟩ := h.resolve_left (by intro e; rw [e] at hml; cases hml)
      obtain ⟨x0, x1, _⟩ := hx m l[m] (List.getElem?_eq_getElem hml)
      rw [HG.out] at hbl
      rw [← hbw.cell (p := ⟨b, _, none⟩) hbl] at x0 x1
      have hi := Lib.hid (List.getElem?_eq_getElem hml)
      have hts := Lib.hid (List.take_succ_eq_append_getElem hml)
      generalize l[m] = y at x0 x1 hi hts
      clear hx
      have eb : wr.heap[g]? = some (Obj.cells #[.int .i64 n, .string (ba p), .string (ba k)] 86 (0, 0)) := by rw [hbr.block g (Nat.lt_succ_self g)]; exact HE.out
      have y0 : wr.cell? ⟨g, 0, none⟩ = some (.int .i64 n) := by rw [cell_of_row wr g 0 _ _ _ eb]; rfl
      have y1 : wr.cell? ⟨g, 1, none⟩ = some (.string (ba p)) := by rw [cell_of_row wr g 1 _ _ _ eb]; rfl
      clear eb
      have m0 : (0 : Int) ≤ m := by omega
      have m1 : (m : Int) < l.length := by omega
      obtain ⟨yn, yp, yw⟩ := y
      simp only at x0 x1
      by_cases h1 : yn = n
      · subst h1
        by_cases h2 : yp = p
        · subst h2
          have hd : ((ba yp).toList == (ba yp).toList) = true := by rw [str_ba, decide_eq_true rfl]
          go_wp2
          go_quiet (fail)
          go_wp2
          go_ret
          exact ⟨by rw [HG.out]; exact below_drews hbw _, .inr ⟨m, _, rfl, hml, hi, Lib.hid ⟨rfl, rfl⟩⟩⟩
        · have hd : ((ba yp).toList == (ba p).toList) = false := by rw [str_ba, decide_eq_false h2]
          have hn2 := Lib.hid (show ∀ z ∈ l.take (m + 1), ¬ (z.n = yn ∧ z.p = p) by
            intro z hz
            rw [hts.out] at hz
            rcases List.mem_append.1 hz with hz | hz
            · exact hno.out z hz
            · rw [List.mem_singleton] at hz; subst hz; exact fun h => h2 h.2)
          go_wp2
          go_quiet (fail)
          go_wp2
          go_roundw
          case rel => exact ⟨m + 1, by go_num, by omega, hn2, below_drews hbr _⟩
          case measure => simp [intOf]; omega
      · have hd : ((yn : Int) == (n : Int)) = false := by rw [beq_eq_false_iff_ne]; omega
        have hd2 : decide ((yn : Int) = (n : Int)) = false := by rw [decide_eq_false_iff_not]; omega
        have hn2 := Lib.hid (show ∀ z ∈ l.take (m + 1), ¬ (z.n = n ∧ z.p = p) by
          intro z hz
          rw [hts.out] at hz
          rcases List.mem_append.1 hz with hz | hz
          · exact hno.out z hz
          · rw [List.mem_singleton] at hz; subst hz; exact fun h => h1 h.1)
        go_wp2
        go_quiet (fail)
        go_wp2
        go_roundw
        case rel => exact ⟨m + 1, by go_num, by omega, hn2, below_drews hbr _⟩
        case measure => simp [intOf]; omega
    · have e1 : l.take m = l := List.take_of_length_le (by omega)
      rw [e1] at hno
      go_wp2
      go_ret
      exact ⟨by rw [HG.out]; exact hbw, .inl ⟨rfl, hno⟩⟩

end Go.Proofs.Ytmbccolkgephgaa.Aut

set_option linter.unusedVariables false
set_option linter.unusedSimpArgs false
set_option maxRecDepth 100000
namespace Go.Proofs.Ytmbccolkgephgaa.Aut
open Go Go.RowKit Go.Proofs.Ytmbccolkgephgaa.Kit Go.Proofs.Ytmbccolkgephgaa.Utf Go.Proofs.Ytmbccolkgephgaa.Rom

/-- Bytes that are marked. -/
def Marks (cs : Array Value) (f : UInt8 → Bool) : Prop := cs.size = 256 ∧ ∀ c : UInt8, cs[c.toNat]? = some (.bool (f c))
theorem Marks.put {cs : Array Value} {f : UInt8 → Bool} (h : Marks cs f) (c : UInt8) : Marks (cs.setIfInBounds c.toNat (.bool true)) (fun d => f d || d == c) := by
  refine ⟨by rw [Array.size_setIfInBounds]; exact h.1, fun d => ?_⟩
  rw [Array.getElem?_setIfInBounds]
  by_cases e : c = d
  · subst e
    have := c.toNat_lt
    rw [if_pos rfl, if_pos (by rw [h.1]; omega)]
    simp
  · rw [if_neg (fun h => e (UInt8.toNat.inj h)), h.2 d]
    have : (d == c) = false := by rw [beq_eq_false_iff_ne]; exact fun h => e h.symm
    show _ = some (Value.bool (f d || d == c))
    rw [this, Bool.or_false]
/-- The bytes that occur in rules' keys. -/
def inKeys (rs : List Rule) (c : UInt8) : Bool := rs.any fun r => (bs r.k).contains c
theorem inKeys_succ {rs : List Rule} {j : Nat} (h : j < rs.length) (c : UInt8) : inKeys (rs.take (j + 1)) c = (inKeys (rs.take j) c || (bs (ri rs j).k).contains c) := by
  unfold inKeys
  rw [take_succ_ri rs j h, List.any_append]
  simp
def usedL (f : UInt8 → Bool) (k : Nat) : By := ((List.range k).map keyB).filter f
theorem usedL_succ (f : UInt8 → Bool) (k : Nat) : usedL f (k + 1) = usedL f k ++ (if f (keyB k) then [keyB k] else []) := by
  unfold usedL
  rw [List.range_succ, List.map_append, List.filter_append]
  congr 1
  rw [List.map_singleton, List.filter_cons]
  rfl
theorem usedL_len (f : UInt8 → Bool) (k : Nat) : (usedL f k).length ≤ k := by
  unfold usedL
  refine Nat.le_trans (List.length_filter_le ..) ?_
  simp
theorem used_keys (rs : List Rule) (s : By) : Keyset rs s (usedL (fun c => s.contains c || inKeys rs c) 94) := by
  constructor
  · intro c hc
    unfold usedL at hc
    obtain ⟨hc, _⟩ := List.mem_filter.1 hc
    obtain ⟨i, hi, rfl⟩ := List.mem_map.1 hc
    exact (keyB_is (List.mem_range.1 hi)).2
  · intro c hk hn
    obtain ⟨i, hi, rfl⟩ := keyB_of hk
    have : ¬ (s.contains (keyB i) || inKeys rs (keyB i)) = true := fun h => hn (List.mem_filter.2 ⟨List.mem_map.2 ⟨i, List.mem_range.2 hi, rfl⟩, h⟩)
    rw [Bool.or_eq_true, not_or] at this
    obtain ⟨h1, h2⟩ := this
    refine ⟨fun h => h1 (List.contains_iff_mem.2 h), fun r hr h => h2 ?_⟩
    exact List.any_eq_true.2 ⟨r, hr, List.contains_iff_mem.2 h⟩

/-- What the walk asks of the array of marks. -/
theorem mark_cell {w : World} {g : Nat} {cs : Array Value} {t : TypeId} {f : UInt8 → Bool} (h : w.heap[g]? = some (.cells cs t (0, 0))) (hm : Marks cs f) (c : UInt8) : w.cell? ⟨g, c.toNat, none⟩ = some (.bool (f c)) := by
  rw [cell_of_row w g _ _ _ _ h]; exact hm.2 c

def isF : Option Value → Bool
  | some (.bool false) => true
  | _ => false
theorem isF_eq {o : Option Value} (h : isF o = true) : o = some (.bool false) := by
  unfold isF at h
  split at h
  · rfl
  · cases h
theorem marks0 : Marks Try.zeroCells105 (fun _ => false) := by
  refine ⟨Try.zeroCells105_size, fun c => isF_eq ?_⟩
  have h : (List.range 256).all (fun i => isF (Try.zeroCells105[i]?)) = true := by kernel_rfl
  exact List.all_eq_true.1 h c.toNat (List.mem_range.2 c.toNat_lt)
theorem Marks.ext {cs : Array Value} {f f' : UInt8 → Bool} (h : Marks cs f) (hf : ∀ c, f c = f' c) : Marks cs f' := ⟨h.1, fun c => by rw [← hf c]; exact h.2 c⟩

set_option maxHeartbeats 8000000 in
theorem used_any (v : Value) (rs : List Rule) (s : ByteArray) (w : World) (hR : RowR w v rs) (hsh : ∀ r ∈ rs, Short r) (hs : s.size ≤ 140737488351232) :
    Calls Try.prog 45 #[v, .string s] w fun e w' => ∃ v', e = .returned v' ∧ w'.ownsRow w.heap.size 5 1 v' (usedL (fun c => (bs s).contains c || inKeys rs c) 94).length (u8s (usedL (fun c => (bs s).contains c || inKeys rs c) 94)) ∧ Below w.heap.size w w' := by
  obtain ⟨i0, hi, hz0, hz1, hz2⟩ := info_parts Clone.info_u8
  have HR := Lib.hid hR
  have HSH := Lib.hid hsh
  clear hsh
  obtain ⟨a, len, cap, rfl, hlen, hcap, hmax, _⟩ := id hR
  subst hlen
  have hmx : rs.length ≤ maxLen := by omega
  unfold maxLen at hmx
  clear hR hmax
  go_enter Try.func45, Try.ntmps45
  go_wp2
  have e0 := heap_alloc_new w (Obj.cells Try.zeroCells105 105)
  obtain ⟨W, hW⟩ : ∃ W, w.alloc (Obj.cells Try.zeroCells105 105) = W := ⟨_, rfl⟩
  have hb0 : Below w.heap.size w W := by rw [← hW]; exact (Below.refl _ _).alloc (Nat.le_refl _) _
  have hsz : w.heap.size < W.heap.size := by rw [← hW]; simp
  rw [hW] at e0 ⊢
  clear hW
  obtain ⟨g, hg⟩ : ∃ g, w.heap.size = g := ⟨_, rfl⟩
  have HG := Lib.hid hg
  rw [hg] at e0 hsz hb0 ⊢
  clear hg
  go_loopw [6] (fun i wr => ∃ k : Nat, i = .int .i64 k ∧ k ≤ s.size ∧ Hid (∃ cs, wr.heap[g]? = some (.cells cs 105 (0, 0)) ∧ Marks cs (fun c => ((bs s).take k).contains c)) ∧ Below g w wr ∧ g < wr.heap.size) (fun i _ => s.size - (intOf i).toNat)
  case atStart => exact ⟨0, rfl, Nat.zero_le _, Lib.hid ⟨_, e0, marks0.ext (fun c => by simp)⟩, hb0, hsz⟩
  case round =>
    obtain ⟨k, rfl, hk, hcs, hbw, hgw⟩ := hrel
    by_cases hkl : k < s.size
    · obtain ⟨cs, hc, hmk⟩ := hcs.out
      have hat := Lib.hid (bs_at s k hkl)
      obtain ⟨c, hcc⟩ : ∃ c, bt8 s k = c := ⟨_, rfl⟩
      have hrun : ∀ w, (Instr.index 9 (.string s) (.int .i64 k)).run Try.prog w = .ok (.int .u8 (c.toNat : Int)) w := by rw [← hcc]; exact run_byte s k hkl
      rw [hcc] at hat
      have x0 := mark_cell hc hmk c
      have f0 := frozen_of_row wr g c.toNat cs 105 hc
      have HN := Lib.hid (show ∃ cs', (wr.setCell ⟨g, c.toNat, none⟩ (.bool true)).heap[g]? = some (.cells cs' 105 (0, 0)) ∧ Marks cs' (fun d => ((bs s).take (k + 1)).contains d) from
        ⟨_, heap_setCell_same wr g c.toNat cs _ (.bool true) hc, (hmk.put c).ext (fun d => by rw [hat.out, List.contains_eq_any_beq, List.contains_eq_any_beq, List.any_append]; simp [Bool.beq_comm])⟩)
      have hc256 : (c.toNat : Int) < 256 := by have := c.toNat_lt; omega
      have hc0 : (0 : Int) ≤ c.toNat := by omega
      clear hc hmk hcc hcs
      go_wp2
      go_roundw
      case rel => exact ⟨k + 1, by go_num, by omega, HN, hbw.setCell (p := ⟨g, _, none⟩) (Nat.le_refl g) _, by simpa using hgw⟩
      case measure => simp [intOf]; omega
    · have e1 : (bs s).take k = bs s := List.take_of_length_le (by rw [bs_len]; omega)
      rw [e1] at hcs
      clear e1
      go_wp2
      go_loopw [7] (fun i wr => ∃ j : Nat, i = .int .i64 j ∧ j ≤ rs.length ∧ Hid (∃ cs, wr.heap[g]? = some (.cells cs 105 (0, 0)) ∧ Marks cs (fun c => (bs s).contains c || inKeys (rs.take j) c)) ∧ Below g w wr ∧ g < wr.heap.size) (fun i _ => rs.length - (intOf i).toNat)
      case atStart =>
        refine ⟨0, rfl, Nat.zero_le _, Lib.hid ?_, hbw, hgw⟩
        obtain ⟨cs, h1, h2⟩ := hcs.out
        exact ⟨cs, h1, h2.ext (fun c => by simp [inKeys])⟩
      case round =>
        clear hcs hbw hgw
        obtain ⟨j, rfl, hj, hcs, hbw, hgw⟩ := hrel
        by_cases hjl : j < rs.length
        · obtain ⟨b, off, rfl, hb, hx⟩ := HR.out.at (by omega)
          obtain ⟨x0, _, _⟩ := hx j hjl
          rw [HG.out] at hb
          have HX0 := Lib.hid x0
          have hks := Lib.hid (inKeys_succ hjl)
          have hrk := (HSH.out _ (ri_mem hjl)).1
          have j0 : (0 : Int) ≤ j := by omega
          have j1 : (j : Int) < rs.length := by omega
          obtain ⟨f, hf⟩ : ∃ f, (fun c => (bs s).contains c || inKeys (rs.take j) c) = f := ⟨_, rfl⟩
          have HF := Lib.hid hf
          rw [hf] at hcs
          clear hf x0 hx
          generalize ri rs j = r at HX0 hks hrk
          have x0' := HX0.out
          rw [← hbw.cell (p := ⟨b, _, none⟩) hb] at x0'
          go_wp2
          clear x0'
          go_loopw [8] (fun i wr => ∃ m : Nat, i = .int .i64 m ∧ m ≤ r.k.size ∧ Hid (∃ cs, wr.heap[g]? = some (.cells cs 105 (0, 0)) ∧ Marks cs (fun c => f c || ((bs r.k).take m).contains c)) ∧ Below g w wr ∧ g < wr.heap.size) (fun i _ => r.k.size - (intOf i).toNat)
          case atStart =>
            refine ⟨0, rfl, Nat.zero_le _, Lib.hid ?_, hbw, hgw⟩
            obtain ⟨cs, h1, h2⟩ := hcs.out
            exact ⟨cs, h1, h2.ext (fun c => by simp)⟩
          case round =>
            clear hcs hbw hgw
            obtain ⟨m, rfl, hm, hcs, hbw, hgw⟩ := hrel
            have x0' := HX0.out
            rw [← hbw.cell (p := ⟨b, _, none⟩) hb] at x0'
            by_cases hml : m < r.k.size
            · obtain ⟨cs, hc, hmk⟩ := hcs.out
              have hat := Lib.hid (bs_at r.k m hml)
              obtain ⟨c, hcc⟩ : ∃ c, bt8 r.k m = c := ⟨_, rfl⟩
              have hrun : ∀ w, (Instr.index 9 (.string r.k) (.int .i64 m)).run Try.prog w = .ok (.int .u8 (c.toNat : Int)) w := by rw [← hcc]; exact run_byte r.k m hml
              rw [hcc] at hat
              have y0 := mark_cell hc hmk c
              have f0 := frozen_of_row wr g c.toNat cs 105 hc
              have HN := Lib.hid (show ∃ cs', (wr.setCell ⟨g, c.toNat, none⟩ (.bool true)).heap[g]? = some (.cells cs' 105 (0, 0)) ∧ Marks cs' (fun d => f d || ((bs r.k).take (m + 1)).contains d) from
                ⟨_, heap_setCell_same wr g c.toNat cs _ (.bool true) hc, (hmk.put c).ext (fun d => by rw [hat.out, List.contains_eq_any_beq, List.contains_eq_any_beq, List.any_append]; simp [Bool.beq_comm, Bool.or_assoc])⟩)
              have hc256 : (c.toNat : Int) < 256 := by have := c.toNat_lt; omega
              have hc0 : (0 : Int) ≤ c.toNat := by omega
              have m0 : (0 : Int) ≤ m := by omega
              clear hc hmk hcc hcs
              go_wp2
              go_roundw
              case rel => exact ⟨m + 1, by go_num, by omega, HN, hbw.setCell (p := ⟨g, _, none⟩) (Nat.le_refl g) _, by simpa using hgw⟩
              case measure => simp [intOf]; omega
            · have e1 : (bs r.k).take m = bs r.k := List.take_of_length_le (by rw [bs_len]; omega)
              have hcs2 : Hid (∃ cs, wr.heap[g]? = some (.cells cs 105 (0, 0)) ∧ Marks cs (fun c => (bs s).contains c || inKeys (rs.take (j + 1)) c)) := by
                obtain ⟨cs, h1, h2⟩ := hcs.out
                refine Lib.hid ⟨cs, h1, h2.ext (fun c => ?_)⟩
                rw [e1, hks.out, ← Bool.or_assoc, ← HF.out]
              clear hcs e1
              go_wp2
              go_roundw
              case rel => exact ⟨j + 1, by go_num, by omega, hcs2, hbw, hgw⟩
              case measure => simp [intOf]; omega
        · rw [List.take_of_length_le (by omega)] at hcs
          obtain ⟨f, hf⟩ : ∃ f, (fun c => (bs s).contains c || inKeys rs c) = f := ⟨_, rfl⟩
          have HF := Lib.hid hf
          rw [hf] at hcs
          clear hf HR
          go_wp2
          go_loopw [10, 9] (fun i v w' => ∃ m : Nat, i = .int .i64 m ∧ 33 ≤ m ∧ m ≤ 127 ∧ w'.ownsRow (g + 1) 5 1 v (usedL f (m - 33)).length (u8s (usedL f (m - 33))) ∧ Below (g + 1) wr w' ∧ g + 1 ≤ w'.heap.size) (fun i _ _ => 127 - (intOf i).toNat)
          case atStart => exact ⟨33, rfl, Nat.le_refl _, by omega, World.ownsRow_nil _ _ _ _, Below.refl _ _, hgw⟩
          case round =>
            obtain ⟨m, rfl, hm0, hm1, hown, hbr, hgr⟩ := hrel
            obtain ⟨cs, hc, hmk⟩ := hcs.out
            rw [← hbr.block g (Nat.lt_succ_self g)] at hc
            by_cases hml : m ≤ 126
            · have hk1 := keyB_is (i := m - 33) (by omega)
              rw [show 33 + (m - 33) = m by omega] at hk1
              have x0 := mark_cell hc hmk (keyB (m - 33))
              rw [hk1.1] at x0
              have hsu := Lib.hid (usedL_succ f (m - 33))
              have hln := usedL_len f (m - 33)
              have i0' : (0 : Int) ≤ m := by omega
              have i1' : (m : Int) ≤ 126 := by omega
              have i2' : (m : Int) < 256 := by omega
              have HK := Lib.hid hk1.1
              generalize keyB (m - 33) = kb at x0 hsu HK
              generalize usedL f (m - 33) = xs at hown hsu hln
              obtain ⟨L, hL⟩ : ∃ L, xs.length = L := ⟨_, rfl⟩
              rw [hL] at hown hln
              have HL := Lib.hid hL
              clear hL hc hmk hk1
              cases hfk : f kb
              · rw [hfk] at x0 hsu
                have hs2 := hsu.out
                rw [if_neg (by simp), List.append_nil] at hs2
                have HS := Lib.hid hs2
                clear hs2 hsu hfk
                go_wp2
                go_roundw
                case rel => exact ⟨m + 1, by go_num, by omega, by omega, by rw [show m + 1 - 33 = m - 33 + 1 by omega, HS.out, HL.out]; exact hown, hbr, hgr⟩
                case measure => simp [intOf]; omega
              · rw [hfk] at x0 hsu
                have hs2 := hsu.out
                rw [if_pos rfl] at hs2
                have HS := Lib.hid hs2
                clear hs2 hsu hfk
                go_wp2_with (at_builtin; refine wpList_append_own _ rfl _ _ _ rfl (g + 1) 5 i0 (.int .u8 0) 1 1 Try.underlying47 hi hz0 hz1 hz2 rfl (by decide) _ L (u8s xs) rfl (hown.alloc _) ⟨wr.heap.size, 0, none⟩ 1 1 [.int .u8 m] rfl rfl (cell_one_new _ _ _) ?c2 ?c3 ?c4 ?c5 ?_)
                case c2 => intro u hu; rw [List.mem_singleton] at hu; subst hu; rfl
                case c3 => unfold maxLen; omega
                case c4 => omega
                case c5 => simp; omega
                intro v' w5 hown5 hg5 _
                have hb5 := (hbr.alloc hgr (Obj.cells #[.int .u8 m] 5)).grown hg5 (by simp; omega) (fun j hj => by have := hown.lt j hj; omega)
                have hg6 := hb5.size
                clear hbr hown hg5
                go_wp2
                go_roundw
                case rel => exact ⟨m + 1, by go_num, by omega, by omega, by rw [show m + 1 - 33 = m - 33 + 1 by omega, HS.out, List.length_append, List.length_singleton, HL.out, u8s_append, show u8s [kb] = [.int .u8 m] by simp [u8s, HK.out]]; exact hown5, hb5, by omega⟩
                case measure => simp [intOf]; omega
            · have e1 : m - 33 = 94 := by omega
              rw [e1] at hown
              go_wp2
              go_ret
              rw [HF.out]
              exact ⟨_, rfl, own_base hown (by rw [HG.out]; omega), by rw [HG.out]; exact hbw.trans (hbr.mono (Nat.le_succ g))⟩

end Go.Proofs.Ytmbccolkgephgaa.Aut

set_option linter.unusedVariables false
set_option linter.unusedSimpArgs false
set_option maxRecDepth 100000
namespace Go.Proofs.Ytmbccolkgephgaa.Aut
open Go Go.RowKit Go.Proofs.Ytmbccolkgephgaa.Kit Go.Proofs.Ytmbccolkgephgaa.Utf Go.Proofs.Ytmbccolkgephgaa.Rom

theorem info_st : (Try.prog.info? 86).map (fun i => (i.zero, i.size, i.bytes)) = some (some (.agg #[.int .i64 0, .string { data := #[] }, .string { data := #[] }]), 3, 40) := by kernel_rfl
/-- How many states there are at most. -/
def lenS (v : Value) : Nat := match v with
  | .slice _ n _ => n
  | _ => 0
theorem lenS_mk (a : Option Addr) (n cap : Nat) : lenS (.slice a n cap) = n := rfl
/-- What holds ahead of each layer. -/
def Layer (rs : List Rule) (s : By) (ol ll : List Sd) (d : Nat) : Prop :=
  Lay rs s ol d ∧ (∀ x, x ∈ ll ↔ x ∈ ol ∧ x.w.length = d) ∧ (ll ≠ [] → d < ol.length) ∧ ll.Pairwise (fun a b => ¬ Same2 a b)
def TyPost (rs : List Rule) (s : ByteArray) (w : World) (e : Ending) (w' : World) : Prop := ∃ k ok, e = .returned (.tuple #[.string (ba k), .bool ok]) ∧ TypeIs rs (bs s) k ok ∧ Below w.heap.size w w'
theorem layer0 (rs : List Rule) (s : By) : Layer rs s [sd0] [sd0] 0 :=
  ⟨lay0 rs s, fun x => ⟨fun h => ⟨h, by rw [List.mem_singleton] at h; subst h; rfl⟩, fun h => h.1⟩, fun _ => by simp, List.pairwise_singleton ..⟩

theorem own_shape {w : World} {base : Nat} {e : TypeId} {size : Nat} {v : Value} {n : Nat} {xs : List Value} (h : w.ownsRow base e size v n xs) : ∃ ad cap, v = .slice ad n cap ∧ n ≤ cap ∧ cap ≤ maxLen := by
  rcases h.2 with ⟨rfl, rfl⟩ | ⟨g, cap, cur, rfl, _, _, h1, h2, _⟩
  · exact ⟨none, 0, rfl, Nat.le_refl _, Nat.zero_le _⟩
  · exact ⟨_, _, rfl, h1, h2⟩
theorem ext_mid (s : ByteArray) (i n : Nat) : bs (s.extract i (i + n)) = ((bs s).drop i).take n := by
  unfold bs
  rw [ByteArray.data_extract, Array.toList_extract, List.extract_eq_take_drop, show i + n - i = n by omega]
theorem ext_pre (s : ByteArray) (i : Nat) (o : By) : ((s.extract i (i + (ba o).size)).toList == (ba o).toList) = decide (o <+: (bs s).drop i) := by
  rw [Lib.toList_data, Lib.toList_data, Bool.eq_iff_iff, beq_iff_eq, decide_eq_true_eq]
  show bs (s.extract i (i + (ba o).size)) = bs (ba o) ↔ _
  rw [ext_mid, bs_ba, ba_size, List.prefix_iff_eq_take]
  exact ⟨fun h => h.symm, fun h => h.symm⟩
theorem lt_by : ∀ (x y : By), Op.bytesLess x y = decide (x < y)
  | [], [] => by simp [Op.bytesLess]
  | _ :: _, [] => by simp [Op.bytesLess]
  | [], _ :: _ => by simp [Op.bytesLess]
  | a :: x, b :: y => by
    rw [Op.bytesLess, lt_by x y]
    simp only [List.cons_lt_cons_iff]
    by_cases h1 : a < b <;> by_cases h2 : a = b <;> by_cases h3 : x < y <;> simp [h1, h2, h3]
theorem less_ba (a b : By) : Op.bytesLess (ba a).toList (ba b).toList = decide (a < b) := by
  rw [Lib.toList_data, Lib.toList_data]
  exact lt_by a b
theorem conv_key {W : World} {g k cap : Nat} {c : UInt8} (h : W.cell? ⟨g, k, none⟩ = some (.int .u8 c.toNat)) :
    (convert 47 9 (.slice (some ⟨g, k, none⟩) 1 cap)).run Try.prog W = .ok (.string (ba [c])) W := by
  rw [run_convert_bytes_string W _ _ 5 _ _ _ Try.underlying47 Try.underlying5 Try.underlying9]
  rw [run_bytesToString W ⟨g, k, none⟩ 1 cap [(c.toNat : Int)]]
  · congr 2
    apply ba_ext
    simp [ba]
  · have hx := run_loadCells_list (P := Try.prog) (w := W) ⟨g, k, none⟩ [.int .u8 c.toNat] (fun j u hu => by
      cases j with
      | zero => rw [List.getElem?_cons_zero] at hu; cases hu; rw [Addr.add_lit]; exact h
      | succ j => simp at hu)
    exact hx

theorem own_lt_block {w : World} {p : Addr} {v : Value} (h : w.cell? p = some v) : p.block < w.heap.size := by
  unfold World.cell? at h
  cases hh : w.heap[p.block]? with
  | none => simp [hh] at h
  | some o => exact (Array.getElem?_eq_some_iff.1 hh).1
theorem own_put3 {w : World} {base : Nat} {e : TypeId} {g n cap i : Nat} {l : List Sd} (h : w.ownsRow base e 3 (.slice (some ⟨g, 0, none⟩) n cap) n (sc l)) (hi : i < l.length) (x : Sd) :
    (((w.setCell ⟨g, i * 3, none⟩ (.int .i64 x.n)).setCell ⟨g, i * 3 + 1, none⟩ (.string (ba x.p))).setCell ⟨g, i * 3 + 2, none⟩ (.string (ba x.w))).ownsRow base e 3 (.slice (some ⟨g, 0, none⟩) n cap) n (sc (l.set i x)) := by
  have := ((((h.stored (i * 3) (.int .i64 x.n)).1.stored (i * 3 + 1) (.string (ba x.p))).1.stored (i * 3 + 2) (.string (ba x.w))).1)
  rw [sc_set x hi] at this
  exact this
theorem own_place {w : World} {base : Nat} {e : TypeId} {size : Nat} {g n cap : Nat} {xs : List Value} (h : w.ownsRow base e size (.slice (some ⟨g, 0, none⟩) n cap) n xs) : base ≤ g := by
  rcases h.2 with ⟨h', _⟩ | ⟨g', cap', cur, h', hb, _⟩
  · cases h'
  · cases h'; exact hb

/-- append(old, next...), both of one's own. -/
theorem run_append_st (w : World) (base : Nat) (v : Value) (n : Nat) (xs : List Value) (hown : w.ownsRow base 86 3 v n xs) (b2 : Nat) (y : Value) (m : Nat) (l : List Sd) (hy : w.ownsRow b2 86 3 y m (sc l)) (h63 : n + m ≤ 1000000000) (hbase : base ≤ w.heap.size) (ty : TypeId) :
    ∃ v' w', (Builtin.append_ #[87, 87] ty #[v, y]).run Try.prog w = .ok v' w' ∧ w'.ownsRow base 86 3 v' (n + m) (xs ++ sc l) ∧ w.grownBy w' v.ownBlock := by
  obtain ⟨i0, hi0, hz0, hz1, hz2⟩ := info_parts info_st
  have h64 : n + m ≤ maxLen := by unfold maxLen; omega
  have hm := (rows_of_own hy).2
  rcases hy.2 with ⟨rfl, h0⟩ | ⟨g, cap, cur, rfl, hb, hg, hnc, hcm, hcs, htake⟩
  · subst h0
    have e : l = [] := List.eq_nil_of_length_eq_zero hm.symm
    subst e
    exact ⟨v, w, run_append_owned_none (P := Try.prog) w base _ _ _ i0 3 Try.underlying87 hi0 v n xs hown, by simpa [sc_nil] using hown, World.grownBy.refl _ _⟩
  · obtain ⟨v', w', hr, h2, h3, _⟩ := run_append_own_at (P := Try.prog) w base 87 ty 86 i0 _ 3 40 Try.underlying87 hi0 hz0 hz1 hz2 rfl (by omega) v n xs hown ⟨g, 0, none⟩ m cap (sc l) (by rw [sc_len, hm]) (fun j u hu => hy.cells rfl j u hu) (sc_oneCell l) h64 (by omega) hbase
    exact ⟨v', w', hr, h2, h3⟩
theorem wp_append_st {ops : Array Oper} {rest : List Oper} {o : Oper} {a : Act} {Q : Exit → Act → World → Prop} (hgd : o.guard = none) (s x : Operand)
    (ho : o.op = .call { callee := .builtin .append, args := #[s, x], argTypes := #[87, 87] })
    (w : World) (base : Nat) (v : Value) (n : Nat) (xs : List Value) (hs : a.eval s = v) (hown : w.ownsRow base 86 3 v n xs)
    (b2 : Nat) (y : Value) (m : Nat) (l : List Sd) (hx : a.eval x = y) (hy : w.ownsRow b2 86 3 y m (sc l)) (h63 : n + m ≤ 1000000000) (hbase : base ≤ w.heap.size)
    (h : ∀ v' w', w'.ownsRow base 86 3 v' (n + m) (xs ++ sc l) → w.grownBy w' v.ownBlock → wpList Try.prog ops Q rest (a.put o.dst v') w') :
    wpList Try.prog ops Q (o :: rest) a w := by
  refine wpList_plain hgd fun K hK => ?_
  obtain ⟨v', w', hr, h2, h3⟩ := run_append_st w base v n xs hown b2 y m l hy h63 hbase o.type
  unfold Oper.wp execOp
  simp only [ho, resolve, invoke, builtin, Sem.run_bind, Sem.run_pure, Result.andThen_ok, List.map_toArray, List.map_cons, List.map_nil, hs, hx, hr]
  exact hK _ _ (h v' w' h2 h3)

set_option maxHeartbeats 8000000 in
theorem rtype_any (v : Value) (rs : List Rule) (s : ByteArray) (w : World) (hR : RowR w v rs) (hok : okL rs = true) (hsh : ∀ r ∈ rs, Short r) (h500 : rs.length ≤ 500) (hs : s.size ≤ 400) :
    Calls Try.prog 27 #[v, .string s] w (TyPost rs s w) := by
  have HCN := Lib.hid (fun W => rcount_any s W (by omega))
  obtain ⟨C, hC⟩ : ∃ C : Int, count (bs s) = C := ⟨_, rfl⟩
  rw [hC] at HCN
  have HC := Lib.hid hC
  by_cases hc0 : C < 0
  · clear hC
    go_enter Try.func27, Try.ntmps27
    go_wp2_with (go_at_call 25; (with_reducible refine (HCN.out _).mono ?_); rintro e w1 ⟨rfl, hb1⟩)
    go_ret2
    exact ⟨[], false, rfl, .inl ⟨.inl (by rw [HC.out]; exact hc0), rfl, rfl⟩, hb1⟩
  by_cases hc1 : 64 < C
  · clear hC
    go_enter Try.func27, Try.ntmps27
    go_wp2_with (go_at_call 25; (with_reducible refine (HCN.out _).mono ?_); rintro e w1 ⟨rfl, hb1⟩)
    go_ret2
    exact ⟨[], false, rfl, .inl ⟨.inr (by rw [HC.out]; exact hc1), rfl, rfl⟩, hb1⟩
  have hc0' : 0 ≤ C := by omega
  have hc1' : C ≤ 64 := by omega
  have HT : Hid (∀ k ok, Least rs (bs s) k ok → TypeIs rs (bs s) k ok) := Lib.hid fun k ok h => .inr ⟨by rw [HC.out]; exact ⟨hc0', hc1'⟩, h⟩
  clear HC hC hc0 hc1
  obtain ⟨i0, hi, hz0, hz1, hz2⟩ := info_parts info_st
  have hU := used_keys rs (bs s)
  have hul := usedL_len (fun c => (bs s).contains c || inKeys rs c) 94
  have HUS : Hid (∀ W, Below w.heap.size w W → Calls Try.prog 45 #[v, .string s] W fun e w' => ∃ v', e = .returned v' ∧ w'.ownsRow W.heap.size 5 1 v' (usedL (fun c => (bs s).contains c || inKeys rs c) 94).length (u8s (usedL (fun c => (bs s).contains c || inKeys rs c) 94)) ∧ Below W.heap.size W w') := Lib.hid fun W hW => used_any v rs s W (hR.later hW (Nat.le_refl _)) hsh (by omega)
  generalize usedL (fun c => (bs s).contains c || inKeys rs c) 94 = U at hU hul HUS
  have HST : Hid (∀ (x : Sd) (c : UInt8), Good rs (bs s) x → isKb c = true → ∃ o q, Feeds rs x.p [c] o q ∧ o.length ≤ 80 ∧ q.length ≤ 5 ∧ Hid (∀ W, Below w.heap.size w W → Calls Try.prog 22 #[v, .string (ba x.p), .int .u8 c.toNat] W fun e w' => e = .returned (.tuple #[.string (ba o), .string (ba q)]) ∧ Below W.heap.size W w')) := Lib.hid fun x c hg hc => by
    obtain ⟨g1, g2⟩ := hg.short hok
    have hf := fd_spec hok x.p [c]
    have hl := hf.len hok
    rw [List.length_singleton] at hl
    refine ⟨_, _, hf, by omega, by omega, Lib.hid fun W hW => ?_⟩
    have h := rstep_any v rs (ba x.p) c W (hR.later hW (Nat.le_refl _)) hok hsh (by rw [ba_size]; omega)
    rw [bs_ba, keysOf_id g2, keysOf_id (AllK.one hc)] at h
    exact h
  have hM : ((bs s).length + 1) * (1 + 4 * rs.length) ≤ 802401 := by
    rw [bs_len]
    exact Nat.mul_le_mul (show s.size + 1 ≤ 401 by omega) (show 1 + 4 * rs.length ≤ 2001 by omega)
  have HF : Hid (∀ l : List Sd, (∀ x ∈ l, Good rs (bs s) x) → l.Pairwise (fun a b => ¬ Same2 a b) → l.length ≤ 802401) := Lib.hid fun l h1 h2 => Nat.le_trans (few_of hok h1 h2) hM
  have HOK := Lib.hid hok
  have HU := Lib.hid hU
  have HWH := Lib.hid (fun v l n p k W (h1 : RowS W v l) h2 => where_any v l n p k W h1 h2)
  have HW0 : Hid (∀ (v : Value) (l : List Sd) W, RowS W v l → l.length ≤ 1000000000 → Calls Try.prog 46 #[v, .agg #[.int .i64 s.size, .string { data := #[] }, .string { data := #[] }]] W (WherePost l s.size [] W)) := Lib.hid fun v l W h1 h2 => where_any v l s.size [] [] W h1 h2
  clear hR hok hsh h500 hU hM
  go_enter Try.func27, Try.ntmps27
  go_wp2_with (first
    | (go_at_call 25; (with_reducible refine (HCN.out _).mono ?_); rintro e w1 ⟨rfl, hb1⟩)
    | (go_at_call 45; (with_reducible refine (HUS.out _ hb1).mono ?_); rintro e w2 ⟨v2, rfl, hu2, hb2⟩))
  have hbw2 := hb1.trans (hb2.mono hb1.size)
  have hu3 : w2.ownsRow w.heap.size 5 1 v2 U.length (u8s U) := own_base hu2 hb1.size
  obtain ⟨adu, capu, rfl⟩ : ∃ ad cap, v2 = .slice ad U.length cap := by
    rcases hu3.2 with ⟨rfl, h⟩ | ⟨g, cap, cur, rfl, _⟩
    · exact ⟨none, 0, by rw [h]⟩
    · exact ⟨_, _, rfl⟩
  have HUR := Lib.hid hu3
  clear hu2 hu3 hb1 hb2 HCN HUS
  have HO0 := Lib.hid (World.ownsRow_lit (e := 86) (size := 3) (base := w2.heap.size) w2 #[.int .i64 0, .string { data := #[] }, .string { data := #[] }] 1 (Nat.le_refl _) (by simp [maxLen]) rfl)
  have hb0 := (Below.refl w2.heap.size w2).alloc (Nat.le_refl _) (Obj.cells #[.int .i64 0, .string { data := #[] }, .string { data := #[] }] 86)
  go_loopw [8, 9] (fun vo vl wr => ∃ (ol ll : List Sd) (d : Nat), wr.ownsRow w2.heap.size 86 3 vo ol.length (sc ol) ∧ RowS wr vl ll ∧ Hid (Layer rs (bs s) ol ll d) ∧ Below w2.heap.size w2 wr) (fun vo vl _ => 2 * (802401 - lenS vo) + min (lenS vl) 1)
  case atStart => exact ⟨[sd0], [sd0], 0, HO0.out, (rows_of_own (l := [sd0]) HO0.out).1, Lib.hid (layer0 rs (bs s)), hb0⟩
  case round =>
    obtain ⟨ol, ll, d, hown, hll, hlay, hbr⟩ := hrel
    have hbwr := hbw2.trans (hbr.mono hbw2.size)
    obtain ⟨ado, capo, rfl⟩ : ∃ ad cap, u8 = .slice ad ol.length cap := by
      rcases hown.2 with ⟨rfl, h⟩ | ⟨g, cap, cur, rfl, _⟩
      · exact ⟨none, 0, by rw [h]⟩
      · exact ⟨_, _, rfl⟩
    have HOW := Lib.hid hown
    have HLL := Lib.hid hll
    obtain ⟨adl, capl, rfl, hll⟩ := hll
    have hol := HF.out ol hlay.out.1.good hlay.out.1.dist
    by_cases hle : ll = []
    · subst hle
      have hres := Lib.hid (hlay.out.1.none HOK.out (fun x hx e => by
        have := (hlay.out.2.1 x).2 ⟨hx, e⟩
        cases this))
      clear hown
      go_wp2
      go_ret2
      exact ⟨[], false, rfl, HT.out _ _ hres.out, hbwr⟩
    have hlp : 0 < ll.length := List.length_pos_iff.2 hle
    have hlp' : (0 : Int) < ll.length := by omega
    have hlm : ll.length ≤ 802401 := HF.out ll (fun x hx => hlay.out.1.good x ((hlay.out.2.1 x).1 hx).1) hlay.out.2.2.2
    have hdm := hlay.out.2.2.1 hle
    obtain ⟨bl, rfl, hbl, hlx⟩ := hll.resolve_left hle
    have HLC : Hid (∀ W, Below wr.heap.size wr W → ∀ i x, ll[i]? = some x → W.cell? ⟨bl, i * 3, none⟩ = some (.int .i64 x.n) ∧ W.cell? ⟨bl, i * 3 + 1, none⟩ = some (.string (ba x.p)) ∧ W.cell? ⟨bl, i * 3 + 2, none⟩ = some (.string (ba x.w))) := Lib.hid fun W hW i x hx => by
      rw [hW.cell (p := ⟨bl, _, none⟩) hbl, hW.cell (p := ⟨bl, _, none⟩) hbl, hW.cell (p := ⟨bl, _, none⟩) hbl]
      exact hlx i x hx
    clear hlx
    clear hown
    go_wp2_with (go_at_call 46; (with_reducible refine (HW0.out _ _ _ HLL.out (by omega)).mono ?_); rintro e w3 ⟨hb3, ⟨rfl, hno⟩ | ⟨i, y, rfl, hil, hyi, hyf⟩⟩; rotate_left; (have y2 := (HLC.out w3 hb3 i y hyi.out).2.2); (have i0 : (0 : Int) ≤ i := by omega); (have i1 : (i : Int) < ll.length := by omega); rotate_left)
    · have hnf : Hid (∀ x ∈ ll, ¬ (x.n = (bs s).length ∧ x.p = [])) := Lib.hid (by rw [bs_len]; exact hno.out)
      have hb3w := hbwr.trans (hb3.mono hbwr.size)
      have HL3 := Lib.hid (HLL.out.later hb3 (Nat.le_refl _))
      have HO3 := Lib.hid (own_later HOW.out hb3)
      have hbr3 := hbr.trans (hb3.mono hbr.size)
      have HU3 := Lib.hid (own_later HUR.out hbr3)
      clear hno HLL HOW
      go_wp2
      go_loopw [11, 12] (fun vn i wr2 => ∃ (j : Nat) (nl : List Sd), i = .int .i64 j ∧ j ≤ ll.length ∧ wr2.ownsRow w3.heap.size 86 3 vn nl.length (sc nl) ∧ Hid (Nx rs (bs s) ol d (Done ll U j) nl) ∧ Below w3.heap.size w3 wr2) (fun _ i _ => ll.length - (intOf i).toNat)
      case atStart => exact ⟨0, [], rfl, Nat.zero_le _, World.ownsRow_nil _ _ _ _, Lib.hid (nx0 _ _ _ _ _ (fun x c h => by have := h.1; simp at this)), Below.refl _ _⟩
      case round =>
        obtain ⟨j, nl, rfl, hj, hown, hnx, hb4⟩ := hrel
        by_cases hjl : j < ll.length
        · have hji := Lib.hid (List.getElem?_eq_getElem hjl)
          generalize ll[j] = x at hji
          have j0 : (0 : Int) ≤ j := by omega
          have j1 : (j : Int) < ll.length := by omega
          have hxm := (hlay.out.2.1 x).1 (List.mem_of_getElem? hji.out)
          have HX := Lib.hid (show Good rs (bs s) x ∧ x.w.length = d from ⟨hlay.out.1.good x hxm.1, hxm.2⟩)
          clear hxm
          go_wp2
          go_loopw [11, 13] (fun vn i wr3 => ∃ (k : Nat) (nl : List Sd), i = .int .i64 k ∧ k ≤ U.length ∧ wr3.ownsRow w3.heap.size 86 3 vn nl.length (sc nl) ∧ Hid (Nx rs (bs s) ol d (fun x' c' => Done ll U j x' c' ∨ (x' = x ∧ c' ∈ U.take k)) nl) ∧ Below w3.heap.size w3 wr3) (fun _ i _ => U.length - (intOf i).toNat)
          case atStart => exact ⟨0, nl, rfl, Nat.zero_le _, hown, Lib.hid (hnx.out.mono (fun x' c' h => h.elim id (fun h => by have := h.2; simp at this))), hb4⟩
          case round =>
            clear hown hnx hb4
            obtain ⟨k, nl, rfl, hk, hown, hnx, hb4⟩ := hrel
            by_cases hkl : k < U.length
            · have hck := Lib.hid (List.getElem?_eq_getElem hkl)
              generalize U[k] = c at hck
              obtain ⟨gu, rfl⟩ : ∃ g, adu = some ⟨g, 0, none⟩ := by
                rcases HU3.out.2 with ⟨h, h0⟩ | ⟨g, c', cur, h, _⟩
                · omega
                · cases h; exact ⟨g, rfl⟩
              have hu4 := own_later HU3.out hb4
              have HOU := Lib.hid hu4
              have HUK := Lib.hid (show (u8s U)[k]? = some (.int .u8 c.toNat) by unfold u8s; rw [List.getElem?_map, hck.out]; rfl)
              have HCP := Lib.hid (show U.length ≤ capu by obtain ⟨_, _, e, h1, _⟩ := own_shape hu4; cases e; exact h1)
              have u0 : wr.cell? ⟨gu, k, none⟩ = some (.int .u8 c.toNat) := by
                rw [hu4.cellAt k (by omega)]
                unfold u8s
                rw [List.getElem?_map, hck.out]; rfl
              obtain ⟨x0, x1, x2⟩ := HLC.out wr (hb3.trans (hb4.mono hb3.size)) j x hji.out
              obtain ⟨o, q, hst, ho, hq, HS⟩ := HST.out x c HX.out.1 (HU.out.1 c (List.mem_of_getElem? hck.out))
              have hbw4 := hb3w.trans (hb4.mono hb3w.size)
              have k0 : (0 : Int) ≤ k := by omega
              have k1 : (k : Int) < U.length := by omega
              have HOWN := Lib.hid hown
              have HST2 := Lib.hid hst
              have HXN := Lib.hid (show x.n ≤ s.size by rw [← bs_len]; exact HX.out.1.2.1)
              obtain ⟨xn, xp, xw⟩ := x
              simp only at x0 x1 x2 HS
              clear hu4 hown hst
              go_upto_region 18 with fail
              go_cut [14, 15] (fun s14 s15 wx => s14 = .string (ba o) ∧ s15 = .string (ba q) ∧ Below wr.heap.size wr wx)
              case first =>
                go_region_law (first
                  | (go_simp; go_at_call 22; (with_reducible refine (HS.out _ ?_).mono ?_); (first | exact hbw4 | exact hbw4.drew); rintro e w5 ⟨rfl, hb5⟩; have hb45 : Below wr.heap.size wr w5 := (by first | exact hb5 | exact (Below.refl _ wr).drew.trans hb5)))
                all_goals (go_wp2_with fail; go_meet; exact ⟨rfl, rfl, hb45⟩)
              case rest =>
                obtain ⟨rfl, rfl, hb45⟩ := hcut
                have hb5 := hb4.trans (hb45.mono hb4.size)
                obtain ⟨x0, x1, x2⟩ := HLC.out wc (hb3.trans (hb5.mono hb3.size)) j _ hji.out
                simp only at x0 x1 x2
                have hos := ba_size o
                have g0 : (0 : Int) ≤ xn := by omega
                have g1 : (xn : Int) ≤ s.size := by have := HXN.out; simp only at this; omega
                have g2 : ((ba o).size : Int) ≤ 80 := by omega
                have g3 : (s.size : Int) ≤ 400 := by omega
                by_cases hto : s.size < xn + (ba o).size
                · have k2 : (s.size : Int) < (xn : Int) + (ba o).size := by omega
                  have hnx2 := Lib.hid ((hnx.out.skip HST2.out (by
                    intro hp
                    have := hp.length_le
                    rw [List.length_drop, bs_len] at this
                    simp only at this
                    omega)).mono (done_key hck.out))
                  have HOW5 := Lib.hid (own_later HOWN.out hb45)
                  clear hos hto
                  go_wp2
                  go_roundw
                  case rel => exact ⟨k + 1, nl, by go_num, by omega, HOW5.out, hnx2, hb5⟩
                  case measure => simp [intOf]; omega
                · have k2 : (xn : Int) + (ba o).size ≤ s.size := by omega
                  have hpd := ext_pre s xn o
                  by_cases hpre : o <+: (bs s).drop xn
                  rotate_left
                  · rw [decide_eq_false hpre] at hpd
                    have hnx2 := Lib.hid ((hnx.out.skip HST2.out hpre).mono (done_key hck.out))
                    have HOW5 := Lib.hid (own_later HOWN.out hb45)
                    clear hos hto hpre
                    go_wp2
                    go_roundw
                    case rel => exact ⟨k + 1, nl, by go_num, by omega, HOW5.out, hnx2, hb5⟩
                    case measure => simp [intOf]; omega
                  rw [decide_eq_true hpre] at hpd
                  have HPR := Lib.hid hpre
                  have hxl := HX.out.2
                  simp only at hxl
                  have hsum : ¬ 9223372036854775807 < (ba xw).size + (ba [c]).size := by rw [ba_size, ba_size, hxl]; simp; omega
                  have HXL := Lib.hid hxl
                  have HSZ := Lib.hid hos
                  clear hpre hxl hos hto
                  go_upto_region 21 with fail
                  go_cut [17] (fun s17 wx => ∃ gx, s17 = .pointer (some ⟨gx, 0, none⟩) ∧ Hid (wx.heap[gx]? = some (.cells #[.int .i64 ((xn + o.length : Nat) : Int), .string (ba q), .string (ba (xw ++ [c]))] 86 (0, 0))) ∧ wc.heap.size ≤ gx ∧ Below wc.heap.size wc wx)
                  case first =>
                    have u5 : wc.cell? ⟨gu, k, none⟩ = some (.int .u8 c.toNat) := by rw [(own_later HOU.out hb45).cellAt k (by omega)]; exact HUK.out
                    have hcp := HCP.out
                    have k3 : (k : Int) + 1 ≤ capu := by omega
                    have k4 : (k : Int) ≤ capu := by omega
                    have hcv1 : ∀ cap, (convert 47 9 (.slice (some ⟨gu, k, none⟩) 1 cap)).run Try.prog wc = .ok (.string (ba [c])) wc := fun cap => conv_key u5
                    have hcv2 : ∀ cap, (convert 47 9 (.slice (some ⟨gu, k, none⟩) 1 cap)).run Try.prog wc.drew = .ok (.string (ba [c])) wc.drew := fun cap => conv_key (W := wc.drew) u5
                    have hwm : IntKind.i64.wrap ((k : Int) + 1) = (k : Int) + 1 := by rw [IntKind.wrap_i64]; omega
                    have u6 : (wc.alloc (Obj.cells #[.int .i64 0, .string { data := #[] }, .string { data := #[] }] 86)).cell? ⟨gu, k, none⟩ = some (.int .u8 c.toNat) := by
                      rw [((Below.refl wc.heap.size wc).alloc (Nat.le_refl _) _).cell (p := ⟨gu, k, none⟩) (own_lt_block u5)]; exact u5
                    have hcv3 : ∀ cap, (convert 47 9 (.slice (some ⟨gu, k, none⟩) 1 cap)).run Try.prog (wc.alloc (Obj.cells #[.int .i64 0, .string { data := #[] }, .string { data := #[] }] 86)).drew = .ok (.string (ba [c])) (wc.alloc (Obj.cells #[.int .i64 0, .string { data := #[] }, .string { data := #[] }] 86)).drew := fun cap => conv_key (W := (wc.alloc _).drew) u6
                    have hcv4 : ∀ cap, (convert 47 9 (.slice (some ⟨gu, k, none⟩) 1 cap)).run Try.prog (wc.alloc (Obj.cells #[.int .i64 0, .string { data := #[] }, .string { data := #[] }] 86)) = .ok (.string (ba [c])) (wc.alloc (Obj.cells #[.int .i64 0, .string { data := #[] }, .string { data := #[] }] 86)) := fun cap => conv_key u6
                    have x3 : (wc.alloc (Obj.cells #[.int .i64 0, .string { data := #[] }, .string { data := #[] }] 86)).cell? ⟨bl, j * 3 + 2, none⟩ = some (.string (ba xw)) := by
                      rw [((Below.refl wc.heap.size wc).alloc (Nat.le_refl _) _).cell (p := ⟨bl, j * 3 + 2, none⟩) (own_lt_block x2)]; exact x2
                    have x4 : (wc.alloc (Obj.cells #[.int .i64 0, .string { data := #[] }, .string { data := #[] }] 86)).drew.cell? ⟨bl, j * 3 + 2, none⟩ = some (.string (ba xw)) := x3
                    clear u6
                    go_region
                    all_goals (go_wp2_with fail; go_meet; refine ⟨wc.heap.size, rfl, Lib.hid ?_, Nat.le_refl _, ((Below.refl _ _).alloc (Nat.le_refl _) _).drew⟩)
                    all_goals (rw [ba_app, ← HSZ.out, Int.natCast_add]; exact heap_alloc_new wc _)
                  case rest =>
                    obtain ⟨gx, rfl, hgx, hgl, hb56⟩ := hcut
                    have hb6 := hb5.trans (hb56.mono hb5.size)
                    have hxb := hgx.out
                    have y0 : wc.cell? ⟨gx, 0, none⟩ = some (.int .i64 ((xn + o.length : Nat) : Int)) := by rw [cell_of_row wc _ 0 _ _ _ hxb]; rfl
                    have y1 : wc.cell? ⟨gx, 1, none⟩ = some (.string (ba q)) := by rw [cell_of_row wc _ 1 _ _ _ hxb]; rfl
                    have y2 : wc.cell? ⟨gx, 2, none⟩ = some (.string (ba (xw ++ [c]))) := by rw [cell_of_row wc _ 2 _ _ _ hxb]; rfl
                    have hgx6 : gx < wc.heap.size := (Array.getElem?_eq_some_iff.1 hxb).1
                    have HWO := Lib.hid (HWH.out (.slice ado ol.length capo) ol (xn + o.length) q (xw ++ [c]) wc (rows_of_own (own_later HO3.out hb6)).1 (by omega))
                    have hnlb := HF.out nl hnx.out.good hnx.out.dist
                    have hown6 := own_later (own_later HOWN.out hb45) hb56
                    obtain ⟨adn, capn, rfl, hnc, hcm⟩ := own_shape hown6
                    have HOW6 := Lib.hid hown6
                    have HWN := Lib.hid (fun W (h : RowS W (.slice adn nl.length capn) nl) => HWH.out (.slice adn nl.length capn) nl (xn + o.length) q (xw ++ [c]) W h (by omega))
                    have HOLD := Lib.hid (fun (y : Sd) (hy : y ∈ ol) (h1 : y.n = xn + o.length) (h2 : y.p = q) => (hnx.out.old HST2.out hy h1 h2).mono (done_key hck.out))
                    have hkc := HU.out.1 c (List.mem_of_getElem? hck.out)
                    have HADD := Lib.hid (fun (h1 : ∀ y ∈ ol, ¬ (y.n = xn + o.length ∧ y.p = q)) (h2 : ∀ y ∈ nl, ¬ (y.n = xn + o.length ∧ y.p = q)) => (hnx.out.add HX.out.1 HX.out.2 hkc HST2.out HPR.out h1 h2).mono (done_key hck.out))
                    have HBET := Lib.hid (fun (i : Nat) (y : Sd) (hy : nl[i]? = some y) (h1 : y.n = xn + o.length) (h2 : y.p = q) (h3 : xw ++ [c] < y.w) => (hnx.out.better HX.out.1 HX.out.2 hkc HST2.out HPR.out hy h1 h2 h3).mono (done_key hck.out))
                    have HWOR := Lib.hid (fun (y : Sd) (hy : y ∈ nl) (h1 : y.n = xn + o.length) (h2 : y.p = q) (h3 : ¬ xw ++ [c] < y.w) => (hnx.out.worse HX.out.2 HST2.out hy h1 h2 h3).mono (done_key hck.out))
                    simp only at HADD HBET
                    clear hkc
                    generalize xn + o.length = N at *
                    have HYC : Hid (∀ W, Below wc.heap.size wc W → W.cell? ⟨gx, 0, none⟩ = some (.int .i64 (N : Int)) ∧ W.cell? ⟨gx, 1, none⟩ = some (.string (ba q)) ∧ W.cell? ⟨gx, 2, none⟩ = some (.string (ba (xw ++ [c])))) := Lib.hid fun W hW => by
                      rw [hW.cell (p := ⟨gx, _, none⟩) hgx6, hW.cell (p := ⟨gx, _, none⟩) hgx6, hW.cell (p := ⟨gx, _, none⟩) hgx6]
                      exact ⟨y0, y1, y2⟩
                    clear hxb hown6 HWH
                    go_wp2_with (first
                      | (go_at_call 46; (with_reducible refine HWO.out.mono ?_); rintro e w7 ⟨hb7, hor⟩; clear HWO; (obtain ⟨z0, z1, z2⟩ := HYC.out w7 hb7); rcases hor with ⟨rfl, hno⟩ | ⟨i, y, rfl, hil, hyi, hyf⟩)
                      | (go_at_call 46; (with_reducible refine (HWN.out _ (rows_of_own (own_later HOW6.out hb7)).1).mono ?_); rintro e w8 ⟨hb8, hor⟩; (obtain ⟨t0, t1, t2⟩ := HYC.out w8 (hb7.trans (hb8.mono hb7.size))); rcases hor with ⟨rfl, hno2⟩ | ⟨i, y, rfl, hil, hyi, hyf⟩)
                      | (at_builtin; refine wpList_append_own _ rfl _ _ _ rfl w3.heap.size 86 i0 _ 3 40 Try.underlying87 hi hz0 hz1 hz2 rfl (by omega) _ nl.length (sc nl) rfl ((own_later (own_later HOW6.out hb7) hb8).alloc _) ⟨w8.heap.size, 0, none⟩ 1 1 (sc [⟨N, q, xw ++ [c]⟩]) rfl rfl (World.news_of_block (cs := #[.int .i64 (N : Int), .string (ba q), .string (ba (xw ++ [c]))]) (t := 86) (fr := (0, 0)) (heap_alloc_new w8 _)) (sc_oneCell _) ?c3 ?c4 ?c5 ?_))
                    case c3 => unfold maxLen; omega
                    case c4 => omega
                    case c5 => have := hb6.size; have := hb7.size; have := hb8.size; simp; omega
                    · intro v9 w9 hown9 hg9 _
                      rw [← sc_append] at hown9
                      have hb68 := hb6.trans ((hb7.trans (hb8.mono hb7.size)).mono hb6.size)
                      have hb9 := (hb68.alloc hb68.size _).grown hg9 (by have := hb68.size; simp; omega) (fun jj hjj => (HOW6.out.lt jj hjj).1)
                      have hfin := Lib.hid (HADD.out hno.out hno2.out)
                      clear hg9 hb68
                      go_wp2
                      exact ⟨⟨k + 1, _, by go_num, by omega, by rw [List.length_append]; exact hown9, hfin, hb9⟩, by simp [intOf]; omega⟩
                    · have hown8 := own_later (own_later HOW6.out hb7) hb8
                      obtain ⟨gn, rfl⟩ : ∃ g, adn = some ⟨g, 0, none⟩ := by
                        rcases hown8.2 with ⟨h, h0⟩ | ⟨g, c', cur, h, _⟩
                        · omega
                        · cases h; exact ⟨g, rfl⟩
                      obtain ⟨c0, c1, c2⟩ := sc_at hyi.out
                      have n0 : w8.cell? ⟨gn, i * 3, none⟩ = some (.int .i64 y.n) := by rw [hown8.cellAt _ (by omega)]; exact c0
                      have n1 : w8.cell? ⟨gn, i * 3 + 1, none⟩ = some (.string (ba y.p)) := by rw [hown8.cellAt _ (by omega)]; exact c1
                      have n2 : w8.cell? ⟨gn, i * 3 + 2, none⟩ = some (.string (ba y.w)) := by rw [hown8.cellAt _ (by omega)]; exact c2
                      have f0 := hown8.frozenAt (i * 3)
                      have f1 := hown8.frozenAt (i * 3 + 1)
                      have f2 := hown8.frozenAt (i * 3 + 2)
                      have i0' : (0 : Int) ≤ i := by omega
                      have i1' : (i : Int) < nl.length := by omega
                      have hb68 := hb6.trans ((hb7.trans (hb8.mono hb7.size)).mono hb6.size)
                      have HO8 := Lib.hid hown8
                      have hls := less_ba (xw ++ [c]) y.w
                      clear c0 c1 c2 hown8 y0 y1 y2 z0 z1 z2
                      by_cases hlt : xw ++ [c] < y.w
                      · rw [decide_eq_true hlt] at hls
                        have HB := Lib.hid (HBET.out i y hyi.out hyf.out.1 hyf.out.2 hlt)
                        clear hlt
                        go_wp2
                        go_quiet (fail)
                        go_wp2
                        have hbg := own_place HO8.out
                        exact ⟨⟨k + 1, nl.set i ⟨N, q, xw ++ [c]⟩, by go_num, by omega, by rw [List.length_set]; exact own_put3 (w := w8.drewN nq) HO8.out hil ⟨N, q, xw ++ [c]⟩, HB, (((below_drews hb68 _).setCell (p := ⟨gn, _, none⟩) hbg _).setCell (p := ⟨gn, _, none⟩) hbg _).setCell (p := ⟨gn, _, none⟩) hbg _⟩, by simp [intOf]; omega⟩
                      · rw [decide_eq_false hlt] at hls
                        have HB := Lib.hid (HWOR.out y (List.mem_of_getElem? hyi.out) hyf.out.1 hyf.out.2 hlt)
                        clear hlt
                        go_wp2
                        go_quiet (fail)
                        go_wp2
                        exact ⟨⟨k + 1, nl, by go_num, by omega, HO8.out, HB, below_drews hb68 _⟩, by simp [intOf]; omega⟩
                    · have hfin := Lib.hid (HOLD.out y (List.mem_of_getElem? hyi.out) hyf.out.1 hyf.out.2)
                      exact ⟨⟨k + 1, nl, by go_num, by omega, own_later HOW6.out hb7, hfin, hb6.trans (hb7.mono hb6.size)⟩, by simp [intOf]; omega⟩
            · have hnx2 := Lib.hid (hnx.out.mono (done_more hji.out (by omega)))
              go_wp2
              go_roundw
              case rel => exact ⟨j + 1, nl, by go_num, by omega, hown, hnx2, hb4⟩
              case measure => simp [intOf]; omega
        · have hnext := hlay.out.1.next HOK.out HU.out hlay.out.2.1 hnf.out hnx.out (done_all (by omega))
          obtain ⟨hL1, hL2⟩ := hnext
          have hnl := HF.out nl hnx.out.good hnx.out.dist
          have hol2 := HF.out (ol ++ nl) hL1.good hL1.dist
          rw [List.length_append] at hol2
          have HLN := Lib.hid (show Layer rs (bs s) (ol ++ nl) nl (d + 1) from ⟨hL1, hL2, fun hne => by rw [List.length_append]; have := List.length_pos_iff.2 hne; omega, hnx.out.dist⟩)
          obtain ⟨adn, capn, rfl, _, _⟩ := own_shape hown
          have HO4 := Lib.hid (own_later HO3.out hb4)
          have HOWN := Lib.hid hown
          have hb24 := hbr3.trans (hb4.mono hbr3.size)
          have hs24 := hb24.size
          have hne : (Value.slice adn nl.length capn).ownBlock = none ∨ (Value.slice adn nl.length capn).ownBlock ≠ (Value.slice ado ol.length capo).ownBlock := by
            cases hv : (Value.slice adn nl.length capn).ownBlock with
            | none => exact .inl rfl
            | some g =>
              refine .inr (fun e => ?_)
              have h1 := (hown.lt g hv).1
              have h2 := (HO3.out.lt g e.symm).2
              omega
          have HNE := Lib.hid hne
          clear hL1 hL2 hown hne
          go_wp2_with (at_builtin; refine wp_append_st (by rfl) _ _ (by rfl) _ w2.heap.size _ ol.length (sc ol) (by rfl) HO4.out w3.heap.size _ nl.length nl (by rfl) HOWN.out (by omega) (by omega) ?_; intro v9 w9 hown9 hg9)
          rw [← sc_append] at hown9
          obtain ⟨ad9, cap9, rfl, _, _⟩ := own_shape hown9
          have HR9 := Lib.hid (rows_of_own (HOWN.out.kept hg9 HNE.out)).1
          have hb9 := hb24.grown hg9 (by omega) (fun jj hjj => (HO4.out.lt jj hjj).1)
          clear hg9
          go_wp2
          exact ⟨⟨ol ++ nl, nl, d + 1, by rw [List.length_append]; exact hown9, HR9.out, HLN, hb9⟩, by simp only [lenS_mk]; omega⟩
    · have hyl := hlay.out.1.found HOK.out ((hlay.out.2.1 y).1 (List.mem_of_getElem? hyi.out)).1 ((hlay.out.2.1 y).1 (List.mem_of_getElem? hyi.out)).2 (by rw [bs_len]; exact hyf.out.1) hyf.out.2
      have HY := Lib.hid hyl
      clear hyl
      go_ret2
      exact ⟨y.w, true, rfl, HT.out _ _ HY.out, hbwr.trans (hb3.mono hbwr.size)⟩

end Go.Proofs.Ytmbccolkgephgaa.Aut
