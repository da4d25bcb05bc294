/-
  Contract of numeral.Parse: the number that is written so, if there is one.
-/
import Derived.Test.YteelmjmiankflaaDoorNumI
set_option linter.unusedVariables false
set_option linter.unusedSimpArgs false
namespace Go.Proofs.YteelmjmiankflaaDoor.Num
open Go Go.RowKit Go.Proofs.YteelmjmiankflaaDoor.Kit Go.Proofs.YteelmjmiankflaaDoor.Utf

/-- An element of an array value, each of one cell. -/
theorem run_index_agg {t e : TypeId} {n : Nat} (hu : Tryd.prog.underlying t = some (.array n e)) (hs : ∀ w, (sizeOf e).run Tryd.prog w = .ok 1 w) (ha : ∀ w, (isAgg e).run Tryd.prog w = .ok false w) (cs : Array Value) (x : Int) (k : Nat) (hx : x = k) (hk : k < n) (v : Value) (hg : cs[k]? = some v) :
    ∀ w, (Instr.index t (.agg cs) (.int .i64 x)).run Tryd.prog w = .ok v w := by
  intro w
  subst hx
  have hu' := run_underlying (P := Tryd.prog) hu
  have h1 : (k : Int) < n := by omega
  simp [Instr.index, hu', asIntOf, go_sem, h1, hg, hs, ha]
  intro h; omega

theorem eachS_mem {out : Bool → Nat → Nat → List Int} {next : Bool → Nat → Nat → Bool} {P : Int → Prop} (h : ∀ b d a, d ≤ 9 → a ≤ 19 → ∀ c ∈ out b d a, P c) :
    ∀ (ds : List Nat) (b : Bool), (∀ d ∈ ds, d ≤ 9) → ds.length ≤ 20 → ∀ c ∈ eachS out next b ds, P c := by
  intro ds
  induction ds with
  | nil => intro b _ _ c hc; simp [eachS] at hc
  | cons d ds ih =>
    intro b h9 hl c hc
    simp only [List.length_cons] at hl
    unfold eachS at hc
    rcases List.mem_append.1 hc with hc | hc
    · exact h b d ds.length (h9 d (by simp)) (by omega) c hc
    · exact ih _ (fun x hx => h9 x (by simp [hx])) (by omega) c hc

theorem val_kp : ∀ d, d ≤ 9 → ∀ u, u ≤ 3 → ∀ c ∈ kp d u, validRune c = true := by decide
theorem val_fp : ∀ d, d ≤ 9 → ∀ u, u ≤ 3 → ∀ c ∈ fp d u, validRune c = true := by decide
theorem val_uo {h : Nat → Nat → List Int} (hv : ∀ d, d ≤ 9 → ∀ u, u ≤ 3 → ∀ c ∈ h d u, validRune c = true) : ∀ b d a, d ≤ 9 → a ≤ 19 → ∀ c ∈ uo h b d a, validRune c = true := by
  intro b d a h9 ha c hc
  unfold uo at hc
  rcases List.mem_append.1 hc with hc | hc
  · split at hc
    · simp at hc
    · exact hv d h9 (a % 4) (by omega) c hc
  · split at hc
    · exact val_gu (a / 4) (by omega) c hc
    · simp at hc
theorem val_kanji {ds : List Nat} (hd : DS ds) : ∀ c ∈ kanjiC ds, validRune c = true := by
  intro c hc
  unfold kanjiC at hc
  split at hc
  · rw [List.mem_singleton.1 hc]; decide
  · exact eachS_mem (val_uo val_kp) ds false hd.2.2.1 hd.2.1 c hc
theorem val_form {ds : List Nat} (hd : DS ds) : ∀ c ∈ formC ds, validRune c = true := by
  intro c hc
  unfold formC at hc
  split at hc
  · rw [List.mem_singleton.1 hc]; decide
  · exact eachS_mem (val_uo val_fp) ds false hd.2.2.1 hd.2.1 c hc
theorem val_pos {ds : List Nat} (hd : DS ds) : ∀ c ∈ posC ds, validRune c = true :=
  eachS_mem (fun _ d _ h9 _ => val_pd d (by omega)) ds false hd.2.2.1 hd.2.1
theorem val_W {ds : List Nat} {cs : List Int} (hd : DS ds) (h : Wr ds cs) : ∀ c ∈ cs, validRune c = true := by
  rcases h with h | h | h <;> subst h
  · exact val_kanji hd
  · exact val_pos hd
  · exact val_form hd

/-- s is what one of the three writes for d. -/
def WrS (s d : ByteArray) : Prop := isDec d = true ∧ (wOut kanjiC d = s ∨ wOut posC d = s ∨ wOut formC d = s)
theorem WrS.digits {s d : ByteArray} (h : WrS s d) : ∃ ds cs, DS ds ∧ d = dg ds ∧ Wr ds cs ∧ s = tx cs := by
  obtain ⟨hd, h⟩ := h
  obtain ⟨h1, h2⟩ := (isDec_iff d).1 hd
  refine ⟨ofDg d, ?_⟩
  rw [h2] at h
  rw [wOut_dg _ h1, wOut_dg _ h1, wOut_dg _ h1] at h
  rcases h with h | h | h
  · exact ⟨_, h1, h2, .inl rfl, h.symm⟩
  · exact ⟨_, h1, h2, .inr (.inl rfl), h.symm⟩
  · exact ⟨_, h1, h2, .inr (.inr rfl), h.symm⟩
theorem WrS.unique {s a b : ByteArray} (ha : WrS s a) (hb : WrS s b) : a = b := by
  obtain ⟨da, ca, h1, h2, h3, h4⟩ := ha.digits
  obtain ⟨db, cb, k1, k2, k3, k4⟩ := hb.digits
  have e : ca = cb := tx_inj (val_W h1 h3) (val_W k1 k3) (h4.symm.trans k4)
  subst e
  rw [h2, k2, Num.unique h1 k1 h3 k3]
theorem WrS.read {s d : ByteArray} (h : WrS s d) : rdOut readE s = d ∨ rdOut readU s = d := by
  obtain ⟨ds, cs, h1, h2, h3, h4⟩ := h.digits
  have hc : chars (bs s) = some cs := by rw [h4, bs_tx]; exact chars_encs (val_W h1 h3)
  rcases complete h1 h3 with hr | hr
  · left; rw [rdOut_good hc hr, h2]
  · right; rw [rdOut_good hc hr, h2]

def hitB (f : List Nat → List Int) (g s : ByteArray) : Bool := isDec g && decide (wOut f g = s)
theorem hit_true {f : List Nat → List Int} {g s : ByteArray} (h : hitB f g s = true) : isDec g = true ∧ wOut f g = s := by
  unfold hitB at h; simpa using h

/-- What Parse returns. -/
def Parsed (s : ByteArray) (w : World) (e : Ending) (w' : World) : Prop :=
  ((∃ d, WrS s d ∧ e = .returned (.tuple #[.string d, .bool true])) ∨ ((∀ d, ¬ WrS s d) ∧ e = .returned (.tuple #[.string { data := #[] }, .bool false]))) ∧ Below w.heap.size w w'

theorem parsed_yes {s g : ByteArray} {w w' : World} {f : List Nat → List Int} (hf : f = kanjiC ∨ f = posC ∨ f = formC) (h : hitB f g s = true) (hb : Below w.heap.size w w') : Parsed s w (.returned (.tuple #[.string g, .bool true])) w' := by
  obtain ⟨h1, h2⟩ := hit_true h
  refine ⟨.inl ⟨g, ⟨h1, ?_⟩, rfl⟩, hb⟩
  rcases hf with rfl | rfl | rfl
  · exact .inl h2
  · exact .inr (.inl h2)
  · exact .inr (.inr h2)
def missB (g s : ByteArray) : Prop := hitB kanjiC g s = false ∧ hitB posC g s = false ∧ hitB formC g s = false
theorem miss_no {g s : ByteArray} (h : missB g s) : ¬ WrS s g := by
  rintro ⟨h1, h2⟩
  obtain ⟨a, b, c⟩ := h
  unfold hitB at a b c
  rw [h1] at a b c
  simp at a b c
  rcases h2 with h | h | h
  · exact a h
  · exact b h
  · exact c h
theorem parsed_no {s : ByteArray} {w w' : World} (h0 : missB (rdOut readE s) s) (h1 : missB (rdOut readU s) s) (hb : Below w.heap.size w w') : Parsed s w (.returned (.tuple #[.string { data := #[] }, .bool false])) w' := by
  refine ⟨.inr ⟨fun d hd => ?_, rfl⟩, hb⟩
  rcases hd.read with h | h
  · subst h; exact miss_no h0 hd
  · subst h; exact miss_no h1 hd

theorem strip_len (l : List Nat) : (strip l).length ≤ l.length := by
  unfold strip
  induction l with
  | nil => simp
  | cons a l ih => rw [List.dropWhile_cons]; split <;> simp <;> omega
theorem rdE_size (s : ByteArray) : (rdOut readE s).size ≤ s.size := by
  unfold rdOut
  cases hc : chars (bs s) with
  | none => exact Nat.zero_le _
  | some cs =>
    simp only
    cases hr : readE cs with
    | none => exact Nat.zero_le _
    | some ds =>
      simp only
      obtain ⟨h1, h2⟩ := chars_some hc
      have := encs_length_ge h1
      rw [dg_size, readE_len hr, ← bs_len s, h2]; exact this
theorem rdU_size (s : ByteArray) : (rdOut readU s).size ≤ 20 := by
  unfold rdOut
  cases hc : chars (bs s) with
  | none => exact Nat.zero_le _
  | some cs =>
    simp only
    cases hr : readU cs with
    | none => exact Nat.zero_le _
    | some ds =>
      simp only
      rw [dg_size]
      unfold readU at hr
      cases h : run st0 cs with
      | none => rw [h] at hr; cases hr
      | some st =>
        rw [h] at hr
        simp only [Option.map_some, Option.some.injEq] at hr
        have := strip_len (big (endG st 0).1)
        rw [big_len] at this
        rw [← hr]; exact this

/-- One question: does the writer f write s for g? In the walk's words. -/
theorem hit_cases (f : List Nat → List Int) (g s : ByteArray) : (isDec g = false ∧ hitB f g s = false) ∨ (isDec g = true ∧ ((wOut f g).toList == s.toList) = false ∧ hitB f g s = false) ∨ (isDec g = true ∧ ((wOut f g).toList == s.toList) = true ∧ hitB f g s = true) := by
  cases hd : isDec g with
  | false => left; exact ⟨rfl, by unfold hitB; rw [hd]; rfl⟩
  | true =>
    right
    by_cases e : wOut f g = s
    · right; exact ⟨rfl, by simp [e], by unfold hitB; rw [hd]; simpa using e⟩
    · left
      refine ⟨rfl, ?_, by unfold hitB; rw [hd]; simpa using e⟩
      rw [ByteArray.toList_eq, ByteArray.toList_eq]
      simp only [beq_eq_false_iff_ne]
      exact fun h => e (ba_ext h)

end Go.Proofs.YteelmjmiankflaaDoor.Num
