/-
  Strings of ASCII characters, byte by byte; where the commas stand.
-/
import Derived.Test.YteelmjmiankflaaDoorNumQ
set_option linter.unusedVariables false
set_option linter.unusedSimpArgs false
namespace Go.Proofs.YteelmjmiankflaaDoor.Num
open Go Go.RowKit Go.Proofs.YteelmjmiankflaaDoor.Kit Go.Proofs.YteelmjmiankflaaDoor.Utf

theorem enc_ascii {c : Int} (h0 : 0 ≤ c) (h : c < 128) : enc c = [UInt8.ofNat c.toNat] := by
  have : ∀ n : Nat, n < 128 → enc (n : Int) = [UInt8.ofNat n] := by decide
  have h1 := this c.toNat (by omega)
  rw [Int.toNat_of_nonneg h0] at h1
  exact h1
theorem bs_ascii {L : List Int} (h : ∀ c ∈ L, 0 ≤ c ∧ c < 128) : bs (tx L) = L.map fun c => UInt8.ofNat c.toNat := by
  rw [bs_tx]
  induction L with
  | nil => rfl
  | cons c L ih =>
    rw [encs_cons, enc_ascii (h c (by simp)).1 (h c (by simp)).2, ih (fun x hx => h x (by simp [hx]))]; rfl
theorem size_ascii {L : List Int} (h : ∀ c ∈ L, 0 ≤ c ∧ c < 128) : (tx L).size = L.length := by rw [← bs_len, bs_ascii h]; simp
theorem byte_ascii {pre rest : List Int} {c : Int} (h : ∀ x ∈ pre ++ c :: rest, 0 ≤ x ∧ x < 128) (hp : pre.length < (tx (pre ++ c :: rest)).size) : (((tx (pre ++ c :: rest))[pre.length]'hp).toNat : Int) = c := by
  have e1 := bs_get hp
  rw [bs_ascii h] at e1
  simp at e1
  have hc := h c (by simp)
  rw [← e1, toNat_ofNat _ (by omega)]
  omega
theorem cut_ascii {pre rest : List Int} {c : Int} (h : ∀ x ∈ pre ++ c :: rest, 0 ≤ x ∧ x < 128) : (tx (pre ++ c :: rest)).extract pre.length (pre.length + 1) = tx [c] := by
  apply ba_ext
  rw [Lib.extract_data]
  show ((bs (tx (pre ++ c :: rest))).drop pre.length).take (pre.length + 1 - pre.length) = bs (tx [c])
  rw [bs_ascii h, bs_ascii (L := [c]) (fun x hx => by rw [List.mem_singleton.1 hx]; exact h c (by simp))]
  have : pre.length + 1 - pre.length = 1 := by omega
  rw [this, List.map_append, List.drop_append_of_le_length (by simp), List.drop_of_length_le (by simp)]; rfl

/-- How many digits stand behind the last comma when a digits are left. -/
def q3 (a : Nat) : Nat := if a = 0 then 3 else if a % 3 = 0 then 0 else 3 - a % 3
/-- What the law's look at the commas knows ahead of the rest. -/
def Sc (n r : Nat) (first : Bool) (rest : List Int) : Prop :=
  (∃ es : List Nat, rest = commaC es ∧ (∀ d ∈ es, d ≤ 9) ∧ es.length ≤ n ∧ (first = true → r = n - es.length ∧ r ≤ q3 es.length) ∧ (first = false → r = q3 es.length)) ∨
  (∃ es : List Nat, rest = 44 :: commaC es ∧ (∀ d ∈ es, d ≤ 9) ∧ 0 < es.length ∧ es.length ≤ n ∧ es.length % 3 = 0 ∧ 1 ≤ r ∧ r ≤ 3 ∧ (first = false → r = 3))
theorem comma_cons (d : Nat) (es : List Nat) : commaC (d :: es) = (48 + (d : Int)) :: ((if 0 < es.length ∧ es.length % 3 = 0 then [44] else []) ++ commaC es) := rfl
theorem sc_start (ds : List Nat) (h : ∀ d ∈ ds, d ≤ 9) : Sc ds.length 0 true (commaC ds) :=
  .inl ⟨ds, rfl, h, Nat.le_refl _, fun _ => ⟨by omega, Nat.zero_le _⟩, fun h => by cases h⟩
theorem sc_step {n r : Nat} {first : Bool} {c : Int} {rest : List Int} (h : Sc n r first (c :: rest)) :
    (c ≠ 44 ∧ 0 ≤ c ∧ c < 128 ∧ Sc n (r + 1) first rest) ∨ (c = 44 ∧ 1 ≤ r ∧ r ≤ 3 ∧ (first = false → r = 3) ∧ Sc n 0 false rest) := by
  rcases h with ⟨es, he, h9, hn, h1, h2⟩ | ⟨es, he, h9, h0, hn, h3, hr1, hr3, hf⟩
  · left
    match es, he, h9, hn, h1, h2 with
    | [], he, _, _, _, _ => cases he
    | d :: es, he, h9, hn, h1, h2 =>
      rw [comma_cons] at he
      have hc := (List.cons.inj he).1
      have hrest := (List.cons.inj he).2
      have hd := h9 d (by simp)
      simp only [List.length_cons] at hn h1 h2
      refine ⟨by omega, by omega, by omega, ?_⟩
      by_cases hcm : 0 < es.length ∧ es.length % 3 = 0
      · rw [if_pos hcm] at hrest
        refine .inr ⟨es, hrest, fun x hx => h9 x (by simp [hx]), hcm.1, by omega, hcm.2, by omega, ?_, ?_⟩
        · cases first with
          | true => have := (h1 rfl).2; unfold q3 at this; rw [if_neg (by omega), if_neg (by omega)] at this; omega
          | false => have := h2 rfl; unfold q3 at this; rw [if_neg (by omega), if_neg (by omega)] at this; omega
        · intro hf
          have := h2 hf
          unfold q3 at this; rw [if_neg (by omega), if_neg (by omega)] at this; omega
      · rw [if_neg hcm] at hrest
        refine .inl ⟨es, hrest, fun x hx => h9 x (by simp [hx]), by omega, fun hf => ?_, fun hf => ?_⟩
        · obtain ⟨a1, a2⟩ := h1 hf
          refine ⟨by omega, ?_⟩
          unfold q3 at a2 ⊢
          rw [if_neg (by omega)] at a2
          split <;> split at a2 <;> first | omega | (split <;> omega)
        · have a2 := h2 hf
          unfold q3 at a2 ⊢
          rw [if_neg (by omega)] at a2
          split <;> split at a2 <;> first | omega | (split <;> omega)
  · right
    have hc := (List.cons.inj he).1
    have hrest := (List.cons.inj he).2
    refine ⟨hc, hr1, hr3, hf, .inl ⟨es, hrest, h9, hn, (fun h => by cases h), fun _ => ?_⟩⟩
    unfold q3; rw [if_neg (by omega), if_pos h3]
theorem sc_end {n r : Nat} {first : Bool} (hn : 1 ≤ n) (h : Sc n r first []) : 1 ≤ r ∧ r ≤ 3 ∧ (first = false → r = 3) := by
  rcases h with ⟨es, he, h9, hl, h1, h2⟩ | ⟨es, he, _⟩
  · match es, he, hl, h1, h2 with
    | [], he, hl, h1, h2 =>
      cases first with
      | true => have := h1 rfl; simp [q3] at this; exact ⟨by omega, by omega, fun h => by cases h⟩
      | false => have := h2 rfl; simp [q3] at this; exact ⟨by omega, by omega, fun _ => this⟩
    | d :: es, he, _, _, _ => rw [comma_cons] at he; cases he
  · cases he
theorem comma_ascii {ds : List Nat} (h : DS ds) : ∀ c ∈ commaC ds, 0 ≤ c ∧ c < 128 :=
  eachS_mem (P := fun c => 0 ≤ c ∧ c < 128) (fun _ d a h9 _ c hc => by
    rcases List.mem_cons.1 hc with rfl | hc
    · omega
    · split at hc
      · rw [List.mem_singleton.1 hc]; omega
      · simp at hc) ds false h.2.2.1 h.2.1
theorem comma_len {ds : List Nat} (h : DS ds) : (commaC ds).length ≤ 200 := by
  have := eachS_size (out := fun _ d a => (48 + d : Int) :: (if 0 < a ∧ a % 3 = 0 then [44] else [])) (next := fun b _ _ => b) (m := 3) (fun b d a h _ => by
    have h1 := len_asc d h
    have h2 := len_comma d h
    show (encs ((48 + d : Int) :: (if 0 < a ∧ a % 3 = 0 then [44] else []))).length ≤ 3
    split <;> omega) ds false h.2.2.1 h.2.1
  have h20 := h.2.1
  have h3 : (tx (commaC ds)).size = (commaC ds).length := size_ascii (comma_ascii h)
  rw [tx_size] at h3
  unfold commaC at h3 ⊢
  omega
theorem filter_tx {ds : List Nat} (h : DS ds) : tx ((commaC ds).filter (· != 44)) = dg ds := by rw [comma_filter ds h.2.2.1, dg_tx ds h.2.2.1]

end Go.Proofs.YteelmjmiankflaaDoor.Num
