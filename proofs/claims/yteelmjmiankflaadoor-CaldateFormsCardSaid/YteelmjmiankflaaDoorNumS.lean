/-
  Strings of characters and of digits; which strings are decimal digits; builders beside other work. Of no program.
-/
import Derived.Test.YteelmjmiankflaaDoorNumMath
import Derived.Test.YteelmjmiankflaaDoorUtfS
import Derived.Test.YteelmjmiankflaaDoorKit2
import Derived.Shelf.Strings.BuilderK
set_option linter.unusedVariables false
set_option linter.unusedSimpArgs false
namespace Go.Proofs.YteelmjmiankflaaDoor.Num
open Go Go.RowKit Go.Proofs.YteelmjmiankflaaDoor.Kit Go.Proofs.YteelmjmiankflaaDoor.Utf

/-- The string of characters. -/
def tx (cs : List Int) : ByteArray := ⟨(encs cs).toArray⟩
theorem bs_tx (cs : List Int) : bs (tx cs) = encs cs := by simp [bs, tx]
theorem tx_nil : tx [] = { data := #[] } := rfl
theorem tx_append (a b : List Int) : tx a ++ tx b = tx (a ++ b) := by
  apply ba_ext
  show (tx a ++ tx b).data.toList = encs (a ++ b)
  rw [encs_append]
  simp [tx, ByteArray.data_append]
theorem tx_size (cs : List Int) : (tx cs).size = (encs cs).length := by rw [← bs_len, bs_tx]
theorem tx_cells (cs : List Int) : Lib.strCells (tx cs) = Lib.byteCells (encs cs) := by
  show (tx cs).data.toList.map _ = _
  have : (tx cs).data.toList = encs cs := bs_tx cs
  rw [this]; rfl
theorem tx_inj {a b : List Int} (ha : ∀ c ∈ a, validRune c = true) (hb : ∀ c ∈ b, validRune c = true) (h : tx a = tx b) : a = b := by
  have h1 : encs a = encs b := by rw [← bs_tx, ← bs_tx, h]
  have := chars_encs ha
  rw [h1, chars_encs hb] at this
  exact (Option.some.inj this).symm
theorem tx_eq_iff {a b : List Int} (ha : ∀ c ∈ a, validRune c = true) (hb : ∀ c ∈ b, validRune c = true) : tx a = tx b ↔ a = b := ⟨tx_inj ha hb, fun h => by rw [h]⟩
theorem byteCells_append (a b : List UInt8) : Lib.byteCells (a ++ b) = Lib.byteCells a ++ Lib.byteCells b := by simp [Lib.byteCells]

/-- The string of digits. -/
def dg (ds : List Nat) : ByteArray := ⟨(ds.map fun d => UInt8.ofNat (48 + d)).toArray⟩
theorem bs_dg (ds : List Nat) : bs (dg ds) = ds.map fun d => UInt8.ofNat (48 + d) := by simp [bs, dg]
theorem dg_size (ds : List Nat) : (dg ds).size = ds.length := by rw [← bs_len, bs_dg]; simp
theorem dg_enc (d : Nat) (h : d ≤ 9) : enc (48 + (d : Int)) = [UInt8.ofNat (48 + d)] := by
  have : ∀ d : Nat, d ≤ 9 → enc (48 + (d : Int)) = [UInt8.ofNat (48 + d)] := by decide
  exact this d h
theorem dg_tx (ds : List Nat) (h : ∀ d ∈ ds, d ≤ 9) : dg ds = tx (ascC ds) := by
  apply ba_ext
  show bs (dg ds) = bs (tx (ascC ds))
  rw [bs_dg, bs_tx, ascC_map]
  induction ds with
  | nil => rfl
  | cons d ds ih =>
    rw [List.map_cons, List.map_cons, encs_cons, dg_enc d (h d (by simp)), ih (fun x hx => h x (by simp [hx]))]; rfl

/-- Whether a string is decimal digits, and which. -/
def isDec (s : ByteArray) : Bool := decide (1 ≤ (bs s).length) && decide ((bs s).length ≤ 20) && (decide ((bs s).length = 1) || decide ((bs s).head? ≠ some 48)) && (bs s).all fun b => decide (48 ≤ b.toNat ∧ b.toNat ≤ 57)
def ofDg (s : ByteArray) : List Nat := (bs s).map fun b => b.toNat - 48
theorem ofDg_dg (ds : List Nat) (h : ∀ d ∈ ds, d ≤ 9) : ofDg (dg ds) = ds := by
  unfold ofDg
  rw [bs_dg, List.map_map]
  conv => rhs; rw [← List.map_id ds]
  apply List.map_congr_left
  intro d hd
  have := h d hd
  show (UInt8.ofNat (48 + d)).toNat - 48 = d
  rw [toNat_ofNat _ (by omega)]; omega
theorem isDec_iff (s : ByteArray) : isDec s = true ↔ DS (ofDg s) ∧ s = dg (ofDg s) := by
  unfold isDec DS
  simp only [Bool.and_eq_true, Bool.or_eq_true, decide_eq_true_eq, List.all_eq_true]
  have hlen : (ofDg s).length = (bs s).length := by simp [ofDg]
  constructor
  · rintro ⟨⟨⟨h1, h20⟩, h0⟩, hall⟩
    have es : s = dg (ofDg s) := by
      apply ba_ext
      show bs s = bs (dg (ofDg s))
      rw [bs_dg]
      unfold ofDg
      rw [List.map_map]
      conv => lhs; rw [← List.map_id (bs s)]
      apply List.map_congr_left
      intro b hb
      have := hall b hb
      show b = UInt8.ofNat (48 + (b.toNat - 48))
      rw [show 48 + (b.toNat - 48) = b.toNat by omega]
      simp
    refine ⟨⟨by omega, by omega, ?_, ?_⟩, es⟩
    · intro d hd
      unfold ofDg at hd
      obtain ⟨b, hb, rfl⟩ := List.mem_map.1 hd
      have := hall b hb; omega
    · intro hh
      cases hb : bs s with
      | nil => rw [hb] at h1; simp at h1
      | cons b t =>
        have hbm := hall b (by rw [hb]; simp)
        have e1 : ofDg s = (b.toNat - 48) :: t.map fun b => b.toNat - 48 := by unfold ofDg; rw [hb]; rfl
        rw [e1] at hh ⊢
        simp at hh
        have e2 : b.toNat = 48 := by omega
        have e3 : b = 48 := by apply UInt8.toNat_inj.1; rw [e2]; rfl
        rw [hb] at h0
        rcases h0 with h0 | h0
        · have : t = [] := by cases t with
            | nil => rfl
            | cons => simp at h0
          subst this
          simp [e2]
        · exact absurd (by rw [e3]; rfl) h0
  · rintro ⟨⟨h1, h20, h9, h0⟩, es⟩
    refine ⟨⟨⟨by rw [← hlen]; exact h1, by rw [← hlen]; exact h20⟩, ?_⟩, ?_⟩
    · by_cases hl : (bs s).length = 1
      · exact .inl hl
      · right
        intro hh
        have e1 : (ofDg s).head? = some 0 := by
          unfold ofDg
          rw [List.head?_map, hh]; rfl
        have := h0 e1
        exact hl (by rw [← hlen, this]; rfl)
    · intro b hb
      rw [es, bs_dg] at hb
      obtain ⟨d, hd, rfl⟩ := List.mem_map.1 hb
      have := h9 d hd
      rw [toNat_ofNat _ (by omega)]; omega
theorem isDec_dg {ds : List Nat} (h : DS ds) : isDec (dg ds) = true := by
  rw [isDec_iff, ofDg_dg ds h.2.2.1]; exact ⟨h, rfl⟩

/-! ### What a range over any string meets -/
theorem decode_big {s : ByteArray} {pos : Nat} (hp : pos < s.size) (h : 128 ≤ (s[pos]'hp).toNat) : 128 ≤ (Utf8.decode s pos).1 := by
  have e0 : (bs s).drop pos = (s[pos]'hp) :: (bs s).drop (pos + 1) := by
    rw [List.drop_eq_getElem_cons (by rw [bs_len]; exact hp)]
    rfl
  cases hd : dec1 ((bs s).drop pos) with
  | none => rw [dec_bad hp hd]; decide
  | some p =>
    obtain ⟨c, n⟩ := p
    rw [dec_good hp hd]
    obtain ⟨hv, hn, hl⟩ := dec1_some hd
    have hvv := (valid_iff c).1 hv
    show 128 ≤ c.toNat
    rcases enc_forms c hv with ⟨h1, e⟩ | ⟨h1, _, e⟩ | ⟨h1, _, e⟩ | ⟨h1, _, e⟩
    · rw [hl, e] at e0
      have := List.cons.inj e0
      have h2 := congrArg UInt8.toNat this.1
      rw [toNat_ofNat _ (by omega)] at h2
      omega
    · omega
    · omega
    · omega

/-! ### Builders beside other work -/
theorem builder_kept {T e : TypeId} {B b : Nat} {bs : List Value} {w w' : World} (h : Lib.IsBuilderF T e B b bs w) (hk : ∀ k, B ≤ k → k < w.heap.size → w'.heap[k]? = w.heap[k]?) : Lib.IsBuilderF T e B b bs w' := by
  have one : ∀ p, Lib.BuilderAtF T e B b p bs w → Lib.BuilderAtF T e B b p bs w' := by
    rintro p ⟨hB, v, hb, hown, hne⟩
    refine ⟨hB, v, ?_, ⟨hown.1, ?_⟩, hne⟩
    · rw [hk b hB (Array.getElem?_eq_some_iff.1 hb).1]; exact hb
    · rcases hown.2 with hn | ⟨g, cap, cur, fz, hv, hbg, hg, rest⟩
      · exact .inl hn
      · exact .inr ⟨g, cap, cur, fz, hv, hbg, by rw [hk g hbg (Array.getElem?_eq_some_iff.1 hg).1]; exact hg, rest⟩
  exact h.elim (fun x => .inl (one _ x)) (fun x => .inr (one _ x))

/-- A builder that has just been made. -/
theorem builder_new (T e : TypeId) (w : World) (b : Nat) (hb : b = w.heap.size) : Lib.IsBuilderF T e b b [] (w.alloc (.cells #[.pointer none, .slice none 0 0] T)) := by
  subst hb
  exact .inl ⟨Nat.le_refl _, .slice none 0 0, (by show (w.heap.push _)[w.heap.size]? = _; simp), World.ownsRowF_nil _ _ _ _, by simp [Value.ownBlock]⟩

end Go.Proofs.YteelmjmiankflaaDoor.Num
