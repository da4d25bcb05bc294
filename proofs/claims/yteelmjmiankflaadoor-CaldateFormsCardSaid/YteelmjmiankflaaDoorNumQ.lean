/-
  Different numbers are written differently.
-/
import Derived.Test.YteelmjmiankflaaDoorNumP
set_option linter.unusedVariables false
set_option linter.unusedSimpArgs false
namespace Go.Proofs.YteelmjmiankflaaDoor.Num
open Go Go.RowKit Go.Proofs.YteelmjmiankflaaDoor.Kit Go.Proofs.YteelmjmiankflaaDoor.Utf

theorem apart_tx {a b : List Nat} {ca cb : List Int} (ha : DS a) (hb : DS b) (h : a ≠ b) (h1 : Wr a ca) (h2 : Wr b cb) : ((tx ca).toList == (tx cb).toList) = false :=
  test_f (val_W ha h1) (val_W hb h2) (fun e => h (Num.unique ha hb h1 (e ▸ h2)))

theorem comma_filter (ds : List Nat) (h9 : ∀ d ∈ ds, d ≤ 9) : (commaC ds).filter (· != 44) = ascC ds := by
  unfold commaC ascC
  induction ds with
  | nil => rfl
  | cons d ds ih =>
    unfold eachS
    rw [List.filter_append, ih (fun x hx => h9 x (by simp [hx]))]
    have hd := h9 d (by simp)
    have e : (((48 + (d : Int)) != 44) = true) := by simp; omega
    rw [List.filter_cons, if_pos e]
    split <;> rfl
theorem asc_inj {a b : List Nat} (h : ascC a = ascC b) : a = b := by
  rw [ascC_map, ascC_map] at h
  induction a generalizing b with
  | nil => cases b with
    | nil => rfl
    | cons => simp at h
  | cons x a ih => cases b with
    | nil => simp at h
    | cons y b =>
      simp only [List.map_cons, List.cons.injEq] at h
      rw [ih h.2, show x = y by omega]
theorem comma_inj {a b : List Nat} (ha : DS a) (hb : DS b) (h : commaC a = commaC b) : a = b := by
  have h1 := comma_filter a ha.2.2.1
  rw [h, comma_filter b hb.2.2.1] at h1
  exact (asc_inj h1).symm
theorem val_asc : ∀ d : Nat, d ≤ 9 → ∀ c ∈ [48 + (d : Int), 44], validRune c = true := by decide
theorem val_comma {ds : List Nat} (hd : DS ds) : ∀ c ∈ commaC ds, validRune c = true :=
  eachS_mem (fun _ d a h9 _ c hc => by
    rcases List.mem_cons.1 hc with rfl | hc
    · exact val_asc d h9 _ (by simp)
    · split at hc
      · rw [List.mem_singleton.1 hc]; decide
      · simp at hc) ds false hd.2.2.1 hd.2.1
theorem val_ascC {ds : List Nat} (hd : DS ds) : ∀ c ∈ ascC ds, validRune c = true :=
  eachS_mem (fun _ d a h9 _ c hc => by rw [List.mem_singleton.1 hc]; exact val_asc d h9 _ (by simp)) ds false hd.2.2.1 hd.2.1
theorem apart_comma {a b : List Nat} (ha : DS a) (hb : DS b) (h : a ≠ b) : ((tx (commaC a)).toList == (tx (commaC b)).toList) = false :=
  test_f (val_comma ha) (val_comma hb) (fun e => h (comma_inj ha hb e))
theorem apart_dg {a b : List Nat} (ha : DS a) (hb : DS b) (h : a ≠ b) : ((dg a).toList == (dg b).toList) = false := by
  rw [dg_tx a ha.2.2.1, dg_tx b hb.2.2.1]
  exact test_f (val_ascC ha) (val_ascC hb) (fun e => h (asc_inj e))

end Go.Proofs.YteelmjmiankflaaDoor.Num
