/-
  Contracts of isAllowed, fresh, accept.
-/
import Derived.Test.YtmbccolkgephgaaRomIB
import Derived.Test.YtmbccolkgephgaaRomK
import Derived.Test.YtmbccolkgephgaaClone
import Derived.Deep.RegionHeld3
import Derived.Deep.DrawnRows
import Derived.Laws.ResultCell
set_option linter.unusedVariables false
set_option linter.unusedSimpArgs false
set_option maxRecDepth 100000
namespace Go.Proofs.Ytmbccolkgephgaa.Rom
open Go Go.RowKit Go.Proofs.Ytmbccolkgephgaa.Kit Go.Proofs.Ytmbccolkgephgaa.Utf

/-- A rule of strings that are short enough for any machine. -/
def Short (r : Rule) : Prop := r.k.size ≤ 1048576 ∧ r.o.size ≤ 1048576 ∧ r.n.size ≤ 1048576

theorem nonempty_str (s : ByteArray) : (!s.toList.isEmpty) = decide (s.size ≠ 0) := by
  rw [Lib.toList_data, ← bs_len]
  show (!(bs s).isEmpty) = _
  generalize bs s = l
  cases l <;> simp
theorem empty_str (s : ByteArray) : s.toList.isEmpty = decide (s.size = 0) := by
  rw [Lib.toList_data, ← bs_len]
  show (bs s).isEmpty = _
  generalize bs s = l
  cases l <;> simp
theorem cat_ne (a b : ByteArray) : (!(a ++ b).toList.isEmpty) = decide (a.size ≠ 0 ∨ b.size ≠ 0) := by
  rw [nonempty_str, ByteArray.size_append]
  congr 1; exact propext ⟨fun h => by omega, fun h => by omega⟩
theorem str_beq (a b : ByteArray) : (a.toList == b.toList) = decide (a = b) := by
  rw [Lib.toList_data, Lib.toList_data, Bool.eq_iff_iff]
  simp only [beq_iff_eq, decide_eq_true_eq]
  exact ⟨fun h => ba_ext h, fun h => by rw [h]⟩

theorem isAllowed_any (r : Rule) (w : World) (hs : Short r) :
    Calls Try.prog 62 #[ragg r] w fun e w' => e = .returned (.bool (okR r)) ∧ Below w.heap.size w w' := by
  obtain ⟨k, o, n⟩ := r
  obtain ⟨s1, s2, s3⟩ := hs
  simp only at s1 s2 s3
  have HA := fun w => areKeys_any k 1 4 w (by omega) (by omega) (by omega) (by omega) (by omega)
  have HB := fun w => areKeys_any n 0 ((k.size : Int) - 1) w (by omega) (by omega) (by omega) (by omega) (by omega)
  have HC := fun w => areKana_any o w (by omega)
  have e : okR ⟨k, o, n⟩ = ((decide ((1 : Int) ≤ k.size ∧ (k.size : Int) ≤ 4) && keysOK (bs k)) && (decide ((0 : Int) ≤ n.size ∧ (n.size : Int) ≤ (k.size : Int) - 1) && keysOK (bs n)) && kanaOK (bs o) && (!(o ++ n).toList.isEmpty)) := by
    rw [cat_ne]
    unfold okR
    have e1 : decide ((1 : Int) ≤ k.size ∧ (k.size : Int) ≤ 4) = decide (1 ≤ k.size ∧ k.size ≤ 4) := by congr 1; exact propext ⟨fun h => by omega, fun h => by omega⟩
    have e2 : decide ((0 : Int) ≤ n.size ∧ (n.size : Int) ≤ (k.size : Int) - 1) = decide (n.size < k.size) := by congr 1; exact propext ⟨fun h => by omega, fun h => by omega⟩
    simp only [e1, e2]
    simp only [Bool.and_assoc]
  rw [e]
  clear e
  generalize (decide ((1 : Int) ≤ k.size ∧ (k.size : Int) ≤ 4) && keysOK (bs k)) = A at HA ⊢
  generalize (decide ((0 : Int) ≤ n.size ∧ (n.size : Int) ≤ (k.size : Int) - 1) && keysOK (bs n)) = B at HB ⊢
  generalize kanaOK (bs o) = C at HC ⊢
  have HA := Lib.hid HA
  have HB := Lib.hid HB
  have HC := Lib.hid HC
  unfold ragg
  simp only
  cases A
  · go_enter Try.func62, Try.ntmps62
    go_wp2_with (go_at_call 67; (with_reducible refine (HA.out _).mono ?_); rintro e w1 ⟨rfl, hw1⟩; obtain rfl := hw1.symm)
    go_ret
    exact ⟨rfl, (Below.refl _ _).alloc (Nat.le_refl _) _⟩
  cases B
  · go_enter Try.func62, Try.ntmps62
    go_wp2_with (go_at_call 67; first | ((with_reducible refine (HA.out _).mono ?_); rintro e w1 ⟨rfl, hw1⟩; obtain rfl := hw1.symm) | ((with_reducible refine (HB.out _).mono ?_); rintro e w1 ⟨rfl, hw1⟩; obtain rfl := hw1.symm))
    go_ret
    exact ⟨rfl, (Below.refl _ _).alloc (Nat.le_refl _) _⟩
  cases C
  · go_enter Try.func62, Try.ntmps62
    go_wp2_with (first
      | (go_at_call 67; first | ((with_reducible refine (HA.out _).mono ?_); rintro e w1 ⟨rfl, hw1⟩; obtain rfl := hw1.symm) | ((with_reducible refine (HB.out _).mono ?_); rintro e w1 ⟨rfl, hw1⟩; obtain rfl := hw1.symm))
      | (go_at_call 68; (with_reducible refine (HC.out _).mono ?_); rintro e w2 ⟨rfl, hb2⟩))
    go_ret
    exact ⟨rfl, ((Below.refl _ _).alloc (Nat.le_refl _) _).trans (hb2.mono (by simp))⟩
  · go_enter Try.func62, Try.ntmps62
    go_wp2_with (first
      | (go_at_call 67; first | ((with_reducible refine (HA.out _).mono ?_); rintro e w1 ⟨rfl, hw1⟩; obtain rfl := hw1.symm) | ((with_reducible refine (HB.out _).mono ?_); rintro e w1 ⟨rfl, hw1⟩; obtain rfl := hw1.symm))
      | (go_at_call 68; (with_reducible refine (HC.out _).mono ?_); rintro e w2 ⟨rfl, hb2⟩; have hc1 := hb2.cell (p := ⟨w.heap.size, 1, none⟩) (by simp); have hc2 := hb2.cell (p := ⟨w.heap.size, 2, none⟩) (by simp)))
    go_ret
    exact ⟨rfl, ((Below.refl _ _).alloc (Nat.le_refl _) _).trans (hb2.mono (by simp))⟩

/-- A rule in a variable, loaded. -/
theorem load_rule {w : World} {g o : Nat} {r : Rule} (h0 : w.cell? ⟨g, o, none⟩ = some (.string r.k)) (h1 : w.cell? ⟨g, o + 1, none⟩ = some (.string r.o)) (h2 : w.cell? ⟨g, o + 2, none⟩ = some (.string r.n)) :
    (loadVar 32 ⟨g, o, none⟩).run Try.prog w = .ok (ragg r) w := by
  unfold ragg
  go_simp
theorem load_rrule {w : World} {g o : Nat} {r : Rule} (h0 : w.cell? ⟨g, o, none⟩ = some (.string r.k)) (h1 : w.cell? ⟨g, o + 1, none⟩ = some (.string r.o)) (h2 : w.cell? ⟨g, o + 2, none⟩ = some (.string r.n)) :
    (loadVar 56 ⟨g, o, none⟩).run Try.prog w = .ok (ragg r) w := by
  unfold ragg
  go_simp
theorem results_cell1 {fn : Func} {p : Tmp} {ty : TypeId} (h : fn.results = #[.cell p ty]) (tmps : Array Value) (P : Program) (w : World) :
    (results fn tmps).run P w = ((asAddr (tmps.getD p undef)).run P w).andThen fun a w₁ => (loadVar ty a).run P w₁ := by
  simp only [results, h]
  simp [Sem.run_bind, Result.andThen]

/-- Three cells written one after the other, read. -/
theorem three_set {w : World} {g : Nat} {x y z : Value} (h0 : (w.cell? ⟨g, 0, none⟩).isSome = true) (h1 : (w.cell? ⟨g, 1, none⟩).isSome = true) (h2 : (w.cell? ⟨g, 2, none⟩).isSome = true) :
    (((w.setCell ⟨g, 0, none⟩ x).setCell ⟨g, 1, none⟩ y).setCell ⟨g, 2, none⟩ z).cell? ⟨g, 0, none⟩ = some x ∧ (((w.setCell ⟨g, 0, none⟩ x).setCell ⟨g, 1, none⟩ y).setCell ⟨g, 2, none⟩ z).cell? ⟨g, 1, none⟩ = some y ∧ (((w.setCell ⟨g, 0, none⟩ x).setCell ⟨g, 1, none⟩ y).setCell ⟨g, 2, none⟩ z).cell? ⟨g, 2, none⟩ = some z := by
  have n01 : (⟨g, 0, none⟩ : Addr) ≠ ⟨g, 1, none⟩ := by simp
  have n02 : (⟨g, 0, none⟩ : Addr) ≠ ⟨g, 2, none⟩ := by simp
  have n12 : (⟨g, 1, none⟩ : Addr) ≠ ⟨g, 2, none⟩ := by simp
  have e1 := World.cell?_setCell_same' w _ x h0
  have e2 : ((w.setCell ⟨g, 0, none⟩ x).cell? ⟨g, 1, none⟩).isSome = true := by rw [World.cell?_setCell_other _ _ _ _ n01]; exact h1
  have e3 := World.cell?_setCell_same' _ _ y e2
  have e4 : (((w.setCell ⟨g, 0, none⟩ x).setCell ⟨g, 1, none⟩ y).cell? ⟨g, 2, none⟩).isSome = true := by rw [World.cell?_setCell_other _ _ _ _ n12, World.cell?_setCell_other _ _ _ _ n02]; exact h2
  have e5 := World.cell?_setCell_same' _ _ z e4
  exact ⟨by rw [World.cell?_setCell_other _ _ _ _ (Ne.symm n02), World.cell?_setCell_other _ _ _ _ (Ne.symm n01)]; exact e1, by rw [World.cell?_setCell_other _ _ _ _ (Ne.symm n12)]; exact e3, e5⟩

/-- What a cell holds, if there is one. -/
def cellOr (w : World) (a : Addr) : Value := (w.cell? a).getD undef
theorem cellOr_of {w : World} {a : Addr} (h : (w.cell? a).isSome = true) : w.cell? a = some (cellOr w a) := by
  unfold cellOr
  cases e : w.cell? a
  · rw [e] at h; cases h
  · rfl
theorem cellOr_later {w w' : World} {a : Addr} {B : Nat} (h : w.cell? a = some (cellOr w a)) (hb : Below B w w') (hB : a.block < B) : w'.cell? a = some (cellOr w' a) := by
  apply cellOr_of
  rw [hb.cell hB, h]; rfl

theorem isSome_of {w : World} {a : Addr} (h : w.cell? a = some (cellOr w a)) : (w.cell? a).isSome = true := by rw [h]; rfl
theorem isSome_set {w : World} {p a : Addr} {v : Value} (h : (w.cell? a).isSome = true) : ((w.setCell p v).cell? a).isSome = true := by
  cases e : w.cell? a with
  | none => rw [e] at h; cases h
  | some x =>
    obtain ⟨v', hv⟩ := RowKit.cell?_setCell_some (p := p) (x := v) e
    rw [hv]; rfl

/-- What accept answers. -/
def accB (ks : List ByteArray) (r : Rule) : Bool := okR r && newK ks r.k && decide (ks.length ≠ 500)
theorem accept_no (b : Nat) (ks : List ByteArray) (r : Rule) (w : World) (hs : Short r) (hset : OwnSet w b ks) (hno : accB ks r = false) :
    Calls Try.prog 47 #[.map (some b), ragg r] w fun e w' => e = .returned (.bool false) ∧ OwnSet w' b ks ∧ w.grownBy w' (some b) := by
  have HA := fun w => isAllowed_any r w hs
  have hb := hset.lt
  have hkm : r.k.size ≤ maxLen := by unfold maxLen; have := hs.1; omega
  have hset1 : ∀ o, OwnSet (w.alloc o) b ks := fun o => hset.alloc o
  have hlk := Lib.hid (fun (W : World) (h : OwnSet W b ks) => h.lookup r.k hkm)
  unfold accB at hno
  unfold ragg at HA ⊢
  cases hA : okR r
  · rw [hA] at HA
    have HA := Lib.hid HA
    clear hno hA
    go_enter Try.func47, Try.ntmps47
    go_wp2_with (go_at_call 62; (with_reducible refine (HA.out _).mono ?_); rintro e w2 ⟨rfl, hb2⟩)
    go_ret
    refine ⟨rfl, (hset1 _).later hb2, (World.grownBy_alloc w _ _).trans (grown_of_below hb2 _)⟩
  rw [hA] at HA hno
  have HA := Lib.hid HA
  obtain ⟨L, hL⟩ : ∃ L : Int, ((ks.length : Nat) : Int) = L := ⟨_, rfl⟩
  have HL := Lib.hid hL
  cases hN : newK ks r.k
  · have HN := Lib.hid hN
    clear hno hA hN hL
    go_enter Try.func47, Try.ntmps47
    go_wp2_with (go_at_call 62; (with_reducible refine (HA.out _).mono ?_); rintro e w2 ⟨rfl, hb2⟩; have hs2 := (hset1 _).later hb2; have hc0 := hb2.cell (p := ⟨w.heap.size, 0, none⟩) (by simp); have hq := hlk.out _ hs2; rw [HN.out] at hq; simp only [Bool.not_false, Bool.not_true] at hq; have hln := fun ty => hs2.len ty; rw [HL.out] at hln)
    go_ret
    exact ⟨rfl, hs2, (World.grownBy_alloc w _ _).trans (grown_of_below hb2 _)⟩
  · have HN := Lib.hid hN
    rw [hN] at hno
    have h5 : (L == 500) = true := by simp at hno; simp; omega
    clear hno hA hN hL
    go_enter Try.func47, Try.ntmps47
    go_wp2_with (go_at_call 62; (with_reducible refine (HA.out _).mono ?_); rintro e w2 ⟨rfl, hb2⟩; have hs2 := (hset1 _).later hb2; have hc0 := hb2.cell (p := ⟨w.heap.size, 0, none⟩) (by simp); have hq := hlk.out _ hs2; rw [HN.out] at hq; simp only [Bool.not_false, Bool.not_true] at hq; have hln := fun ty => hs2.len ty; rw [HL.out] at hln)
    go_ret
    exact ⟨rfl, hs2, (World.grownBy_alloc w _ _).trans (grown_of_below hb2 _)⟩

theorem accept_yes (b : Nat) (ks : List ByteArray) (r : Rule) (w : World) (hs : Short r) (hset : OwnSet w b ks) (hl : ks.length ≤ 1000000) (hyes : accB ks r = true) :
    Calls Try.prog 47 #[.map (some b), ragg r] w fun e w' => e = .returned (.bool true) ∧ OwnSet w' b (ks ++ [r.k]) ∧ w.grownBy w' (some b) := by
  have HA := fun w => isAllowed_any r w hs
  have hb := hset.lt
  have hkm : r.k.size ≤ maxLen := by unfold maxLen; have := hs.1; omega
  have hset1 : ∀ o, OwnSet (w.alloc o) b ks := fun o => hset.alloc o
  have hlk := Lib.hid (fun (W : World) (h : OwnSet W b ks) => h.lookup r.k hkm)
  unfold accB at hyes
  simp only [Bool.and_eq_true, decide_eq_true_eq] at hyes
  obtain ⟨⟨hA, hN⟩, h5⟩ := hyes
  rw [hA] at HA
  unfold ragg at HA ⊢
  have HA := Lib.hid HA
  have HN := Lib.hid hN
  obtain ⟨L, hL⟩ : ∃ L : Int, ((ks.length : Nat) : Int) = L := ⟨_, rfl⟩
  have HL := Lib.hid hL
  have h5b : (L == 500) = false := by simp; omega
  have HP : ∀ W : World, OwnSet W b ks → ∃ D : DataW Unit, W.ownsMap Try.prog 9 (plainElem Try.prog 4) b ks.length D ∧ Hid (∀ W', W'.ownsMap Try.prog 9 (plainElem Try.prog 4) b (ks.length + 1) (D.put (kl r.k) (.lit (.bool true))) → OwnSet W' b (ks ++ [r.k])) := fun W h => by
    obtain ⟨h1, h2, D, hD, h3, h4⟩ := h
    exact ⟨D, hD, Lib.hid fun W' hD' => OwnSet.put hD' (hD.tidy law_str) h1 h2 h3 h4 hN hkm⟩
  have HP := Lib.hid HP
  clear h5 hA hN hL
  go_enter Try.func47, Try.ntmps47
  go_wp2_with (first
    | (go_at_call 62; (with_reducible refine (HA.out _).mono ?_); rintro e w2 ⟨rfl, hb2⟩; have hs2 := (hset1 _).later hb2; have hc0 := hb2.cell (p := ⟨w.heap.size, 0, none⟩) (by simp); have hq := hlk.out _ hs2; rw [HN.out] at hq; simp only [Bool.not_false, Bool.not_true] at hq; have hln := fun ty => hs2.len ty; rw [HL.out] at hln; obtain ⟨D, hD, hput⟩ := HP.out _ hs2)
    | (at_mapUpdate; refine wpList_mapUpdate_own _ rfl _ _ _ 53 rfl 9 4 law_str Try.underlying53 _ b ks.length D rfl hD (by unfold maxLen; omega) _ _ (kl r.k) rfl rfl (Go.WideMaps.keyOf_string_mk Try.underlying9 hkm) _ [] (plainElem_bool Try.underlying4 true) ?_; intro w3 hown3 hg3))
  go_ret
  exact ⟨rfl, hput.out _ hown3, ((World.grownBy_alloc w _ _).trans (grown_of_below hb2 _)).trans hg3⟩

end Go.Proofs.Ytmbccolkgephgaa.Rom
