/-
  What the package-level variables of numeral hold when a law begins; contract of numeral.decimal.
-/
import Derived.Test.YteelmjmiankflaaDoorNumS
import Derived.Test.YteelmjmiankflaaDoorShelf
import Derived.Test.YteelmjmiankflaaDoorShelfW
import Derived.Test.YteelmjmiankflaaDoorRows
set_option linter.unusedVariables false
set_option linter.unusedSimpArgs false
namespace Go.Proofs.YteelmjmiankflaaDoor.Num
open Go Go.RowKit Go.Proofs.YteelmjmiankflaaDoor.Kit Go.Proofs.YteelmjmiankflaaDoor.Utf

/-- The tables of package numeral stand in memory. -/
structure Laid (w : World) : Prop where
  size : 5 + 1 ≤ w.heap.size
  pd : ∀ d, d < 10 → w.cell? ⟨4, d, none⟩ = some (.string (tx [pd d]))
  pu : ∀ d, d < 4 → w.cell? ⟨3, d, none⟩ = some (.string (tx (pu d)))
  gu : ∀ d, d < 5 → w.cell? ⟨5, d, none⟩ = some (.string (tx (gu d)))

theorem Laid.below {B : Nat} {w w' : World} (h : Laid w) (hb : Below B w w') (hB : 5 + 1 ≤ B) : Laid w' := by
  have c : ∀ g i, g < 5 + 1 → w'.cell? ⟨g, i, none⟩ = w.cell? ⟨g, i, none⟩ := fun g i hg => hb.cell (p := ⟨g, i, none⟩) (show g < B by omega)
  constructor
  · exact Nat.le_trans h.size hb.size
  all_goals (intro d hd; rw [c _ _ (by decide)])
  · exact h.pd d hd
  · exact h.pu d hd
  · exact h.gu d hd
theorem Laid.next {w w' : World} (h : Laid w) (hb : Below w.heap.size w w') : Laid w' := h.below hb h.size

theorem isDec_len {s : ByteArray} (h : 20 < s.size) : isDec s = false := by
  unfold isDec; rw [bs_len]; simp; omega
theorem isDec_empty {s : ByteArray} (h : s.size = 0) : isDec s = false := by
  unfold isDec; rw [bs_len]; simp [h]
theorem bs_get {s : ByteArray} {i : Nat} (h : i < s.size) : (bs s)[i]? = some (s[i]'h) := by
  rw [List.getElem?_eq_getElem (by rw [bs_len]; exact h)]; rfl
theorem isDec_lead {s : ByteArray} (h0 : 0 < s.size) (h1 : 1 < s.size) (e : (s[0]'h0) = 48) : isDec s = false := by
  unfold isDec
  have : (bs s).head? = some 48 := by rw [List.head?_eq_getElem?, bs_get h0, e]
  rw [this, bs_len]; simp; omega
theorem isDec_byte {s : ByteArray} {i : Nat} (h : i < s.size) (hb : ¬ (48 ≤ (s[i]'h).toNat ∧ (s[i]'h).toNat ≤ 57)) : isDec s = false := by
  unfold isDec
  have : ((bs s).all fun b => decide (48 ≤ b.toNat ∧ b.toNat ≤ 57)) = false := by
    rw [List.all_eq_false]
    exact ⟨s[i]'h, List.mem_of_getElem? (bs_get h), by simpa using hb⟩
  rw [this]; simp
theorem isDec_all {s : ByteArray} (h0 : 0 < s.size) (h20 : s.size ≤ 20) (hl : s.size = 1 ∨ (s[0]'h0) ≠ 48) (hb : ∀ i (h : i < s.size), 48 ≤ (s[i]'h).toNat ∧ (s[i]'h).toNat ≤ 57) : isDec s = true := by
  unfold isDec
  simp only [Bool.and_eq_true, Bool.or_eq_true, decide_eq_true_eq, List.all_eq_true, bs_len]
  refine ⟨⟨⟨h0, h20⟩, ?_⟩, ?_⟩
  · rcases hl with h | h
    · exact .inl h
    · right; rw [List.head?_eq_getElem?, bs_get h0]; simpa using h
  · intro b hbm
    obtain ⟨i, hi, e⟩ := List.getElem_of_mem hbm
    have hi' : i < s.size := by rw [← bs_len]; exact hi
    have := hb i hi'
    rw [← e]; exact this

theorem decimal_any (s : ByteArray) (w : World) (hs : s.size ≤ maxLen) :
    Calls Tryd.prog 65 #[.string s] w fun e w' => e = .returned (.bool (isDec s)) ∧ Below w.heap.size w w' := by
  unfold maxLen at hs
  by_cases h0 : s.size = 0
  · have hv := Lib.hid (isDec_empty h0)
    have e0 : s = { data := #[] } := by
      apply ba_ext
      have : (bs s).length = 0 := by rw [bs_len]; exact h0
      exact List.eq_nil_of_length_eq_zero this
    subst e0
    clear h0
    go_enter Tryd.func65, Tryd.ntmps65
    go_wp2
    go_ret
    exact ⟨by rw [hv.out]; rfl, Below.refl _ _⟩
  · have hne : (s.toList = []) = False := by
      rw [ByteArray.toList_eq]
      simp only [eq_iff_iff, iff_false]
      intro e
      exact h0 (by rw [← bs_len]; show (s.data.toList).length = 0; rw [e]; rfl)
    have hne2 : s.toList.isEmpty = false := by
      simp [hne]
    by_cases h20 : 20 < s.size
    · have hv := Lib.hid (isDec_len h20)
      go_enter Tryd.func65, Tryd.ntmps65
      go_wp2
      go_ret
      exact ⟨by rw [hv.out]; rfl, Below.refl _ _⟩
    · have hp0 : 0 < s.size := by omega
      have hd20 : decide ((20 : Int) < s.size) = false := by simp; omega
      by_cases hlead : ((s[0]'hp0).toNat = 48) ∧ 1 < s.size
      · have hv := Lib.hid (isDec_lead hp0 hlead.2 (by apply UInt8.toNat_inj.1; rw [hlead.1]; rfl))
        have hb0 : (((s[0]'hp0).toNat : Int) == 48) = true := by simp [hlead.1]
        have h1 := hlead.2
        have hd1 : decide ((1 : Int) < s.size) = true := by simp; omega
        clear hlead
        go_enter Tryd.func65, Tryd.ntmps65
        go_wp2
        go_ret
        exact ⟨by rw [hv.out]; rfl, Below.refl _ _⟩
      · have hld : s.size = 1 ∨ (s[0]'hp0) ≠ 48 := by
          by_cases h1 : 1 < s.size
          · right; intro e; exact hlead ⟨by rw [e]; rfl, h1⟩
          · left; omega
        have HLD := Lib.hid hld
        have hcase : ((((s[0]'hp0).toNat : Int) == 48) = true ∧ decide ((1 : Int) < s.size) = false) ∨ (((s[0]'hp0).toNat : Int) == 48) = false := by
          cases e : (((s[0]'hp0).toNat : Int) == 48) with
          | false => exact .inr rfl
          | true => exact .inl ⟨rfl, by
            have : ¬ 1 < s.size := fun h => hlead ⟨by simp at e; omega, h⟩
            simp; omega⟩
        clear hld hlead
        rcases hcase with ⟨hb0, h1⟩ | hb0
        all_goals
          go_enter Tryd.func65, Tryd.ntmps65
          go_wp2
          obtain ⟨K, hK⟩ : ∃ K, w.heap.size = K := ⟨_, rfl⟩
          have hit0 : (w.iter s 0).heap[K]? = some (.stringIter s 0) := by rw [← hK]; exact World.iter_heap w s 0
          have hb3 : Below w.heap.size w (w.iter s 0) := (Below.refl _ w).alloc (Nat.le_refl _) _
          rw [hK] at hb3 ⊢
          obtain ⟨W, hW⟩ : ∃ W, w.iter s 0 = W := ⟨_, rfl⟩
          rw [hW] at hit0 hb3 ⊢
          have HK := Lib.hid hK
          clear hW hK hb0
          go_loopw [4] (fun _ wr => ∃ pos : Nat, wr.heap[K]? = some (.stringIter s pos) ∧ Below K w wr ∧ pos ≤ s.size ∧ Hid (∀ i (h : i < s.size), i < pos → 48 ≤ (s[i]'h).toNat ∧ (s[i]'h).toNat ≤ 57)) (fun _ wr => s.size - wr.iterPos K)
          case atStart => exact ⟨0, hit0, hb3, Nat.zero_le _, Lib.hid (fun i _ h => absurd h (Nat.not_lt_zero i))⟩
          case round =>
            obtain ⟨pos, hit, hb, hps, hall⟩ := hrel
            have hm := iterPos_of hit
            by_cases hp : pos < s.size
            · by_cases h128 : (s[pos]'hp).toNat < 128
              · have hnx : ∀ ty, (Instr.next (.pointer (some ⟨K, 0, none⟩)) true ty).run Tryd.prog wr = _ := fun ty => Lib.run_next_ascii_at (P := Tryd.prog) wr K s pos ty hit hp h128
                have hit4 := Lib.iterAt_heap wr K s pos (pos + 1) hit
                have hb4 := Lib.below_iterAt hb (k := K) (Nat.le_refl _) s (pos + 1)
                obtain ⟨W4, hW4⟩ : ∃ W4, wr.iterAt K s (pos + 1) = W4 := ⟨_, rfl⟩
                rw [hW4] at hit4 hb4
                simp only [hW4] at hnx
                clear hW4 hb
                by_cases hr : 48 ≤ (s[pos]'hp).toNat ∧ (s[pos]'hp).toNat ≤ 57
                · have hall2 := Lib.hid (show ∀ i (h : i < s.size), i < pos + 1 → 48 ≤ (s[i]'h).toNat ∧ (s[i]'h).toNat ≤ 57 from fun i h hi => by
                    by_cases e : i = pos
                    · subst e; exact hr
                    · exact hall.out i h (by omega))
                  have hr1 := hr.1
                  have hr2 := hr.2
                  clear hr hall hit
                  go_wp2
                  go_roundw
                  case rel => exact ⟨pos + 1, hit4, hb4, by omega, hall2⟩
                  case measure => rw [iterPos_of hit4, hm]; omega
                · have hv := Lib.hid (isDec_byte hp hr)
                  have hc : (s[pos]'hp).toNat < 48 ∨ 57 < (s[pos]'hp).toNat := by omega
                  clear hr hall hit
                  rcases hc with hc | hc
                  · go_wp2
                    go_ret
                    exact ⟨by rw [hv.out]; rfl, by rw [HK.out]; exact hb4⟩
                  · go_wp2
                    go_ret
                    exact ⟨by rw [hv.out]; rfl, by rw [HK.out]; exact hb4⟩
              · have hbig := decode_big hp (by omega)
                have hv := Lib.hid (isDec_byte hp (by omega))
                have hnx : ∀ ty, (Instr.next (.pointer (some ⟨K, 0, none⟩)) true ty).run Tryd.prog wr = _ := fun ty => Lib.run_next_any_at (P := Tryd.prog) wr K s pos ty hit hp
                have hb4 := Lib.below_iterAt hb (k := K) (Nat.le_refl _) s (pos + (Utf8.decode s pos).2)
                obtain ⟨c, hc⟩ : ∃ c, (Utf8.decode s pos).1 = c := ⟨_, rfl⟩
                obtain ⟨W4, hW4⟩ : ∃ W4, wr.iterAt K s (pos + (Utf8.decode s pos).2) = W4 := ⟨_, rfl⟩
                rw [hW4] at hb4
                simp only [hW4, hc] at hnx
                rw [hc] at hbig
                clear hW4 hb hc hall hit
                go_wp2
                go_ret
                exact ⟨by rw [hv.out]; rfl, by rw [HK.out]; exact hb4⟩
            · have hnx : ∀ ty, (Instr.next (.pointer (some ⟨K, 0, none⟩)) true ty).run Tryd.prog wr = _ := fun ty => Lib.run_next_end_at (P := Tryd.prog) wr K s pos ty hit hp
              have hv := Lib.hid (isDec_all hp0 (by omega) HLD.out (fun i h => hall.out i h (by omega)))
              clear hall hm
              go_wp2
              go_ret
              exact ⟨by rw [hv.out]; rfl, by rw [HK.out]; exact hb⟩

end Go.Proofs.YteelmjmiankflaaDoor.Num
