/-
  Contracts of isKana, areKana; the reference's kana.
-/
import Derived.Test.YtmbccolkgephgaaRomIA
import Derived.Test.YtmbccolkgephgaaUtfE
import Derived.Test.YtmbccolkgephgaaUtfH
import Derived.Test.YtmbccolkgephgaaKit3
set_option linter.unusedVariables false
set_option linter.unusedSimpArgs false
set_option maxRecDepth 100000
namespace Go.Proofs.Ytmbccolkgephgaa.Rom
open Go Go.RowKit Go.Proofs.Ytmbccolkgephgaa.Kit Go.Proofs.Ytmbccolkgephgaa.Utf

def isMark (x : Nat) : Bool := decide (x = 12540 ∨ x = 12289 ∨ x = 12290)

theorem rb_at (R : ByteArray) (j : Nat) (h : j < R.size) (w : World) : (Instr.index 9 (.string R) (.int .i64 j)).run Try.prog w = .ok (.int .u8 (((bs R).getD j 0).toNat : Int)) w := run_byte R j h w
def rbOf (r : Int) (j : Nat) : Int := (((enc r).getD j 0).toNat : Int)
theorem rb_of (r : Int) (l : Nat) (h1 : 1 ≤ l) (h3 : l ≤ 3) (hl : (enc r).length = l + 1) (z0 : 128 ≤ rbOf r l) (z1 : rbOf r l < 192) : RB (Utf8.encode r) l (rbOf r) := by
  have hs : (Utf8.encode r).size = l + 1 := by rw [← bs_len]; exact hl
  exact ⟨hs, h1, h3, fun j hj w => rb_at _ j (by omega) w, z0, z1⟩

theorem sb_lead : ∀ p, p < 9 → 192 ≤ sb p → (p = 0 ∨ p = 3 ∨ p = 6) ∧ sb p = 227 := by decide
theorem occ_pos {l : Nat} {rb : Nat → Int} (h0 : 192 ≤ rb 0) : Occ l rb → ∃ p, (p = 0 ∨ p = 3 ∨ p = 6) ∧ ∀ j, j ≤ l → sb (p + j) = rb j := by
  intro ⟨p, hp, ho⟩
  have := ho 0 (Nat.zero_le _)
  exact ⟨p, (sb_lead p (by omega) (by rw [show p = p + 0 by omega, this]; exact h0)).1, ho⟩

/-- The runes of two to four bytes. -/
theorem ir_val (r : Int) (h128 : 128 ≤ r) (hmax : r ≤ 1114111) (h65 : (r == 65533) = false) (hv : Go.validRune r = true) (w : World) :
    Calls Try.prog 81 #[.string { data := #[227, 131, 188, 227, 128, 129, 227, 128, 130] }, .int .i32 r] w fun e w' => ∃ v, e = .returned (.int .i64 v) ∧ (0 ≤ v ↔ isMark r.toNat = true) ∧ Below w.heap.size w w' := by
  obtain ⟨x, rfl⟩ : ∃ x : Nat, r = x := ⟨r.toNat, by omega⟩
  have hx : ((x : Nat) : Int).toNat = x := by omega
  rw [hx]
  rcases enc_forms x hv with ⟨hc, _⟩ | ⟨_, hc, e⟩ | ⟨hc1, hc, e⟩ | ⟨hc, _, e⟩
  · omega
  · rw [hx] at e
    have r0 : rbOf x 0 = 192 + x / 64 := by unfold rbOf; rw [e]; show ((UInt8.ofNat _).toNat : Int) = _; rw [toNat_ofNat _ (by omega)]; omega
    have r1 : rbOf x 1 = 128 + x % 64 := by unfold rbOf; rw [e]; show ((UInt8.ofNat _).toNat : Int) = _; rw [toNat_ofNat _ (by omega)]; omega
    refine (ir_at x _ 1 (rbOf x) h128 h65 hv rfl (rb_of x 1 (by decide) (by decide) (by rw [e]; rfl) (by rw [r1]; omega) (by rw [r1]; omega)) w).mono ?_
    rintro e' w' ⟨v, rfl, hov, hb⟩
    refine ⟨v, rfl, hov.trans ⟨fun ho => ?_, fun hs => ?_⟩, hb⟩
    · obtain ⟨p, hp, h⟩ := ho
      have h0 := h 0 (by omega)
      have := (sb_lead p (by omega) (by rw [show p = p + 0 by omega, h0, r0]; omega)).2
      rw [show p = p + 0 by omega, h0, r0] at this
      omega
    · simp only [isMark, decide_eq_true_eq] at hs; omega
  · rw [hx] at e
    have r0 : rbOf x 0 = 224 + x / 4096 := by unfold rbOf; rw [e]; show ((UInt8.ofNat _).toNat : Int) = _; rw [toNat_ofNat _ (by omega)]; omega
    have r1 : rbOf x 1 = 128 + x / 64 % 64 := by unfold rbOf; rw [e]; show ((UInt8.ofNat _).toNat : Int) = _; rw [toNat_ofNat _ (by omega)]; omega
    have r2 : rbOf x 2 = 128 + x % 64 := by unfold rbOf; rw [e]; show ((UInt8.ofNat _).toNat : Int) = _; rw [toNat_ofNat _ (by omega)]; omega
    refine (ir_at x _ 2 (rbOf x) h128 h65 hv rfl (rb_of x 2 (by decide) (by decide) (by rw [e]; rfl) (by rw [r2]; omega) (by rw [r2]; omega)) w).mono ?_
    rintro e' w' ⟨v, rfl, hov, hb⟩
    refine ⟨v, rfl, hov.trans ⟨fun ho => ?_, fun hs => ?_⟩, hb⟩
    · obtain ⟨p, hp, h⟩ := occ_pos (by rw [r0]; omega) ho
      have h0 := h 0 (by omega)
      have h1 := h 1 (by omega)
      have h2 := h 2 (by omega)
      rw [r0] at h0
      rw [r1] at h1
      rw [r2] at h2
      simp only [isMark, decide_eq_true_eq]
      rcases hp with rfl | rfl | rfl
      · have a0 : sb (0 + 0) = 227 := rfl
        have a1 : sb (0 + 1) = 131 := rfl
        have a2 : sb (0 + 2) = 188 := rfl
        omega
      · have a0 : sb (3 + 0) = 227 := rfl
        have a1 : sb (3 + 1) = 128 := rfl
        have a2 : sb (3 + 2) = 129 := rfl
        omega
      · have a0 : sb (6 + 0) = 227 := rfl
        have a1 : sb (6 + 1) = 128 := rfl
        have a2 : sb (6 + 2) = 130 := rfl
        omega
    · simp only [isMark, decide_eq_true_eq] at hs
      have h3 : x = 12540 ∨ x = 12289 ∨ x = 12290 := by omega
      rcases h3 with rfl | rfl | rfl
      · refine ⟨0, by decide, fun j hj => ?_⟩
        rcases (by omega : j = 0 ∨ j = 1 ∨ j = 2) with rfl | rfl | rfl
        · rw [r0]; rfl
        · rw [r1]; rfl
        · rw [r2]; rfl
      · refine ⟨3, by decide, fun j hj => ?_⟩
        rcases (by omega : j = 0 ∨ j = 1 ∨ j = 2) with rfl | rfl | rfl
        · rw [r0]; rfl
        · rw [r1]; rfl
        · rw [r2]; rfl
      · refine ⟨6, by decide, fun j hj => ?_⟩
        rcases (by omega : j = 0 ∨ j = 1 ∨ j = 2) with rfl | rfl | rfl
        · rw [r0]; rfl
        · rw [r1]; rfl
        · rw [r2]; rfl
  · rw [hx] at e
    have r0 : rbOf x 0 = 240 + x / 262144 := by unfold rbOf; rw [e]; show ((UInt8.ofNat _).toNat : Int) = _; rw [toNat_ofNat _ (by omega)]; omega
    have r3 : rbOf x 3 = 128 + x % 64 := by unfold rbOf; rw [e]; show ((UInt8.ofNat _).toNat : Int) = _; rw [toNat_ofNat _ (by omega)]; omega
    refine (ir_at x _ 3 (rbOf x) h128 h65 hv rfl (rb_of x 3 (by decide) (by decide) (by rw [e]; rfl) (by rw [r3]; omega) (by rw [r3]; omega)) w).mono ?_
    rintro e' w' ⟨v, rfl, hov, hb⟩
    refine ⟨v, rfl, hov.trans ⟨fun ho => ?_, fun hs => ?_⟩, hb⟩
    · obtain ⟨p, hp, h⟩ := ho
      have h0 := h 0 (by omega)
      have := (sb_lead p (by omega) (by rw [show p = p + 0 by omega, h0, r0]; omega)).2
      rw [show p = p + 0 by omega, h0, r0] at this
      omega
    · simp only [isMark, decide_eq_true_eq] at hs; omega

def markRunes : List (Nat × Nat × Int) := [(0, 3, 12540), (3, 6, 12289), (6, 9, 12290)]
theorem mark_dec : ∀ x ∈ markRunes, x.1 < 9 ∧ Utf8.decode { data := #[227, 131, 188, 227, 128, 129, 227, 128, 130] } x.1 = (x.2.2.toNat, x.2.1 - x.1) ∧ x.1 + (x.2.1 - x.1) = x.2.1 ∧ x.2.1 ≤ 9 ∧ (x.2.2.toNat : Int) = x.2.2 ∧ (x.2.2 == 65533) = false ∧ (x.2.1 = 9 ∨ ∃ y ∈ markRunes, y.1 = x.2.1) := by decide +kernel
/-- The mark of what is no character. -/
theorem ir_mark (w : World) :
    Calls Try.prog 81 #[.string { data := #[227, 131, 188, 227, 128, 129, 227, 128, 130] }, .int .i32 65533] w fun e w' => e = .returned (.int .i64 (-1)) ∧ Below w.heap.size w w' := by
  go_enter Try.func81, Try.ntmps81
  go_wp2
  go_loopw [] (fun wr => ∃ pos : Nat, wr = w.iter { data := #[227, 131, 188, 227, 128, 129, 227, 128, 130] } pos ∧ (pos = 9 ∨ ∃ y ∈ markRunes, y.1 = pos)) (fun wr => 9 - wr.iterPos w.heap.size)
  case atStart => exact ⟨0, rfl, .inr ⟨(0, 3, 12540), by decide, rfl⟩⟩
  case round =>
    obtain ⟨pos, rfl, hp | ⟨y, hy, rfl⟩⟩ := hrel
    · subst hp
      have hnx : ∀ ty, (Instr.next (.pointer (some ⟨w.heap.size, 0, none⟩)) true ty).run Try.prog (w.iter { data := #[227, 131, 188, 227, 128, 129, 227, 128, 130] } 9) = _ := fun ty => run_next_end w _ 9 ty (by decide)
      go_wp2
      go_ret
      exact ⟨rfl, (Below.refl _ _).alloc (Nat.le_refl _) _⟩
    · obtain ⟨h1, h2, h3, h4, h5, h6, h7⟩ := mark_dec y hy
      have hnx : ∀ ty, (Instr.next (.pointer (some ⟨w.heap.size, 0, none⟩)) true ty).run Try.prog (w.iter { data := #[227, 131, 188, 227, 128, 129, 227, 128, 130] } y.1) = .ok (.tuple #[.bool true, .int .i64 y.1, .int .i32 y.2.2]) (w.iter { data := #[227, 131, 188, 227, 128, 129, 227, 128, 130] } y.2.1) := fun ty => by
        have := run_next_any (P := Try.prog) w { data := #[227, 131, 188, 227, 128, 129, 227, 128, 130] } y.1 ty h1
        rw [h2, h3, h5] at this
        exact this
      have hlt : y.1 < y.2.1 := by
        have : ∀ x ∈ markRunes, x.1 < x.2.1 := by decide
        exact this y hy
      obtain ⟨p, hpe⟩ : ∃ p, y.1 = p := ⟨_, rfl⟩
      obtain ⟨q, hqe⟩ : ∃ q, y.2.1 = q := ⟨_, rfl⟩
      obtain ⟨z, hze⟩ : ∃ z, y.2.2 = z := ⟨_, rfl⟩
      rw [hpe, hqe, hze] at hnx
      rw [hpe]
      rw [hze] at h6
      rw [hqe] at h7 h4 hlt
      rw [hpe] at hlt
      clear h2 h3 h5 h1
      have H7 := Lib.hid h7
      clear h7 hy hze hqe hpe
      go_wp2
      go_roundw
      case rel => exact ⟨q, rfl, H7.out⟩
      case measure => simp; omega

theorem ascii_marks : ∀ x, x < 128 → decide (0 ≤ Lib.indexByte sepL x.toUInt8) = isMark x := by decide +kernel

/-- Whatever the character: ContainsRune says whether it is a mark. -/
theorem contains_any (c : Int) (hv : Go.validRune c = true) (w : World) :
    Calls Try.prog 76 #[.string { data := #[227, 131, 188, 227, 128, 129, 227, 128, 130] }, .int .i32 c] w fun e w' => e = .returned (.bool (isMark c.toNat)) ∧ Below w.heap.size w w' := by
  have hb := (valid_iff c).1 hv
  by_cases h128 : c < 128
  · refine (Try.strings_ContainsRune_ascii _ c w (by omega) (by omega)).mono ?_
    rintro e w' ⟨rfl, rfl⟩
    refine ⟨ret_bool ?_, Below.refl _ _⟩
    rw [← ascii_marks c.toNat (by omega)]
    rfl
  · have H : ∀ w, Calls Try.prog 81 #[.string { data := #[227, 131, 188, 227, 128, 129, 227, 128, 130] }, .int .i32 c] w fun e w' => ∃ v, e = .returned (.int .i64 v) ∧ (0 ≤ v ↔ isMark c.toNat = true) ∧ Below w.heap.size w w' := by
      intro w
      by_cases h65 : c = 65533
      · subst h65
        refine (ir_mark w).mono ?_
        rintro e w' ⟨rfl, hb⟩
        exact ⟨_, rfl, by decide, hb⟩
      · exact ir_val c (by omega) (by omega) (by simpa using h65) hv w
    have H := Lib.hid H
    clear hb hv h128
    go_enter Try.func76, Try.ntmps76
    go_wp2_with (go_at_call 81; (with_reducible refine (H.out _).mono ?_); rintro e w1 ⟨v, rfl, hv, hb⟩; have HV := Lib.hid hv; clear hv)
    go_ret
    refine ⟨?_, hb⟩
    congr 2
    have hv := HV.out
    cases hs : isMark c.toNat with
    | true => have := hv.2 hs; simpa using this
    | false =>
      have : ¬ 0 ≤ v := fun h => by have := hv.1 h; rw [hs] at this; cases this
      simpa using this

theorem isKana_any (c : Int) (hv : Go.validRune c = true) (w : World) :
    Calls Try.prog 73 #[.int .i32 c] w fun e w' => e = .returned (.bool (isKanaZ c)) ∧ Below w.heap.size w w' := by
  have hbd := (valid_iff c).1 hv
  have HC := Lib.hid (contains_any c hv)
  by_cases h : 12353 ≤ c ∧ c ≤ 12438
  · obtain ⟨h1, h2⟩ := h
    have e1 : isKanaZ c = true := by unfold isKanaZ; exact decide_eq_true (by omega)
    rw [e1]
    clear hv hbd
    go_enter Try.func73, Try.ntmps73
    go_wp2
    go_ret
    exact ⟨rfl, Below.refl _ _⟩
  · have e1 : isKanaZ c = isMark c.toNat := by unfold isKanaZ isMark; congr 1; exact propext ⟨fun h => by omega, fun h => by omega⟩
    rw [e1]
    clear e1 hv hbd
    generalize isMark c.toNat = m at HC ⊢
    by_cases h1 : 12353 ≤ c
    · have h2 : ¬ c ≤ 12438 := fun h2 => h ⟨h1, h2⟩
      clear h
      go_enter Try.func73, Try.ntmps73
      go_wp2_with (go_at_call 76; (with_reducible refine (HC.out _).mono ?_); rintro e w1 ⟨rfl, hb⟩)
      go_ret
      exact ⟨rfl, hb⟩
    · clear h
      go_enter Try.func73, Try.ntmps73
      go_wp2_with (go_at_call 76; (with_reducible refine (HC.out _).mono ?_); rintro e w1 ⟨rfl, hb⟩)
      go_ret
      exact ⟨rfl, hb⟩

theorem kana_good {s : ByteArray} {cs : List Int} (h : chars (bs s) = some cs) : kanaOK (bs s) = (decide (cs.length ≤ 4) && cs.all isKanaZ) := by unfold kanaOK; rw [h]
theorem kana_none {s : ByteArray} (h : chars (bs s) = none) : kanaOK (bs s) = false := by unfold kanaOK; rw [h]
theorem all_take_succ (cs : List Int) (k : Nat) (h : k < cs.length) : (cs.take (k + 1)).all isKanaZ = ((cs.take k).all isKanaZ && isKanaZ (cs.getD k 0)) := by
  rw [List.take_add_one, List.all_append, List.getD_eq_getElem?_getD, List.getElem?_eq_getElem h]
  simp
theorem all_take_bad (cs : List Int) (k : Nat) (h : (cs.take k).all isKanaZ = false) : cs.all isKanaZ = false := by
  cases h2 : cs.all isKanaZ
  · rfl
  · rw [List.all_eq_true] at h2
    have : (cs.take k).all isKanaZ = true := List.all_eq_true.2 fun x hx => h2 x (List.mem_of_mem_take hx)
    rw [this] at h; cases h
theorem ints_at (cs : List Int) (k : Nat) (h : k < cs.length) : (ints cs)[k]? = some (.int .i32 (cs.getD k 0)) := by
  unfold ints
  rw [List.getElem?_map, List.getD_eq_getElem?_getD, List.getElem?_eq_getElem h]
  rfl
theorem getD_mem (cs : List Int) (k : Nat) (h : k < cs.length) : cs.getD k 0 ∈ cs := by
  rw [List.getD_eq_getElem?_getD, List.getElem?_eq_getElem h]
  exact List.getElem_mem h

theorem areKana_any (s : ByteArray) (w : World) (hs : s.size ≤ 274877906944) :
    Calls Try.prog 68 #[.string s] w fun e w' => e = .returned (.bool (kanaOK (bs s))) ∧ Below w.heap.size w w' := by
  cases hc : chars (bs s) with
  | none =>
    rw [kana_none hc]
    have HR := Lib.hid (fun w => runes_bad s w (by omega) hc)
    clear hc
    go_enter Try.func68, Try.ntmps68
    go_wp2_with (go_at_call 72; (with_reducible refine (HR.out _).mono ?_); rintro e w1 ⟨rfl, hb⟩)
    go_ret
    exact ⟨rfl, hb⟩
  | some cs =>
    rw [kana_good hc]
    have hval := Lib.hid (chars_some hc).1
    have HR := Lib.hid (fun w => runes_some s w hs cs hc)
    clear hc
    by_cases h4 : cs.length ≤ 4
    · rw [decide_eq_true h4, Bool.true_and]
      go_enter Try.func68, Try.ntmps68
      go_wp2_with (go_at_call 72; (with_reducible refine (HR.out _).mono ?_); rintro e w1 ⟨g, cap, rfl, hown, hcap, hb⟩)
      go_loopw [21] (fun i wr => ∃ k : Nat, i = .int .i64 k ∧ k ≤ cs.length ∧ Hid ((cs.take k).all isKanaZ = true) ∧ Below w1.heap.size w1 wr) (fun i _ => cs.length - (intOf i).toNat)
      case atStart => exact ⟨0, rfl, Nat.zero_le _, Lib.hid rfl, Below.refl _ _⟩
      case round =>
        obtain ⟨k, rfl, hk, hok, hbw⟩ := hrel
        by_cases hkl : k < cs.length
        · obtain ⟨g', eg, _, hg, hx, _⟩ := own_cells hown (by omega)
          obtain rfl : g = g' := by simpa using eg
          have hx1 := hx k _ (ints_at cs k hkl)
          rw [← hbw.cell (p := ⟨g, k, none⟩) hg] at hx1
          have hsu := Lib.hid (all_take_succ cs k hkl)
          have HK := isKana_any (cs.getD k 0) (hval.out _ (getD_mem cs k hkl))
          generalize cs.getD k 0 = c at hx1 hsu HK
          clear hx eg
          cases hz : isKanaZ c
          · rw [hz] at HK hsu
            have HK := Lib.hid HK
            have HB := Lib.hid (all_take_bad cs (k + 1) (by rw [hsu.out]; simp))
            clear hz
            go_wp2_with (go_at_call 73; (with_reducible refine (HK.out _).mono ?_); rintro e w2 ⟨rfl, hb2⟩)
            go_ret
            exact ⟨ret_bool HB.out.symm, hb.trans ((hbw.trans (hb2.mono hbw.size)).mono hb.size)⟩
          · rw [hz] at HK hsu
            have HK := Lib.hid HK
            clear hz
            go_wp2_with (go_at_call 73; (with_reducible refine (HK.out _).mono ?_); rintro e w2 ⟨rfl, hb2⟩)
            go_roundw
            case rel => exact ⟨k + 1, by go_num, by omega, Lib.hid (by rw [hsu.out, hok.out]; rfl), hbw.trans (hb2.mono hbw.size)⟩
            case measure => simp [intOf]; omega
        · have e1 := Lib.hid (show cs.all isKanaZ = true by have := hok.out; rwa [List.take_of_length_le (by omega)] at this)
          clear hok
          go_wp2
          go_ret
          exact ⟨ret_bool e1.out.symm, hb.trans (hbw.mono hb.size)⟩
    · rw [decide_eq_false h4, Bool.false_and]
      go_enter Try.func68, Try.ntmps68
      go_wp2_with (go_at_call 72; (with_reducible refine (HR.out _).mono ?_); rintro e w1 ⟨g, cap, rfl, hown, hcap, hb⟩)
      go_ret
      exact ⟨rfl, hb⟩

theorem rkana_any (s : ByteArray) (w : World) (hs : s.size ≤ 274877906944) :
    Calls Try.prog 50 #[.string s] w fun e w' => e = .returned (.bool (kanaOK (bs s))) ∧ Below w.heap.size w w' := by
  cases hc : chars (bs s) with
  | none =>
    rw [kana_none hc]
    have HR := Lib.hid (fun w => rrunes_bad s w (by omega) hc)
    clear hc
    go_enter Try.func50, Try.ntmps50
    go_wp2_with (go_at_call 40; (with_reducible refine (HR.out _).mono ?_); rintro e w1 ⟨rfl, hb⟩)
    go_rounds 1
    go_ret
    exact ⟨rfl, hb⟩
  | some cs =>
    rw [kana_good hc]
    have hval := Lib.hid (chars_some hc).1
    have HR := Lib.hid (fun w => rrunes_good s w (by omega) cs hc)
    have hle := chars_le hc
    rw [bs_len] at hle
    clear hc
    go_enter Try.func50, Try.ntmps50
    go_wp2_with (go_at_call 40; (with_reducible refine (HR.out _).mono ?_); rintro e w1 ⟨a, cap, rfl, hown, hcap, hb⟩)
    go_loopw [5] (fun i wr => ∃ k : Nat, i = .int .i64 k ∧ k ≤ cs.length ∧ Hid ((cs.take k).all isKanaZ = true) ∧ wr = w1) (fun i _ => cs.length - (intOf i).toNat)
    case atStart => exact ⟨0, rfl, Nat.zero_le _, Lib.hid rfl, rfl⟩
    case round =>
      obtain ⟨k, rfl, hk, hok, rfl⟩ := hrel
      by_cases hkl : k < cs.length
      · obtain ⟨g, rfl, _, hg, hx, _⟩ := own_cells hown (by omega)
        have hx1 := hx k _ (ints_at cs k hkl)
        have hsu := Lib.hid (all_take_succ cs k hkl)
        generalize cs.getD k 0 = c at hx1 hsu
        have hbad : isKanaZ c = false → cs.all isKanaZ = false := fun h => all_take_bad cs (k + 1) (by rw [hsu.out, h]; simp)
        have HB := Lib.hid hbad; clear hbad hx
        by_cases h1 : 12353 ≤ c <;> by_cases h2 : c ≤ 12438 <;> cases h3 : (c == 12540) <;> cases h4 : (c == 12289) <;> cases h5 : (c == 12290)
        all_goals (have p3 := h3; have p4 := h4; have p5 := h5; simp only [beq_eq_false_iff_ne, ne_eq, beq_iff_eq] at p3 p4 p5)
        all_goals first | (exfalso; omega) | skip
        all_goals go_wp2
        all_goals first
          | (go_ret
             refine ⟨ret_bool ?_, hb⟩
             rw [HB.out (by unfold isKanaZ; exact decide_eq_false (by omega)), Bool.and_false])
          | (go_roundw
             case rel => exact ⟨k + 1, by go_num, by omega, Lib.hid (by rw [hsu.out, hok.out]; unfold isKanaZ; rw [decide_eq_true (by omega)]; rfl), trivial⟩
             case measure => simp [intOf]; omega)
      · have e1 := Lib.hid (show cs.all isKanaZ = true by have := hok.out; rwa [List.take_of_length_le (by omega)] at this)
        clear hok
        go_wp2
        go_ret
        refine ⟨ret_bool ?_, hb⟩
        rw [e1.out, Bool.and_true]
        first | rfl | (congr 1; exact propext ⟨fun h => by omega, fun h => by omega⟩) | skip

end Go.Proofs.Ytmbccolkgephgaa.Rom
