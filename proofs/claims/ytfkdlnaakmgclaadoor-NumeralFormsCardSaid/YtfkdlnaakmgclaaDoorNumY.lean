/-
  Contract of numeral.Forms.
-/
import Derived.Test.YtfkdlnaakmgclaaDoorNumX
import Derived.Test.YtfkdlnaakmgclaaDoorKit3
set_option linter.unusedVariables false
set_option linter.unusedSimpArgs false
namespace Go.Proofs.YtfkdlnaakmgclaaDoor.Num
open Go Go.RowKit Go.Proofs.YtfkdlnaakmgclaaDoor.Kit Go.Proofs.YtfkdlnaakmgclaaDoor.Utf

/-- One form more, if it isn't there yet. -/
def step1 (acc : List ByteArray) (x : ByteArray) : List ByteArray := if Lib.containsS acc x then acc else acc ++ [x]
def fs (g : ByteArray) (j : Nat) : ByteArray := [wOut ascC g, wOut wideC g, wOut commaC g, wOut posC g, wOut kanjiC g, wOut formC g].getD j { data := #[] }
def fAcc (g : ByteArray) : Nat → List ByteArray
  | 0 => []
  | j + 1 => if isDec g = true then step1 (fAcc g j) (fs g j) else fAcc g j
def formsOut (s : ByteArray) : List ByteArray := fAcc (rdOut readW s) 6
theorem step1_len (acc : List ByteArray) (x : ByteArray) : (step1 acc x).length ≤ acc.length + 1 := by
  unfold step1; split <;> simp
theorem fAcc_len (g : ByteArray) : ∀ j, j ≤ 6 → (fAcc g j).length ≤ 6 := by
  have : ∀ j, (fAcc g j).length ≤ j := by
    intro j
    induction j with
    | zero => exact Nat.le_refl _
    | succ j ih =>
      show (if isDec g = true then step1 (fAcc g j) (fs g j) else fAcc g j).length ≤ j + 1
      split
      · have := step1_len (fAcc g j) (fs g j); omega
      · omega
  intro j hj
  have := this j; omega

theorem info_str : (Tryd.prog.info? 9).map (fun i => (i.zero, i.size, i.bytes)) = some (some (.string { data := #[] }), 1, 16) := by kernel_rfl

theorem own_shape {w : World} {B e : Nat} {v : Value} {n : Nat} {xs : List Value} (h : w.ownsRow B e 1 v n xs) : ∃ a cap, v = .slice a n cap := by
  rcases h.2 with ⟨rfl, rfl⟩ | ⟨g, cap, cur, rfl, _⟩
  · exact ⟨none, 0, rfl⟩
  · exact ⟨_, cap, rfl⟩

/-- A list of strings that the call owns. -/
def OwnL (B : Nat) (w : World) (v : Value) (acc : List ByteArray) : Prop := w.ownsRow B 9 1 v acc.length (acc.map Value.string)

theorem contains_own {w : World} {B cap : Nat} {a : Option Addr} {acc : List ByteArray} (h : w.ownsRow B 9 1 (.slice a acc.length cap) acc.length (acc.map Value.string)) (x : ByteArray) :
    Calls Tryd.prog 47 #[.slice a acc.length cap, .string x] w fun e w' => e = .returned (.bool (Lib.containsS acc x)) ∧ w' = w := by
  by_cases h0 : acc = []
  · subst h0
    exact Tryd.slices_Contains_string_empty a cap x w
  · have hn : 0 < acc.length := List.length_pos_iff.2 h0
    obtain ⟨g, rfl, _, _, hc, _⟩ := own_cells h hn
    have hlen : acc.length ≤ 9223372036854775807 := by
      rcases h.2 with ⟨_, e⟩ | ⟨g, cap, cur, _, _, _, hnc, hcm, _⟩
      · omega
      · unfold maxLen at hcm; omega
    have := Tryd.slices_Contains_string g 0 acc.length cap acc x w (Nat.le_refl _) hlen (fun j hj => by
      rw [Nat.zero_add, hc j (.string acc[j]) (by rw [List.getElem?_map, List.getElem?_eq_getElem hj]; rfl)]
      rw [List.getD_eq_getElem?_getD, List.getElem?_eq_getElem hj]; rfl)
    rw [List.take_length] at this
    exact this

theorem rdW_size (s : ByteArray) : (rdOut readW s).size ≤ s.size := by
  unfold rdOut
  cases hc : chars (bs s) with
  | none => exact Nat.zero_le _
  | some cs =>
    simp only
    cases hr : readW cs with
    | none => exact Nat.zero_le _
    | some ds =>
      simp only
      obtain ⟨h1, h2⟩ := chars_some hc
      have := encs_length_ge h1
      rw [dg_size, readW_len hr, ← bs_len s, h2]; exact this

set_option maxRecDepth 100000 in
set_option maxHeartbeats 4000000 in
theorem forms_any (s : ByteArray) (w : World) (hs : s.size ≤ 140737488355000) (hL : Laid w) :
    Calls Tryd.prog 24 #[.string s] w fun e w' => ∃ v, e = .returned v ∧ w'.ownsRow w.heap.size 9 1 v (formsOut s).length ((formsOut s).map Value.string) ∧ Below w.heap.size w w' := by
  have H0 := Lib.hid (narrow_any s w hs hL)
  have hg : (rdOut readW s).size ≤ maxLen := by have := rdW_size s; unfold maxLen; omega
  unfold formsOut
  obtain ⟨g, hge⟩ : ∃ g, rdOut readW s = g := ⟨_, rfl⟩
  rw [hge] at H0 hg ⊢
  have HG := Lib.hid hg
  clear hge hg hs
  obtain ⟨i0, hi, hz0, hz1, hz2⟩ := info_parts info_str
  go_enter Tryd.func24, Tryd.ntmps24
  go_wp2_with (go_at_call 44; refine H0.out.mono ?_; rintro e w1 ⟨rfl, hb1⟩)
  go_loopw [4, 6, 7, 8, 12] (fun v _ _ _ iv wr => ∃ j : Int, iv = .int .i64 j ∧ 0 ≤ j ∧ j ≤ 6 ∧ Below w.heap.size w wr ∧ OwnL w.heap.size wr v (fAcc g j.toNat)) (fun _ _ _ _ iv _ => 6 - (intOf iv).toNat)
  case atStart => exact ⟨0, rfl, by omega, by omega, hb1, World.ownsRow_nil _ _ _ _⟩
  case round =>
    obtain ⟨j, rfl, hj0, hj6, hb, ho⟩ := hrel
    by_cases hlt : j < 6
    · have hjc : j = 0 ∨ j = 1 ∨ j = 2 ∨ j = 3 ∨ j = 4 ∨ j = 5 := by omega
      have y0 := run_index_agg Tryd.underlying46 Tryd.sizeOf23 Tryd.isAgg23 #[.func (.func 45) #[] #[], .func (.func 46) #[] #[], .func (.func 18) #[] #[], .func (.func 14) #[] #[], .func (.func 12) #[] #[], .func (.func 16) #[] #[]] 0 0 rfl (by decide) (.func (.func 45) #[] #[]) rfl
      have y1 := run_index_agg Tryd.underlying46 Tryd.sizeOf23 Tryd.isAgg23 #[.func (.func 45) #[] #[], .func (.func 46) #[] #[], .func (.func 18) #[] #[], .func (.func 14) #[] #[], .func (.func 12) #[] #[], .func (.func 16) #[] #[]] 1 1 rfl (by decide) (.func (.func 46) #[] #[]) rfl
      have y2 := run_index_agg Tryd.underlying46 Tryd.sizeOf23 Tryd.isAgg23 #[.func (.func 45) #[] #[], .func (.func 46) #[] #[], .func (.func 18) #[] #[], .func (.func 14) #[] #[], .func (.func 12) #[] #[], .func (.func 16) #[] #[]] 2 2 rfl (by decide) (.func (.func 18) #[] #[]) rfl
      have y3 := run_index_agg Tryd.underlying46 Tryd.sizeOf23 Tryd.isAgg23 #[.func (.func 45) #[] #[], .func (.func 46) #[] #[], .func (.func 18) #[] #[], .func (.func 14) #[] #[], .func (.func 12) #[] #[], .func (.func 16) #[] #[]] 3 3 rfl (by decide) (.func (.func 14) #[] #[]) rfl
      have y4 := run_index_agg Tryd.underlying46 Tryd.sizeOf23 Tryd.isAgg23 #[.func (.func 45) #[] #[], .func (.func 46) #[] #[], .func (.func 18) #[] #[], .func (.func 14) #[] #[], .func (.func 12) #[] #[], .func (.func 16) #[] #[]] 4 4 rfl (by decide) (.func (.func 12) #[] #[]) rfl
      have y5 := run_index_agg Tryd.underlying46 Tryd.sizeOf23 Tryd.isAgg23 #[.func (.func 45) #[] #[], .func (.func 46) #[] #[], .func (.func 18) #[] #[], .func (.func 14) #[] #[], .func (.func 12) #[] #[], .func (.func 16) #[] #[]] 5 5 rfl (by decide) (.func (.func 16) #[] #[]) rfl
      rcases hjc with rfl | rfl | rfl | rfl | rfl | rfl
      · have HW := Lib.hid (ascii_any g wr HG.out (hL.next hb))
        obtain ⟨x, hx⟩ : ∃ x, wOut ascC g = x := ⟨_, rfl⟩
        rw [hx] at HW
        have hfx : fs g 0 = x := hx
        clear hx
        cases hd : isDec g with
        | false =>
          rw [hd] at HW
          have HN := Lib.hid (show fAcc g (0 + 1) = fAcc g 0 by show (if isDec g = true then _ else _) = _; rw [hd]; rfl)
          clear hd hfx
          go_wp2_with (refine HW.out.mono ?_; rintro e w3 ⟨rfl, hb3⟩)
          have hb4 := hb.trans (hb3.mono hb.size)
          have ho4 := own_later ho hb3
          go_roundw
          case rel => exact ⟨1, by go_num, by omega, by omega, hb4, by show OwnL _ w3 _ (fAcc g (0 + 1)); rw [HN.out]; exact ho4⟩
          case measure => simp [intOf] <;> omega
        | true =>
          rw [hd] at HW
          have HN := Lib.hid (show fAcc g (0 + 1) = step1 (fAcc g 0) x by show (if isDec g = true then _ else _) = _; rw [hd, if_pos rfl, hfx])
          clear hd hfx
          have ho0 : OwnL w.heap.size wr _ (fAcc g 0) := ho
          obtain ⟨acc, hacc⟩ : ∃ acc, fAcc g 0 = acc := ⟨_, rfl⟩
          rw [hacc] at HN ho0
          have ho' : World.ownsRow wr w.heap.size 9 1 _ acc.length (acc.map Value.string) := ho0
          clear ho0
          have hal : acc.length ≤ 6 := by rw [← hacc]; exact fAcc_len g 0 (by omega)
          clear ho hacc
          obtain ⟨a, cap, hv⟩ := own_shape ho'
          subst hv
          go_wp2_with (refine HW.out.mono ?_; rintro e w3 ⟨rfl, hb3⟩; have hb4 := hb.trans (hb3.mono hb.size); have ho4 := own_later ho' hb3; clear hb3 hb ho'; have HCT := Lib.hid (contains_own ho4 x); go_wp2_with fail)
          refine (HCT.out).mono ?_
          rintro e w4 ⟨rfl, rfl⟩
          cases hct : Lib.containsS acc x with
          | true =>
            have HN2 := Lib.hid (show fAcc g (0 + 1) = acc by rw [HN.out]; unfold step1; rw [hct]; rfl)
            clear hct
            go_wp2
            go_roundw
            case rel => exact ⟨1, by go_num, by omega, by omega, hb4, by show OwnL _ _ _ (fAcc g (0 + 1)); rw [HN2.out]; exact ho4⟩
            case measure => simp [intOf] <;> omega
          | false =>
            have HN2 := Lib.hid (show fAcc g (0 + 1) = acc ++ [x] by rw [HN.out]; unfold step1; rw [hct]; rfl)
            clear hct
            go_wp2_with (at_builtin; refine wpList_append_own _ rfl _ _ _ rfl w.heap.size 9 i0 (.string { data := #[] }) 1 16 Tryd.underlying27 hi hz0 hz1 hz2 rfl (by decide) _ acc.length (acc.map Value.string) rfl (ho4.alloc _) ⟨w4.heap.size, 0, none⟩ 1 1 [.string x] rfl rfl (cell_one_new _ _ _) ?c2 ?c3 ?c4 ?c5 ?_)
            case c2 => simp [Value.oneCell']
            case c3 => unfold maxLen; omega
            case c4 => omega
            case c5 => have := hb4.size; simp; omega
            intro v' w5 hown5 hg5 hiff
            clear hiff
            have hb5 := below_own (hb4.alloc hb4.size _) (ho4.alloc _) (Nat.le_refl _) (by have := hb4.size; simp; omega) hg5
            have hown6 : w5.ownsRow w.heap.size 9 1 v' (acc ++ [x]).length ((acc ++ [x]).map Value.string) := by simpa using hown5
            clear hown5 hg5
            go_wp2
            go_roundw
            case rel => exact ⟨1, by go_num, by omega, by omega, hb5, by show OwnL _ w5 _ (fAcc g (0 + 1)); rw [HN2.out]; exact hown6⟩
            case measure => simp [intOf] <;> omega
      · have HW := Lib.hid (wide_any g wr HG.out (hL.next hb))
        obtain ⟨x, hx⟩ : ∃ x, wOut wideC g = x := ⟨_, rfl⟩
        rw [hx] at HW
        have hfx : fs g 1 = x := hx
        clear hx
        cases hd : isDec g with
        | false =>
          rw [hd] at HW
          have HN := Lib.hid (show fAcc g (1 + 1) = fAcc g 1 by show (if isDec g = true then _ else _) = _; rw [hd]; rfl)
          clear hd hfx
          go_wp2_with (refine HW.out.mono ?_; rintro e w3 ⟨rfl, hb3⟩)
          have hb4 := hb.trans (hb3.mono hb.size)
          have ho4 := own_later ho hb3
          go_roundw
          case rel => exact ⟨2, by go_num, by omega, by omega, hb4, by show OwnL _ w3 _ (fAcc g (1 + 1)); rw [HN.out]; exact ho4⟩
          case measure => simp [intOf] <;> omega
        | true =>
          rw [hd] at HW
          have HN := Lib.hid (show fAcc g (1 + 1) = step1 (fAcc g 1) x by show (if isDec g = true then _ else _) = _; rw [hd, if_pos rfl, hfx])
          clear hd hfx
          have ho0 : OwnL w.heap.size wr _ (fAcc g 1) := ho
          obtain ⟨acc, hacc⟩ : ∃ acc, fAcc g 1 = acc := ⟨_, rfl⟩
          rw [hacc] at HN ho0
          have ho' : World.ownsRow wr w.heap.size 9 1 _ acc.length (acc.map Value.string) := ho0
          clear ho0
          have hal : acc.length ≤ 6 := by rw [← hacc]; exact fAcc_len g 1 (by omega)
          clear ho hacc
          obtain ⟨a, cap, hv⟩ := own_shape ho'
          subst hv
          go_wp2_with (refine HW.out.mono ?_; rintro e w3 ⟨rfl, hb3⟩; have hb4 := hb.trans (hb3.mono hb.size); have ho4 := own_later ho' hb3; clear hb3 hb ho'; have HCT := Lib.hid (contains_own ho4 x); go_wp2_with fail)
          refine (HCT.out).mono ?_
          rintro e w4 ⟨rfl, rfl⟩
          cases hct : Lib.containsS acc x with
          | true =>
            have HN2 := Lib.hid (show fAcc g (1 + 1) = acc by rw [HN.out]; unfold step1; rw [hct]; rfl)
            clear hct
            go_wp2
            go_roundw
            case rel => exact ⟨2, by go_num, by omega, by omega, hb4, by show OwnL _ _ _ (fAcc g (1 + 1)); rw [HN2.out]; exact ho4⟩
            case measure => simp [intOf] <;> omega
          | false =>
            have HN2 := Lib.hid (show fAcc g (1 + 1) = acc ++ [x] by rw [HN.out]; unfold step1; rw [hct]; rfl)
            clear hct
            go_wp2_with (at_builtin; refine wpList_append_own _ rfl _ _ _ rfl w.heap.size 9 i0 (.string { data := #[] }) 1 16 Tryd.underlying27 hi hz0 hz1 hz2 rfl (by decide) _ acc.length (acc.map Value.string) rfl (ho4.alloc _) ⟨w4.heap.size, 0, none⟩ 1 1 [.string x] rfl rfl (cell_one_new _ _ _) ?c2 ?c3 ?c4 ?c5 ?_)
            case c2 => simp [Value.oneCell']
            case c3 => unfold maxLen; omega
            case c4 => omega
            case c5 => have := hb4.size; simp; omega
            intro v' w5 hown5 hg5 hiff
            clear hiff
            have hb5 := below_own (hb4.alloc hb4.size _) (ho4.alloc _) (Nat.le_refl _) (by have := hb4.size; simp; omega) hg5
            have hown6 : w5.ownsRow w.heap.size 9 1 v' (acc ++ [x]).length ((acc ++ [x]).map Value.string) := by simpa using hown5
            clear hown5 hg5
            go_wp2
            go_roundw
            case rel => exact ⟨2, by go_num, by omega, by omega, hb5, by show OwnL _ w5 _ (fAcc g (1 + 1)); rw [HN2.out]; exact hown6⟩
            case measure => simp [intOf] <;> omega
      · have HW := Lib.hid (commas_any g wr HG.out (hL.next hb))
        obtain ⟨x, hx⟩ : ∃ x, wOut commaC g = x := ⟨_, rfl⟩
        rw [hx] at HW
        have hfx : fs g 2 = x := hx
        clear hx
        cases hd : isDec g with
        | false =>
          rw [hd] at HW
          have HN := Lib.hid (show fAcc g (2 + 1) = fAcc g 2 by show (if isDec g = true then _ else _) = _; rw [hd]; rfl)
          clear hd hfx
          go_wp2_with (refine HW.out.mono ?_; rintro e w3 ⟨rfl, hb3⟩)
          have hb4 := hb.trans (hb3.mono hb.size)
          have ho4 := own_later ho hb3
          go_roundw
          case rel => exact ⟨3, by go_num, by omega, by omega, hb4, by show OwnL _ w3 _ (fAcc g (2 + 1)); rw [HN.out]; exact ho4⟩
          case measure => simp [intOf] <;> omega
        | true =>
          rw [hd] at HW
          have HN := Lib.hid (show fAcc g (2 + 1) = step1 (fAcc g 2) x by show (if isDec g = true then _ else _) = _; rw [hd, if_pos rfl, hfx])
          clear hd hfx
          have ho0 : OwnL w.heap.size wr _ (fAcc g 2) := ho
          obtain ⟨acc, hacc⟩ : ∃ acc, fAcc g 2 = acc := ⟨_, rfl⟩
          rw [hacc] at HN ho0
          have ho' : World.ownsRow wr w.heap.size 9 1 _ acc.length (acc.map Value.string) := ho0
          clear ho0
          have hal : acc.length ≤ 6 := by rw [← hacc]; exact fAcc_len g 2 (by omega)
          clear ho hacc
          obtain ⟨a, cap, hv⟩ := own_shape ho'
          subst hv
          go_wp2_with (refine HW.out.mono ?_; rintro e w3 ⟨rfl, hb3⟩; have hb4 := hb.trans (hb3.mono hb.size); have ho4 := own_later ho' hb3; clear hb3 hb ho'; have HCT := Lib.hid (contains_own ho4 x); go_wp2_with fail)
          refine (HCT.out).mono ?_
          rintro e w4 ⟨rfl, rfl⟩
          cases hct : Lib.containsS acc x with
          | true =>
            have HN2 := Lib.hid (show fAcc g (2 + 1) = acc by rw [HN.out]; unfold step1; rw [hct]; rfl)
            clear hct
            go_wp2
            go_roundw
            case rel => exact ⟨3, by go_num, by omega, by omega, hb4, by show OwnL _ _ _ (fAcc g (2 + 1)); rw [HN2.out]; exact ho4⟩
            case measure => simp [intOf] <;> omega
          | false =>
            have HN2 := Lib.hid (show fAcc g (2 + 1) = acc ++ [x] by rw [HN.out]; unfold step1; rw [hct]; rfl)
            clear hct
            go_wp2_with (at_builtin; refine wpList_append_own _ rfl _ _ _ rfl w.heap.size 9 i0 (.string { data := #[] }) 1 16 Tryd.underlying27 hi hz0 hz1 hz2 rfl (by decide) _ acc.length (acc.map Value.string) rfl (ho4.alloc _) ⟨w4.heap.size, 0, none⟩ 1 1 [.string x] rfl rfl (cell_one_new _ _ _) ?c2 ?c3 ?c4 ?c5 ?_)
            case c2 => simp [Value.oneCell']
            case c3 => unfold maxLen; omega
            case c4 => omega
            case c5 => have := hb4.size; simp; omega
            intro v' w5 hown5 hg5 hiff
            clear hiff
            have hb5 := below_own (hb4.alloc hb4.size _) (ho4.alloc _) (Nat.le_refl _) (by have := hb4.size; simp; omega) hg5
            have hown6 : w5.ownsRow w.heap.size 9 1 v' (acc ++ [x]).length ((acc ++ [x]).map Value.string) := by simpa using hown5
            clear hown5 hg5
            go_wp2
            go_roundw
            case rel => exact ⟨3, by go_num, by omega, by omega, hb5, by show OwnL _ w5 _ (fAcc g (2 + 1)); rw [HN2.out]; exact hown6⟩
            case measure => simp [intOf] <;> omega
      · have HW := Lib.hid (pos_any g wr HG.out (hL.next hb))
        obtain ⟨x, hx⟩ : ∃ x, wOut posC g = x := ⟨_, rfl⟩
        rw [hx] at HW
        have hfx : fs g 3 = x := hx
        clear hx
        cases hd : isDec g with
        | false =>
          rw [hd] at HW
          have HN := Lib.hid (show fAcc g (3 + 1) = fAcc g 3 by show (if isDec g = true then _ else _) = _; rw [hd]; rfl)
          clear hd hfx
          go_wp2_with (refine HW.out.mono ?_; rintro e w3 ⟨rfl, hb3⟩)
          have hb4 := hb.trans (hb3.mono hb.size)
          have ho4 := own_later ho hb3
          go_roundw
          case rel => exact ⟨4, by go_num, by omega, by omega, hb4, by show OwnL _ w3 _ (fAcc g (3 + 1)); rw [HN.out]; exact ho4⟩
          case measure => simp [intOf] <;> omega
        | true =>
          rw [hd] at HW
          have HN := Lib.hid (show fAcc g (3 + 1) = step1 (fAcc g 3) x by show (if isDec g = true then _ else _) = _; rw [hd, if_pos rfl, hfx])
          clear hd hfx
          have ho0 : OwnL w.heap.size wr _ (fAcc g 3) := ho
          obtain ⟨acc, hacc⟩ : ∃ acc, fAcc g 3 = acc := ⟨_, rfl⟩
          rw [hacc] at HN ho0
          have ho' : World.ownsRow wr w.heap.size 9 1 _ acc.length (acc.map Value.string) := ho0
          clear ho0
          have hal : acc.length ≤ 6 := by rw [← hacc]; exact fAcc_len g 3 (by omega)
          clear ho hacc
          obtain ⟨a, cap, hv⟩ := own_shape ho'
          subst hv
          go_wp2_with (refine HW.out.mono ?_; rintro e w3 ⟨rfl, hb3⟩; have hb4 := hb.trans (hb3.mono hb.size); have ho4 := own_later ho' hb3; clear hb3 hb ho'; have HCT := Lib.hid (contains_own ho4 x); go_wp2_with fail)
          refine (HCT.out).mono ?_
          rintro e w4 ⟨rfl, rfl⟩
          cases hct : Lib.containsS acc x with
          | true =>
            have HN2 := Lib.hid (show fAcc g (3 + 1) = acc by rw [HN.out]; unfold step1; rw [hct]; rfl)
            clear hct
            go_wp2
            go_roundw
            case rel => exact ⟨4, by go_num, by omega, by omega, hb4, by show OwnL _ _ _ (fAcc g (3 + 1)); rw [HN2.out]; exact ho4⟩
            case measure => simp [intOf] <;> omega
          | false =>
            have HN2 := Lib.hid (show fAcc g (3 + 1) = acc ++ [x] by rw [HN.out]; unfold step1; rw [hct]; rfl)
            clear hct
            go_wp2_with (at_builtin; refine wpList_append_own _ rfl _ _ _ rfl w.heap.size 9 i0 (.string { data := #[] }) 1 16 Tryd.underlying27 hi hz0 hz1 hz2 rfl (by decide) _ acc.length (acc.map Value.string) rfl (ho4.alloc _) ⟨w4.heap.size, 0, none⟩ 1 1 [.string x] rfl rfl (cell_one_new _ _ _) ?c2 ?c3 ?c4 ?c5 ?_)
            case c2 => simp [Value.oneCell']
            case c3 => unfold maxLen; omega
            case c4 => omega
            case c5 => have := hb4.size; simp; omega
            intro v' w5 hown5 hg5 hiff
            clear hiff
            have hb5 := below_own (hb4.alloc hb4.size _) (ho4.alloc _) (Nat.le_refl _) (by have := hb4.size; simp; omega) hg5
            have hown6 : w5.ownsRow w.heap.size 9 1 v' (acc ++ [x]).length ((acc ++ [x]).map Value.string) := by simpa using hown5
            clear hown5 hg5
            go_wp2
            go_roundw
            case rel => exact ⟨4, by go_num, by omega, by omega, hb5, by show OwnL _ w5 _ (fAcc g (3 + 1)); rw [HN2.out]; exact hown6⟩
            case measure => simp [intOf] <;> omega
      · have HW := Lib.hid (kanji_any g wr HG.out (hL.next hb))
        obtain ⟨x, hx⟩ : ∃ x, wOut kanjiC g = x := ⟨_, rfl⟩
        rw [hx] at HW
        have hfx : fs g 4 = x := hx
        clear hx
        cases hd : isDec g with
        | false =>
          rw [hd] at HW
          have HN := Lib.hid (show fAcc g (4 + 1) = fAcc g 4 by show (if isDec g = true then _ else _) = _; rw [hd]; rfl)
          clear hd hfx
          go_wp2_with (refine HW.out.mono ?_; rintro e w3 ⟨rfl, hb3⟩)
          have hb4 := hb.trans (hb3.mono hb.size)
          have ho4 := own_later ho hb3
          go_roundw
          case rel => exact ⟨5, by go_num, by omega, by omega, hb4, by show OwnL _ w3 _ (fAcc g (4 + 1)); rw [HN.out]; exact ho4⟩
          case measure => simp [intOf] <;> omega
        | true =>
          rw [hd] at HW
          have HN := Lib.hid (show fAcc g (4 + 1) = step1 (fAcc g 4) x by show (if isDec g = true then _ else _) = _; rw [hd, if_pos rfl, hfx])
          clear hd hfx
          have ho0 : OwnL w.heap.size wr _ (fAcc g 4) := ho
          obtain ⟨acc, hacc⟩ : ∃ acc, fAcc g 4 = acc := ⟨_, rfl⟩
          rw [hacc] at HN ho0
          have ho' : World.ownsRow wr w.heap.size 9 1 _ acc.length (acc.map Value.string) := ho0
          clear ho0
          have hal : acc.length ≤ 6 := by rw [← hacc]; exact fAcc_len g 4 (by omega)
          clear ho hacc
          obtain ⟨a, cap, hv⟩ := own_shape ho'
          subst hv
          go_wp2_with (refine HW.out.mono ?_; rintro e w3 ⟨rfl, hb3⟩; have hb4 := hb.trans (hb3.mono hb.size); have ho4 := own_later ho' hb3; clear hb3 hb ho'; have HCT := Lib.hid (contains_own ho4 x); go_wp2_with fail)
          refine (HCT.out).mono ?_
          rintro e w4 ⟨rfl, rfl⟩
          cases hct : Lib.containsS acc x with
          | true =>
            have HN2 := Lib.hid (show fAcc g (4 + 1) = acc by rw [HN.out]; unfold step1; rw [hct]; rfl)
            clear hct
            go_wp2
            go_roundw
            case rel => exact ⟨5, by go_num, by omega, by omega, hb4, by show OwnL _ _ _ (fAcc g (4 + 1)); rw [HN2.out]; exact ho4⟩
            case measure => simp [intOf] <;> omega
          | false =>
            have HN2 := Lib.hid (show fAcc g (4 + 1) = acc ++ [x] by rw [HN.out]; unfold step1; rw [hct]; rfl)
            clear hct
            go_wp2_with (at_builtin; refine wpList_append_own _ rfl _ _ _ rfl w.heap.size 9 i0 (.string { data := #[] }) 1 16 Tryd.underlying27 hi hz0 hz1 hz2 rfl (by decide) _ acc.length (acc.map Value.string) rfl (ho4.alloc _) ⟨w4.heap.size, 0, none⟩ 1 1 [.string x] rfl rfl (cell_one_new _ _ _) ?c2 ?c3 ?c4 ?c5 ?_)
            case c2 => simp [Value.oneCell']
            case c3 => unfold maxLen; omega
            case c4 => omega
            case c5 => have := hb4.size; simp; omega
            intro v' w5 hown5 hg5 hiff
            clear hiff
            have hb5 := below_own (hb4.alloc hb4.size _) (ho4.alloc _) (Nat.le_refl _) (by have := hb4.size; simp; omega) hg5
            have hown6 : w5.ownsRow w.heap.size 9 1 v' (acc ++ [x]).length ((acc ++ [x]).map Value.string) := by simpa using hown5
            clear hown5 hg5
            go_wp2
            go_roundw
            case rel => exact ⟨5, by go_num, by omega, by omega, hb5, by show OwnL _ w5 _ (fAcc g (4 + 1)); rw [HN2.out]; exact hown6⟩
            case measure => simp [intOf] <;> omega
      · have HW := Lib.hid (formal_any g wr HG.out (hL.next hb))
        obtain ⟨x, hx⟩ : ∃ x, wOut formC g = x := ⟨_, rfl⟩
        rw [hx] at HW
        have hfx : fs g 5 = x := hx
        clear hx
        cases hd : isDec g with
        | false =>
          rw [hd] at HW
          have HN := Lib.hid (show fAcc g (5 + 1) = fAcc g 5 by show (if isDec g = true then _ else _) = _; rw [hd]; rfl)
          clear hd hfx
          go_wp2_with (refine HW.out.mono ?_; rintro e w3 ⟨rfl, hb3⟩)
          have hb4 := hb.trans (hb3.mono hb.size)
          have ho4 := own_later ho hb3
          go_roundw
          case rel => exact ⟨6, by go_num, by omega, by omega, hb4, by show OwnL _ w3 _ (fAcc g (5 + 1)); rw [HN.out]; exact ho4⟩
          case measure => simp [intOf] <;> omega
        | true =>
          rw [hd] at HW
          have HN := Lib.hid (show fAcc g (5 + 1) = step1 (fAcc g 5) x by show (if isDec g = true then _ else _) = _; rw [hd, if_pos rfl, hfx])
          clear hd hfx
          have ho0 : OwnL w.heap.size wr _ (fAcc g 5) := ho
          obtain ⟨acc, hacc⟩ : ∃ acc, fAcc g 5 = acc := ⟨_, rfl⟩
          rw [hacc] at HN ho0
          have ho' : World.ownsRow wr w.heap.size 9 1 _ acc.length (acc.map Value.string) := ho0
          clear ho0
          have hal : acc.length ≤ 6 := by rw [← hacc]; exact fAcc_len g 5 (by omega)
          clear ho hacc
          obtain ⟨a, cap, hv⟩ := own_shape ho'
          subst hv
          go_wp2_with (refine HW.out.mono ?_; rintro e w3 ⟨rfl, hb3⟩; have hb4 := hb.trans (hb3.mono hb.size); have ho4 := own_later ho' hb3; clear hb3 hb ho'; have HCT := Lib.hid (contains_own ho4 x); go_wp2_with fail)
          refine (HCT.out).mono ?_
          rintro e w4 ⟨rfl, rfl⟩
          cases hct : Lib.containsS acc x with
          | true =>
            have HN2 := Lib.hid (show fAcc g (5 + 1) = acc by rw [HN.out]; unfold step1; rw [hct]; rfl)
            clear hct
            go_wp2
            go_roundw
            case rel => exact ⟨6, by go_num, by omega, by omega, hb4, by show OwnL _ _ _ (fAcc g (5 + 1)); rw [HN2.out]; exact ho4⟩
            case measure => simp [intOf] <;> omega
          | false =>
            have HN2 := Lib.hid (show fAcc g (5 + 1) = acc ++ [x] by rw [HN.out]; unfold step1; rw [hct]; rfl)
            clear hct
            go_wp2_with (at_builtin; refine wpList_append_own _ rfl _ _ _ rfl w.heap.size 9 i0 (.string { data := #[] }) 1 16 Tryd.underlying27 hi hz0 hz1 hz2 rfl (by decide) _ acc.length (acc.map Value.string) rfl (ho4.alloc _) ⟨w4.heap.size, 0, none⟩ 1 1 [.string x] rfl rfl (cell_one_new _ _ _) ?c2 ?c3 ?c4 ?c5 ?_)
            case c2 => simp [Value.oneCell']
            case c3 => unfold maxLen; omega
            case c4 => omega
            case c5 => have := hb4.size; simp; omega
            intro v' w5 hown5 hg5 hiff
            clear hiff
            have hb5 := below_own (hb4.alloc hb4.size _) (ho4.alloc _) (Nat.le_refl _) (by have := hb4.size; simp; omega) hg5
            have hown6 : w5.ownsRow w.heap.size 9 1 v' (acc ++ [x]).length ((acc ++ [x]).map Value.string) := by simpa using hown5
            clear hown5 hg5
            go_wp2
            go_roundw
            case rel => exact ⟨6, by go_num, by omega, by omega, hb5, by show OwnL _ w5 _ (fAcc g (5 + 1)); rw [HN2.out]; exact hown6⟩
            case measure => simp [intOf] <;> omega
    · have hj : j = 6 := by omega
      subst hj
      clear hlt
      go_wp2
      go_ret
      exact ⟨_, rfl, ho, hb⟩

end Go.Proofs.YtfkdlnaakmgclaaDoor.Num
