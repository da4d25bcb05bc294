/-
  Joined texts: NumJ, NumK, NumL, NumP, NumU, NumV, NumQ, NumR.
-/
import Derived.Test.YteelmjmiankflaaGreatDoorM7
import Derived.Test.YteelmjmiankflaaGreatDoorM5
set_option linter.unusedVariables false
set_option linter.unusedSimpArgs false
namespace Go.Proofs.YteelmjmiankflaaGreatDoor.Num
open Go Go.RowKit Go.Proofs.YteelmjmiankflaaGreatDoor.Kit Go.Proofs.YteelmjmiankflaaGreatDoor.Utf

/-- An element of an array value, each of one cell. -/
theorem run_index_agg {t e : TypeId} {n : Nat} (hu : Tryz.prog.underlying t = some (.array n e)) (hs : ∀ w, (sizeOf e).run Tryz.prog w = .ok 1 w) (ha : ∀ w, (isAgg e).run Tryz.prog w = .ok false w) (cs : Array Value) (x : Int) (k : Nat) (hx : x = k) (hk : k < n) (v : Value) (hg : cs[k]? = some v) :
    ∀ w, (Instr.index t (.agg cs) (.int .i64 x)).run Tryz.prog w = .ok v w := by
  intro w
  subst hx
  have hu' := run_underlying (P := Tryz.prog) hu
  have h1 : (k : Int) < n := by omega
  simp [Instr.index, hu', asIntOf, go_sem, h1, hg, hs, ha]
  intro h; omega

theorem eachS_mem {out : Bool → Nat → Nat → List Int} {next : Bool → Nat → Nat → Bool} {P : Int → Prop} (h : ∀ b d a, d ≤ 9 → a ≤ 19 → ∀ c ∈ out b d a, P c) :
    ∀ (ds : List Nat) (b : Bool), (∀ d ∈ ds, d ≤ 9) → ds.length ≤ 20 → ∀ c ∈ eachS out next b ds, P c := by
  intro ds
  induction ds with
  | nil => intro b _ _ c hc; simp [eachS] at hc
  | cons d ds ih =>
    intro b h9 hl c hc
    simp only [List.length_cons] at hl
    unfold eachS at hc
    rcases List.mem_append.1 hc with hc | hc
    · exact h b d ds.length (h9 d (by simp)) (by omega) c hc
    · exact ih _ (fun x hx => h9 x (by simp [hx])) (by omega) c hc

theorem val_kp : ∀ d, d ≤ 9 → ∀ u, u ≤ 3 → ∀ c ∈ kp d u, validRune c = true := by decide
theorem val_fp : ∀ d, d ≤ 9 → ∀ u, u ≤ 3 → ∀ c ∈ fp d u, validRune c = true := by decide
theorem val_uo {h : Nat → Nat → List Int} (hv : ∀ d, d ≤ 9 → ∀ u, u ≤ 3 → ∀ c ∈ h d u, validRune c = true) : ∀ b d a, d ≤ 9 → a ≤ 19 → ∀ c ∈ uo h b d a, validRune c = true := by
  intro b d a h9 ha c hc
  unfold uo at hc
  rcases List.mem_append.1 hc with hc | hc
  · split at hc
    · simp at hc
    · exact hv d h9 (a % 4) (by omega) c hc
  · split at hc
    · exact val_gu (a / 4) (by omega) c hc
    · simp at hc
theorem val_kanji {ds : List Nat} (hd : DS ds) : ∀ c ∈ kanjiC ds, validRune c = true := by
  intro c hc
  unfold kanjiC at hc
  split at hc
  · rw [List.mem_singleton.1 hc]; decide
  · exact eachS_mem (val_uo val_kp) ds false hd.2.2.1 hd.2.1 c hc
theorem val_form {ds : List Nat} (hd : DS ds) : ∀ c ∈ formC ds, validRune c = true := by
  intro c hc
  unfold formC at hc
  split at hc
  · rw [List.mem_singleton.1 hc]; decide
  · exact eachS_mem (val_uo val_fp) ds false hd.2.2.1 hd.2.1 c hc
theorem val_pos {ds : List Nat} (hd : DS ds) : ∀ c ∈ posC ds, validRune c = true :=
  eachS_mem (fun _ d _ h9 _ => val_pd d (by omega)) ds false hd.2.2.1 hd.2.1
theorem val_W {ds : List Nat} {cs : List Int} (hd : DS ds) (h : Wr ds cs) : ∀ c ∈ cs, validRune c = true := by
  rcases h with h | h | h <;> subst h
  · exact val_kanji hd
  · exact val_pos hd
  · exact val_form hd

/-- s is what one of the three writes for d. -/
def WrS (s d : ByteArray) : Prop := isDec d = true ∧ (wOut kanjiC d = s ∨ wOut posC d = s ∨ wOut formC d = s)
theorem WrS.digits {s d : ByteArray} (h : WrS s d) : ∃ ds cs, DS ds ∧ d = dg ds ∧ Wr ds cs ∧ s = tx cs := by
  obtain ⟨hd, h⟩ := h
  obtain ⟨h1, h2⟩ := (isDec_iff d).1 hd
  refine ⟨ofDg d, ?_⟩
  rw [h2] at h
  rw [wOut_dg _ h1, wOut_dg _ h1, wOut_dg _ h1] at h
  rcases h with h | h | h
  · exact ⟨_, h1, h2, .inl rfl, h.symm⟩
  · exact ⟨_, h1, h2, .inr (.inl rfl), h.symm⟩
  · exact ⟨_, h1, h2, .inr (.inr rfl), h.symm⟩
theorem WrS.unique {s a b : ByteArray} (ha : WrS s a) (hb : WrS s b) : a = b := by
  obtain ⟨da, ca, h1, h2, h3, h4⟩ := ha.digits
  obtain ⟨db, cb, k1, k2, k3, k4⟩ := hb.digits
  have e : ca = cb := tx_inj (val_W h1 h3) (val_W k1 k3) (h4.symm.trans k4)
  subst e
  rw [h2, k2, Num.unique h1 k1 h3 k3]
theorem WrS.read {s d : ByteArray} (h : WrS s d) : rdOut readE s = d ∨ rdOut readU s = d := by
  obtain ⟨ds, cs, h1, h2, h3, h4⟩ := h.digits
  have hc : chars (bs s) = some cs := by rw [h4, bs_tx]; exact chars_encs (val_W h1 h3)
  rcases complete h1 h3 with hr | hr
  · left; rw [rdOut_good hc hr, h2]
  · right; rw [rdOut_good hc hr, h2]

def hitB (f : List Nat → List Int) (g s : ByteArray) : Bool := isDec g && decide (wOut f g = s)
theorem hit_true {f : List Nat → List Int} {g s : ByteArray} (h : hitB f g s = true) : isDec g = true ∧ wOut f g = s := by
  unfold hitB at h; simpa using h

/-- What Parse returns. -/
def Parsed (s : ByteArray) (w : World) (e : Ending) (w' : World) : Prop :=
  ((∃ d, WrS s d ∧ e = .returned (.tuple #[.string d, .bool true])) ∨ ((∀ d, ¬ WrS s d) ∧ e = .returned (.tuple #[.string { data := #[] }, .bool false]))) ∧ Below w.heap.size w w'

theorem parsed_yes {s g : ByteArray} {w w' : World} {f : List Nat → List Int} (hf : f = kanjiC ∨ f = posC ∨ f = formC) (h : hitB f g s = true) (hb : Below w.heap.size w w') : Parsed s w (.returned (.tuple #[.string g, .bool true])) w' := by
  obtain ⟨h1, h2⟩ := hit_true h
  refine ⟨.inl ⟨g, ⟨h1, ?_⟩, rfl⟩, hb⟩
  rcases hf with rfl | rfl | rfl
  · exact .inl h2
  · exact .inr (.inl h2)
  · exact .inr (.inr h2)
def missB (g s : ByteArray) : Prop := hitB kanjiC g s = false ∧ hitB posC g s = false ∧ hitB formC g s = false
theorem miss_no {g s : ByteArray} (h : missB g s) : ¬ WrS s g := by
  rintro ⟨h1, h2⟩
  obtain ⟨a, b, c⟩ := h
  unfold hitB at a b c
  rw [h1] at a b c
  simp at a b c
  rcases h2 with h | h | h
  · exact a h
  · exact b h
  · exact c h
theorem parsed_no {s : ByteArray} {w w' : World} (h0 : missB (rdOut readE s) s) (h1 : missB (rdOut readU s) s) (hb : Below w.heap.size w w') : Parsed s w (.returned (.tuple #[.string { data := #[] }, .bool false])) w' := by
  refine ⟨.inr ⟨fun d hd => ?_, rfl⟩, hb⟩
  rcases hd.read with h | h
  · subst h; exact miss_no h0 hd
  · subst h; exact miss_no h1 hd

theorem strip_len (l : List Nat) : (strip l).length ≤ l.length := by
  unfold strip
  induction l with
  | nil => simp
  | cons a l ih => rw [List.dropWhile_cons]; split <;> simp <;> omega
theorem rdE_size (s : ByteArray) : (rdOut readE s).size ≤ s.size := by
  unfold rdOut
  cases hc : chars (bs s) with
  | none => exact Nat.zero_le _
  | some cs =>
    simp only
    cases hr : readE cs with
    | none => exact Nat.zero_le _
    | some ds =>
      simp only
      obtain ⟨h1, h2⟩ := chars_some hc
      have := encs_length_ge h1
      rw [dg_size, readE_len hr, ← bs_len s, h2]; exact this
theorem rdU_size (s : ByteArray) : (rdOut readU s).size ≤ 20 := by
  unfold rdOut
  cases hc : chars (bs s) with
  | none => exact Nat.zero_le _
  | some cs =>
    simp only
    cases hr : readU cs with
    | none => exact Nat.zero_le _
    | some ds =>
      simp only
      rw [dg_size]
      unfold readU at hr
      cases h : run st0 cs with
      | none => rw [h] at hr; cases hr
      | some st =>
        rw [h] at hr
        simp only [Option.map_some, Option.some.injEq] at hr
        have := strip_len (big (endG st 0).1)
        rw [big_len] at this
        rw [← hr]; exact this

/-- One question: does the writer f write s for g? In the walk's words. -/
theorem hit_cases (f : List Nat → List Int) (g s : ByteArray) : (isDec g = false ∧ hitB f g s = false) ∨ (isDec g = true ∧ ((wOut f g).toList == s.toList) = false ∧ hitB f g s = false) ∨ (isDec g = true ∧ ((wOut f g).toList == s.toList) = true ∧ hitB f g s = true) := by
  cases hd : isDec g with
  | false => left; exact ⟨rfl, by unfold hitB; rw [hd]; rfl⟩
  | true =>
    right
    by_cases e : wOut f g = s
    · right; exact ⟨rfl, by simp [e], by unfold hitB; rw [hd]; simpa using e⟩
    · left
      refine ⟨rfl, ?_, by unfold hitB; rw [hd]; simpa using e⟩
      rw [ByteArray.toList_eq, ByteArray.toList_eq]
      simp only [beq_eq_false_iff_ne]
      exact fun h => e (ba_ext h)

set_option maxRecDepth 100000 in
set_option maxHeartbeats 4000000 in
theorem parse_any (s : ByteArray) (w : World) (hs : s.size ≤ 140737488355000) (hL : Laid w) :
    Calls Tryz.prog 47 #[.string s] w (Parsed s w) := by
  have H0 := Lib.hid (fun w hL => readEach_any s w hs hL)
  have H1 := Lib.hid (fun w hL => readUnits_any s w hs hL)
  have hg0 : (rdOut readE s).size ≤ maxLen := by have := rdE_size s; unfold maxLen; omega
  have hg1 : (rdOut readU s).size ≤ maxLen := by have := rdU_size s; unfold maxLen; omega
  have HG0 := Lib.hid hg0
  have HG1 := Lib.hid hg1
  have HP := Lib.hid (fun w' => parsed_no (w := w) (w' := w') (s := s))
  have HY := Lib.hid (fun g f w' => parsed_yes (w := w) (w' := w') (s := s) (g := g) (f := f))
  obtain ⟨g0, hge⟩ : ∃ g, rdOut readE s = g := ⟨_, rfl⟩
  obtain ⟨g1, hgu⟩ : ∃ g, rdOut readU s = g := ⟨_, rfl⟩
  rw [hge] at HG0 hg0 H0 HP
  rw [hgu] at HG1 hg1 H1 HP
  clear hge hgu hg0 hg1 hs
  go_enter Tryz.func47, Tryz.ntmps47
  go_wp2_with (first
    | (go_at_call 69; refine (H0.out _ hL).mono ?_; rintro e w1 ⟨rfl, hb1⟩)
    | (go_at_call 70; refine (H1.out _ (hL.next hb1)).mono ?_; rintro e w2 ⟨rfl, hb2⟩))
  have hb := hb1.trans (hb2.mono hb1.size)
  clear hb1 hb2
  go_loopw [5, 7, 8, 9, 15, 19] (fun _ _ _ _ iv _ wr => ∃ i : Int, iv = .int .i64 i ∧ 0 ≤ i ∧ i ≤ 2 ∧ Below w.heap.size w wr ∧ Hid ((0 < i → missB g0 s) ∧ (1 < i → missB g1 s))) (fun _ _ _ _ iv _ _ => 2 - (intOf iv).toNat)
  case atStart => exact ⟨0, rfl, by omega, by omega, hb, Lib.hid ⟨fun h => absurd h (by omega), fun h => absurd h (by omega)⟩⟩
  case round =>
    obtain ⟨i, rfl, hi0, hi, hb, hmiss⟩ := hrel
    by_cases hi2 : i < 2
    · have hic : i = 0 ∨ i = 1 := by omega
      have x0 := run_index_agg Tryz.underlying59 Tryz.sizeOf9 Tryz.isAgg9 #[.string g0, .string g1] 0 0 rfl (by decide) (.string g0) rfl
      have x1 := run_index_agg Tryz.underlying59 Tryz.sizeOf9 Tryz.isAgg9 #[.string g0, .string g1] 1 1 rfl (by decide) (.string g1) rfl
      have y0 := run_index_agg Tryz.underlying93 Tryz.sizeOf81 Tryz.isAgg81 #[.func (.func 49) #[] #[], .func (.func 71) #[] #[], .func (.func 72) #[] #[]] 0 0 rfl (by decide) (.func (.func 49) #[] #[]) rfl
      have y1 := run_index_agg Tryz.underlying93 Tryz.sizeOf81 Tryz.isAgg81 #[.func (.func 49) #[] #[], .func (.func 71) #[] #[], .func (.func 72) #[] #[]] 1 1 rfl (by decide) (.func (.func 71) #[] #[]) rfl
      have y2 := run_index_agg Tryz.underlying93 Tryz.sizeOf81 Tryz.isAgg81 #[.func (.func 49) #[] #[], .func (.func 71) #[] #[], .func (.func 72) #[] #[]] 2 2 rfl (by decide) (.func (.func 72) #[] #[]) rfl
      rcases hic with rfl | rfl
      · clear hi2
        go_wp2
        go_loopw [7, 8, 9, 19] (fun _ _ _ jv wr => ∃ j : Int, jv = .int .i64 j ∧ 0 ≤ j ∧ j ≤ 3 ∧ Below w.heap.size w wr ∧ Hid ((0 < j → hitB kanjiC g0 s = false) ∧ (1 < j → hitB posC g0 s = false) ∧ (2 < j → hitB formC g0 s = false))) (fun _ _ _ jv _ => 3 - (intOf jv).toNat)
        case atStart => exact ⟨0, rfl, by omega, by omega, hb, Lib.hid ⟨fun h => absurd h (by omega), fun h => absurd h (by omega), fun h => absurd h (by omega)⟩⟩
        case round =>
          obtain ⟨j, rfl, hj0, hj, hb2, hno⟩ := hrel
          by_cases hj3 : j < 3
          · have hjc : j = 0 ∨ j = 1 ∨ j = 2 := by omega
            have hL2 := Lib.hid (hL.next hb2)
            rcases hjc with rfl | rfl | rfl
            · have HW := Lib.hid (kanji_any g0 wr HG0.out hL2.out)
              rcases hit_cases kanjiC g0 s with ⟨d1, m⟩ | ⟨d1, d2, m⟩ | ⟨d1, d2, m⟩
              · have M := Lib.hid m
                clear m
                go_wp2_with (refine HW.out.mono ?_; rintro e w3 ⟨rfl, hb3⟩)
                have hb4 := hb2.trans (hb3.mono hb2.size)
                go_roundw
                case rel => exact ⟨1, by go_num, by omega, by omega, hb4, Lib.hid ⟨fun _ => M.out, fun h => absurd h (by omega), fun h => absurd h (by omega)⟩⟩
                case measure => simp [intOf] <;> omega
              · have M := Lib.hid m
                clear m
                go_wp2_with (refine HW.out.mono ?_; rintro e w3 ⟨rfl, hb3⟩)
                have hb4 := hb2.trans (hb3.mono hb2.size)
                go_roundw
                case rel => exact ⟨1, by go_num, by omega, by omega, hb4, Lib.hid ⟨fun _ => M.out, fun h => absurd h (by omega), fun h => absurd h (by omega)⟩⟩
                case measure => simp [intOf] <;> omega
              · have M := Lib.hid m
                clear m
                go_wp2_with (refine HW.out.mono ?_; rintro e w3 ⟨rfl, hb3⟩)
                have hb4 := hb2.trans (hb3.mono hb2.size)
                go_ret2
                exact HY.out g0 kanjiC _ (.inl rfl) M.out hb4
            · have HW := Lib.hid (pos_any g0 wr HG0.out hL2.out)
              rcases hit_cases posC g0 s with ⟨d1, m⟩ | ⟨d1, d2, m⟩ | ⟨d1, d2, m⟩
              · have M := Lib.hid m
                clear m
                go_wp2_with (refine HW.out.mono ?_; rintro e w3 ⟨rfl, hb3⟩)
                have hb4 := hb2.trans (hb3.mono hb2.size)
                go_roundw
                case rel => exact ⟨2, by go_num, by omega, by omega, hb4, Lib.hid ⟨fun _ => hno.out.1 (by omega), fun _ => M.out, fun h => absurd h (by omega)⟩⟩
                case measure => simp [intOf] <;> omega
              · have M := Lib.hid m
                clear m
                go_wp2_with (refine HW.out.mono ?_; rintro e w3 ⟨rfl, hb3⟩)
                have hb4 := hb2.trans (hb3.mono hb2.size)
                go_roundw
                case rel => exact ⟨2, by go_num, by omega, by omega, hb4, Lib.hid ⟨fun _ => hno.out.1 (by omega), fun _ => M.out, fun h => absurd h (by omega)⟩⟩
                case measure => simp [intOf] <;> omega
              · have M := Lib.hid m
                clear m
                go_wp2_with (refine HW.out.mono ?_; rintro e w3 ⟨rfl, hb3⟩)
                have hb4 := hb2.trans (hb3.mono hb2.size)
                go_ret2
                exact HY.out g0 posC _ (.inr (.inl rfl)) M.out hb4
            · have HW := Lib.hid (formal_any g0 wr HG0.out hL2.out)
              rcases hit_cases formC g0 s with ⟨d1, m⟩ | ⟨d1, d2, m⟩ | ⟨d1, d2, m⟩
              · have M := Lib.hid m
                clear m
                go_wp2_with (refine HW.out.mono ?_; rintro e w3 ⟨rfl, hb3⟩)
                have hb4 := hb2.trans (hb3.mono hb2.size)
                go_roundw
                case rel => exact ⟨3, by go_num, by omega, by omega, hb4, Lib.hid ⟨fun _ => hno.out.1 (by omega), fun _ => hno.out.2.1 (by omega), fun _ => M.out⟩⟩
                case measure => simp [intOf] <;> omega
              · have M := Lib.hid m
                clear m
                go_wp2_with (refine HW.out.mono ?_; rintro e w3 ⟨rfl, hb3⟩)
                have hb4 := hb2.trans (hb3.mono hb2.size)
                go_roundw
                case rel => exact ⟨3, by go_num, by omega, by omega, hb4, Lib.hid ⟨fun _ => hno.out.1 (by omega), fun _ => hno.out.2.1 (by omega), fun _ => M.out⟩⟩
                case measure => simp [intOf] <;> omega
              · have M := Lib.hid m
                clear m
                go_wp2_with (refine HW.out.mono ?_; rintro e w3 ⟨rfl, hb3⟩)
                have hb4 := hb2.trans (hb3.mono hb2.size)
                go_ret2
                exact HY.out g0 formC _ (.inr (.inr rfl)) M.out hb4
          · have hj3' : j = 3 := by omega
            subst hj3'
            have hm : missB g0 s := ⟨hno.out.1 (by omega), hno.out.2.1 (by omega), hno.out.2.2 (by omega)⟩
            have HM := Lib.hid hm
            clear hm hj3
            go_wp2
            go_roundw
            case rel => exact ⟨1, by go_num, by omega, by omega, hb2, Lib.hid ⟨fun _ => HM.out, fun h => absurd h (by omega)⟩⟩
            case measure => simp [intOf] <;> omega
      · clear hi2
        go_wp2
        go_loopw [7, 8, 9, 19] (fun _ _ _ jv wr => ∃ j : Int, jv = .int .i64 j ∧ 0 ≤ j ∧ j ≤ 3 ∧ Below w.heap.size w wr ∧ Hid ((0 < j → hitB kanjiC g1 s = false) ∧ (1 < j → hitB posC g1 s = false) ∧ (2 < j → hitB formC g1 s = false))) (fun _ _ _ jv _ => 3 - (intOf jv).toNat)
        case atStart => exact ⟨0, rfl, by omega, by omega, hb, Lib.hid ⟨fun h => absurd h (by omega), fun h => absurd h (by omega), fun h => absurd h (by omega)⟩⟩
        case round =>
          obtain ⟨j, rfl, hj0, hj, hb2, hno⟩ := hrel
          by_cases hj3 : j < 3
          · have hjc : j = 0 ∨ j = 1 ∨ j = 2 := by omega
            have hL2 := Lib.hid (hL.next hb2)
            rcases hjc with rfl | rfl | rfl
            · have HW := Lib.hid (kanji_any g1 wr HG1.out hL2.out)
              rcases hit_cases kanjiC g1 s with ⟨d1, m⟩ | ⟨d1, d2, m⟩ | ⟨d1, d2, m⟩
              · have M := Lib.hid m
                clear m
                go_wp2_with (refine HW.out.mono ?_; rintro e w3 ⟨rfl, hb3⟩)
                have hb4 := hb2.trans (hb3.mono hb2.size)
                go_roundw
                case rel => exact ⟨1, by go_num, by omega, by omega, hb4, Lib.hid ⟨fun _ => M.out, fun h => absurd h (by omega), fun h => absurd h (by omega)⟩⟩
                case measure => simp [intOf] <;> omega
              · have M := Lib.hid m
                clear m
                go_wp2_with (refine HW.out.mono ?_; rintro e w3 ⟨rfl, hb3⟩)
                have hb4 := hb2.trans (hb3.mono hb2.size)
                go_roundw
                case rel => exact ⟨1, by go_num, by omega, by omega, hb4, Lib.hid ⟨fun _ => M.out, fun h => absurd h (by omega), fun h => absurd h (by omega)⟩⟩
                case measure => simp [intOf] <;> omega
              · have M := Lib.hid m
                clear m
                go_wp2_with (refine HW.out.mono ?_; rintro e w3 ⟨rfl, hb3⟩)
                have hb4 := hb2.trans (hb3.mono hb2.size)
                go_ret2
                exact HY.out g1 kanjiC _ (.inl rfl) M.out hb4
            · have HW := Lib.hid (pos_any g1 wr HG1.out hL2.out)
              rcases hit_cases posC g1 s with ⟨d1, m⟩ | ⟨d1, d2, m⟩ | ⟨d1, d2, m⟩
              · have M := Lib.hid m
                clear m
                go_wp2_with (refine HW.out.mono ?_; rintro e w3 ⟨rfl, hb3⟩)
                have hb4 := hb2.trans (hb3.mono hb2.size)
                go_roundw
                case rel => exact ⟨2, by go_num, by omega, by omega, hb4, Lib.hid ⟨fun _ => hno.out.1 (by omega), fun _ => M.out, fun h => absurd h (by omega)⟩⟩
                case measure => simp [intOf] <;> omega
              · have M := Lib.hid m
                clear m
                go_wp2_with (refine HW.out.mono ?_; rintro e w3 ⟨rfl, hb3⟩)
                have hb4 := hb2.trans (hb3.mono hb2.size)
                go_roundw
                case rel => exact ⟨2, by go_num, by omega, by omega, hb4, Lib.hid ⟨fun _ => hno.out.1 (by omega), fun _ => M.out, fun h => absurd h (by omega)⟩⟩
                case measure => simp [intOf] <;> omega
              · have M := Lib.hid m
                clear m
                go_wp2_with (refine HW.out.mono ?_; rintro e w3 ⟨rfl, hb3⟩)
                have hb4 := hb2.trans (hb3.mono hb2.size)
                go_ret2
                exact HY.out g1 posC _ (.inr (.inl rfl)) M.out hb4
            · have HW := Lib.hid (formal_any g1 wr HG1.out hL2.out)
              rcases hit_cases formC g1 s with ⟨d1, m⟩ | ⟨d1, d2, m⟩ | ⟨d1, d2, m⟩
              · have M := Lib.hid m
                clear m
                go_wp2_with (refine HW.out.mono ?_; rintro e w3 ⟨rfl, hb3⟩)
                have hb4 := hb2.trans (hb3.mono hb2.size)
                go_roundw
                case rel => exact ⟨3, by go_num, by omega, by omega, hb4, Lib.hid ⟨fun _ => hno.out.1 (by omega), fun _ => hno.out.2.1 (by omega), fun _ => M.out⟩⟩
                case measure => simp [intOf] <;> omega
              · have M := Lib.hid m
                clear m
                go_wp2_with (refine HW.out.mono ?_; rintro e w3 ⟨rfl, hb3⟩)
                have hb4 := hb2.trans (hb3.mono hb2.size)
                go_roundw
                case rel => exact ⟨3, by go_num, by omega, by omega, hb4, Lib.hid ⟨fun _ => hno.out.1 (by omega), fun _ => hno.out.2.1 (by omega), fun _ => M.out⟩⟩
                case measure => simp [intOf] <;> omega
              · have M := Lib.hid m
                clear m
                go_wp2_with (refine HW.out.mono ?_; rintro e w3 ⟨rfl, hb3⟩)
                have hb4 := hb2.trans (hb3.mono hb2.size)
                go_ret2
                exact HY.out g1 formC _ (.inr (.inr rfl)) M.out hb4
          · have hj3' : j = 3 := by omega
            subst hj3'
            have hm : missB g1 s := ⟨hno.out.1 (by omega), hno.out.2.1 (by omega), hno.out.2.2 (by omega)⟩
            have HM := Lib.hid hm
            clear hm hj3
            go_wp2
            go_roundw
            case rel => exact ⟨2, by go_num, by omega, by omega, hb2, Lib.hid ⟨fun _ => hmiss.out.1 (by omega), fun _ => HM.out⟩⟩
            case measure => simp [intOf] <;> omega
    · have hi2' : i = 2 := by omega
      subst hi2'
      have hpost := fun w' hb => HP.out w' (hmiss.out.1 (by omega)) (hmiss.out.2 (by omega)) hb
      have HQ := Lib.hid hpost
      clear hpost hi2
      go_wp2
      go_ret2
      exact HQ.out _ hb

end Go.Proofs.YteelmjmiankflaaGreatDoor.Num

set_option linter.unusedVariables false
set_option linter.unusedSimpArgs false
namespace Go.Proofs.YteelmjmiankflaaGreatDoor.Num
open Go Go.RowKit Go.Proofs.YteelmjmiankflaaGreatDoor.Kit Go.Proofs.YteelmjmiankflaaGreatDoor.Utf

/-- A writer at a string of which the result is known. -/
theorem writer_at {F : FuncId} {f : List Nat → List Int} (hF : Writer F f) (s o : ByteArray) (b : Bool) (hs : s.size ≤ maxLen) (h1 : wOut f s = o) (h2 : isDec s = b) (w : World) (hL : Laid w) :
    Calls Tryz.prog F #[.string s] w fun e w' => e = .returned (.tuple #[.string o, .bool b]) ∧ Below w.heap.size w w' := by
  have := hF s w hs hL
  rw [h1, h2] at this
  exact this

theorem parse_is (s d : ByteArray) (hs : s.size ≤ 140737488355000) (h : WrS s d) (w : World) (hL : Laid w) :
    Calls Tryz.prog 47 #[.string s] w fun e w' => e = .returned (.tuple #[.string d, .bool true]) ∧ Below w.heap.size w w' := by
  refine (parse_any s w hs hL).mono ?_
  rintro e w' ⟨h1, hb⟩
  refine ⟨?_, hb⟩
  rcases h1 with ⟨d', h2, h3⟩ | ⟨h2, h3⟩
  · rw [h3, h2.unique h]
  · exact absurd h (h2 d)
theorem parse_not (s : ByteArray) (hs : s.size ≤ 140737488355000) (h0 : missB (rdOut readE s) s) (h1 : missB (rdOut readU s) s) (w : World) (hL : Laid w) :
    Calls Tryz.prog 47 #[.string s] w fun e w' => e = .returned (.tuple #[.string { data := #[] }, .bool false]) ∧ Below w.heap.size w w' := by
  refine (parse_any s w hs hL).mono ?_
  rintro e w' ⟨h2, hb⟩
  refine ⟨?_, hb⟩
  rcases h2 with ⟨d', h2, h3⟩ | ⟨h2, h3⟩
  · rcases h2.read with h | h
    · subst h; exact absurd h2 (miss_no h0)
    · subst h; exact absurd h2 (miss_no h1)
  · exact h3

end Go.Proofs.YteelmjmiankflaaGreatDoor.Num

set_option linter.unusedVariables false
set_option linter.unusedSimpArgs false
namespace Go.Proofs.YteelmjmiankflaaGreatDoor.Num
open Go Go.RowKit Go.Proofs.YteelmjmiankflaaGreatDoor.Kit Go.Proofs.YteelmjmiankflaaGreatDoor.Utf

theorem tenth : ∀ r : Nat, r ≤ 9 → (({ data := #[48, 49, 50, 51, 52, 53, 54, 55, 56, 57] } : ByteArray).extract r (r + 1)) = dg [r] := by decide

theorem cut_digit (r : Nat) (h : r ≤ 9) (k k' : IntKind) (x y : Int) (hx : x = r) (hy : y = (r : Int) + 1) (w : World) :
    (Instr.slice 9 (.string { data := #[48, 49, 50, 51, 52, 53, 54, 55, 56, 57] }) (some (.int k x)) (some (.int k' y)) none).run Tryz.prog w = .ok (.string (dg [r])) w := by
  subst hx hy
  have e1 : ((r : Int)).toNat = r := by omega
  have e2 : ((r : Int) + 1).toNat = r + 1 := by omega
  rw [run_slice_string_if w 9 _ k k' _ _ Tryz.underlying9, e1, e2, tenth r h]
  have hsz : (({ data := #[48, 49, 50, 51, 52, 53, 54, 55, 56, 57] } : ByteArray).size : Int) = 10 := rfl
  rw [if_pos (by rw [hsz]; omega), if_pos (by omega)]

theorem dg_one (r : Nat) (h : r ≤ 9) : dg [r] = tx [48 + (r : Int)] := by
  rw [dg_tx _ (by intro d hd; rw [List.mem_singleton.1 hd]; exact h)]; rfl
theorem dg_append (a b : List Nat) : dg a ++ dg b = dg (a ++ b) := by
  apply ba_ext
  show (dg a ++ dg b).data.toList = bs (dg (a ++ b))
  rw [bs_dg, ByteArray.data_append, Array.toList_append, List.map_append]
  show bs (dg a) ++ bs (dg b) = _
  rw [bs_dg, bs_dg]

/-- What number returns: some decimal digits. -/
def NumPost (w : World) (e : Ending) (w' : World) : Prop := ∃ ds, DS ds ∧ e = .returned (.string (dg ds)) ∧ Below w.heap.size w w'

theorem dg_head {ds : List Nat} (h9 : ∀ d ∈ ds, d ≤ 9) : ((dg ds).toList == ({ data := #[48] } : ByteArray).toList) = decide (ds = [0]) := by
  rw [ByteArray.toList_eq, ByteArray.toList_eq]
  by_cases e : ds = [0]
  · subst e; rfl
  · rw [decide_eq_false e]
    simp only [beq_eq_false_iff_ne]
    intro h
    have h2 : dg ds = dg [0] := ba_ext h
    have := ofDg_dg ds h9
    rw [h2, ofDg_dg [0] (by decide)] at this
    exact e this.symm

/-- What number keeps: nothing yet, or decimal digits. -/
def Sofar (ds : List Nat) (i : Nat) : Prop := ds.length ≤ i ∧ (ds = [] ∨ DS ds)

end Go.Proofs.YteelmjmiankflaaGreatDoor.Num

set_option linter.unusedVariables false
set_option linter.unusedSimpArgs false
namespace Go.Proofs.YteelmjmiankflaaGreatDoor.Num
open Go Go.RowKit Go.Proofs.YteelmjmiankflaaGreatDoor.Kit Go.Proofs.YteelmjmiankflaaGreatDoor.Utf

theorem writer_dg {F : FuncId} {f : List Nat → List Int} (hF : Writer F f) {ds : List Nat} (hd : DS ds) (w : World) (hL : Laid w) :
    Calls Tryz.prog F #[.string (dg ds)] w fun e w' => e = .returned (.tuple #[.string (tx (f ds)), .bool true]) ∧ Below w.heap.size w w' :=
  writer_at hF (dg ds) _ true (by rw [dg_size]; have := hd.2.1; unfold maxLen; omega) (wOut_dg f hd) (isDec_dg hd) w hL

theorem parse_kanji {ds : List Nat} (hd : DS ds) (w : World) (hL : Laid w) : Calls Tryz.prog 47 #[.string (tx (kanjiC ds))] w fun e w' => e = .returned (.tuple #[.string (dg ds), .bool true]) ∧ Below w.heap.size w w' :=
  parse_is _ _ (by have := size_kanji hd; omega) ⟨isDec_dg hd, .inl (wOut_dg _ hd)⟩ w hL
theorem parse_pos {ds : List Nat} (hd : DS ds) (w : World) (hL : Laid w) : Calls Tryz.prog 47 #[.string (tx (posC ds))] w fun e w' => e = .returned (.tuple #[.string (dg ds), .bool true]) ∧ Below w.heap.size w w' :=
  parse_is _ _ (by have := size_pos hd; omega) ⟨isDec_dg hd, .inr (.inl (wOut_dg _ hd))⟩ w hL
theorem parse_form {ds : List Nat} (hd : DS ds) (w : World) (hL : Laid w) : Calls Tryz.prog 47 #[.string (tx (formC ds))] w fun e w' => e = .returned (.tuple #[.string (dg ds), .bool true]) ∧ Below w.heap.size w w' :=
  parse_is _ _ (by have := size_form hd; omega) ⟨isDec_dg hd, .inr (.inr (wOut_dg _ hd))⟩ w hL

theorem wf_u8 {n : Int} (h : (Lit.int .u8 n).wf = true) : 0 ≤ n ∧ n ≤ 255 := by
  simp [Lit.wf, IntKind.min, IntKind.max, IntKind.signed, IntKind.bits] at h; omega

theorem same_toList (s : ByteArray) : (s.toList == s.toList) = true := by simp

end Go.Proofs.YteelmjmiankflaaGreatDoor.Num

set_option linter.unusedVariables false
set_option linter.unusedSimpArgs false
namespace Go.Proofs.YteelmjmiankflaaGreatDoor.Num
open Go Go.RowKit Go.Proofs.YteelmjmiankflaaGreatDoor.Kit Go.Proofs.YteelmjmiankflaaGreatDoor.Utf

theorem rdigits_any (s : ByteArray) (w : World) (hs : s.size ≤ maxLen) :
    Calls Tryz.prog 104 #[.string s] w fun e w' => e = .returned (.bool (isDec s)) ∧ w = w' := by
  unfold maxLen at hs
  have HS : Hid (s.size ≤ 2 ^ 63 - 1) := Lib.hid hs
  go_enter Tryz.func104, Tryz.ntmps104
  go_wp2
  go_loopw [3] (fun iv wr => ∃ i : Nat, iv = .int .i64 i ∧ i ≤ s.size ∧ Hid (∀ j (h : j < s.size), j < i → 48 ≤ (s[j]'h).toNat ∧ (s[j]'h).toNat ≤ 57) ∧ wr = w) (fun iv _ => s.size - (intOf iv).toNat)
  case atStart => exact ⟨0, rfl, Nat.zero_le _, Lib.hid (fun j _ h => absurd h (Nat.not_lt_zero j)), rfl⟩
  case round =>
    obtain ⟨i, rfl, hi, hall, rfl⟩ := hrel
    by_cases hp : i < s.size
    · by_cases hr : 48 ≤ (s[i]'hp).toNat ∧ (s[i]'hp).toNat ≤ 57
      · have hall2 := Lib.hid (show ∀ j (h : j < s.size), j < i + 1 → 48 ≤ (s[j]'h).toNat ∧ (s[j]'h).toNat ≤ 57 from fun j h hj => by
          by_cases e : j = i
          · subst e; exact hr
          · exact hall.out j h (by omega))
        have hr1 := hr.1
        have hr2 := hr.2
        clear hr hall
        go_wp2
        go_roundw
        case rel => exact ⟨i + 1, by go_num, by omega, hall2, trivial⟩
        case measure => simp [intOf] <;> omega
      · have hv := Lib.hid (isDec_byte hp hr)
        have hc : (s[i]'hp).toNat < 48 ∨ 57 < (s[i]'hp).toNat := by omega
        clear hr hall
        rcases hc with hc | hc
        · go_wp2
          go_ret
          exact ⟨by rw [hv.out]; rfl, rfl⟩
        · go_wp2
          go_ret
          exact ⟨by rw [hv.out]; rfl, rfl⟩
    · by_cases h0 : s.size = 0
      · have hv := Lib.hid (isDec_empty h0)
        have z1 : decide ((1 : Int) ≤ s.size) = false := by simp; omega
        clear h0 hall
        go_wp2
        go_ret
        exact ⟨by rw [hv.out]; rfl, rfl⟩
      · have hp0 : 0 < s.size := by omega
        have z1 : decide ((1 : Int) ≤ s.size) = true := by simp; omega
        by_cases h20 : 20 < s.size
        · have hv := Lib.hid (isDec_len h20)
          have z2 : decide ((s.size : Int) ≤ 20) = false := by simp; omega
          clear hall
          go_wp2
          go_ret
          exact ⟨by rw [hv.out]; rfl, rfl⟩
        · have z2 : decide ((s.size : Int) ≤ 20) = true := by simp; omega
          by_cases hb : (s[0]'hp0).toNat = 48
          · have b1 : (((s[0]'hp0).toNat : Int) != 48) = false := by simp [hb]
            by_cases h1 : s.size = 1
            · have hv := Lib.hid (isDec_all hp0 (by omega) (.inl h1) (fun j h => hall.out j h (by omega)))
              have z3 : ((s.size : Int) == 1) = true := by simp; omega
              clear hall hb h1
              go_wp2
              go_ret
              exact ⟨by rw [hv.out]; rfl, rfl⟩
            · have hv := Lib.hid (isDec_lead hp0 (by omega) (by apply UInt8.toNat_inj.1; rw [hb]; rfl))
              have z3 : ((s.size : Int) == 1) = false := by simp; omega
              clear hall hb h1
              go_wp2
              go_ret
              exact ⟨by rw [hv.out]; rfl, rfl⟩
          · have b1 : (((s[0]'hp0).toNat : Int) != 48) = true := by simp; omega
            have hv := Lib.hid (isDec_all hp0 (by omega) (.inr (fun e => hb (by rw [e]; rfl))) (fun j h => hall.out j h (by omega)))
            clear hall hb
            go_wp2
            go_ret
            exact ⟨by rw [hv.out]; rfl, rfl⟩

/-- The strings of a list of the reference's. -/
def strs (l : List (List UInt8)) : Array Value := (l.map fun b => Value.string ⟨b.toArray⟩).toArray
theorem strs_get {l : List (List UInt8)} {i : Nat} {b : List UInt8} (h : l[i]? = some b) : (strs l)[i]? = some (.string ⟨b.toArray⟩) := by
  unfold strs; simp [h]

/-- A list in memory: a block of strings. -/
def AtStrs (w : World) (g : Nat) (l : List (List UInt8)) : Prop := w.heap[g]? = some (.cells (strs l) 9 (0, 0))
theorem AtStrs.cell {w : World} {g : Nat} {l : List (List UInt8)} (h : AtStrs w g l) {i : Nat} {b : List UInt8} (hb : l[i]? = some b) : w.cell? ⟨g, i, none⟩ = some (.string ⟨b.toArray⟩) := by
  rw [cell_of_row w g i _ _ _ h]; exact strs_get hb
theorem AtStrs.below {w w' : World} {B g : Nat} {l : List (List UInt8)} (h : AtStrs w g l) (hb : Below B w w') (hg : g < B) : AtStrs w' g l := by
  unfold AtStrs; rw [hb.block g hg]; exact h
theorem AtStrs.lt {w : World} {g : Nat} {l : List (List UInt8)} (h : AtStrs w g l) : g < w.heap.size := (Array.getElem?_eq_some_iff.1 h).1

/-- What a function that makes a list returns. -/
def Lists (F : FuncId) (n : Nat) (l : List (List UInt8)) : Prop :=
  ∀ w : World, Calls Tryz.prog F #[] w fun e w' => e = .returned (.slice (some ⟨w.heap.size, 0, none⟩) n n) ∧ AtStrs w' w.heap.size l ∧ Below w.heap.size w w'

def lPd : List (List UInt8) := (List.range 10).map fun i => encs [pd i]
def lFd : List (List UInt8) := (List.range 10).map fun i => encs [fd i]
def lPu : List (List UInt8) := (List.range 4).map fun i => encs (pu i)
def lFu : List (List UInt8) := (List.range 4).map fun i => encs (fu i)
def lGu : List (List UInt8) := (List.range 5).map fun i => encs (gu i)
theorem range_get (n : Nat) (f : Nat → List UInt8) (i : Nat) (hi : i < n) : ((List.range n).map f)[i]? = some (f i) := by
  rw [List.getElem?_map, List.getElem?_range hi]; rfl

theorem plain_any : Lists 103 10 lPd := by
  intro w
  have h0 : AtStrs (w.alloc (.cells #[.string { data := #[227, 128, 135] }, .string { data := #[228, 184, 128] }, .string { data := #[228, 186, 140] }, .string { data := #[228, 184, 137] }, .string { data := #[229, 155, 155] }, .string { data := #[228, 186, 148] }, .string { data := #[229, 133, 173] }, .string { data := #[228, 184, 131] }, .string { data := #[229, 133, 171] }, .string { data := #[228, 185, 157] }] 9)) w.heap.size lPd := (heap_last w _).trans (congrArg (fun a => some (Obj.cells a 9 (0, 0))) (by kernel_rfl))
  have H := Lib.hid h0; clear h0
  go_enter Tryz.func103, Tryz.ntmps103
  go_wp2
  go_ret
  exact ⟨rfl, H.out, (Below.refl _ w).alloc (Nat.le_refl _) _⟩
theorem rformal_any : Lists 106 10 lFd := by
  intro w
  have h0 : AtStrs (w.alloc (.cells #[.string { data := #[233, 155, 182] }, .string { data := #[229, 163, 177] }, .string { data := #[229, 188, 144] }, .string { data := #[229, 143, 130] }, .string { data := #[229, 155, 155] }, .string { data := #[228, 186, 148] }, .string { data := #[229, 133, 173] }, .string { data := #[228, 184, 131] }, .string { data := #[229, 133, 171] }, .string { data := #[228, 185, 157] }] 9)) w.heap.size lFd := (heap_last w _).trans (congrArg (fun a => some (Obj.cells a 9 (0, 0))) (by kernel_rfl))
  have H := Lib.hid h0; clear h0
  go_enter Tryz.func106, Tryz.ntmps106
  go_wp2
  go_ret
  exact ⟨rfl, H.out, (Below.refl _ w).alloc (Nat.le_refl _) _⟩
theorem units_any : Lists 105 5 lGu := by
  intro w
  have h0 : AtStrs (w.alloc (.cells #[.string { data := #[] }, .string { data := #[228, 184, 135] }, .string { data := #[229, 132, 132] }, .string { data := #[229, 133, 134] }, .string { data := #[228, 186, 172] }] 9)) w.heap.size lGu := (heap_last w _).trans (congrArg (fun a => some (Obj.cells a 9 (0, 0))) (by kernel_rfl))
  have H := Lib.hid h0; clear h0
  go_enter Tryz.func105, Tryz.ntmps105
  go_wp2
  go_ret
  exact ⟨rfl, H.out, (Below.refl _ w).alloc (Nat.le_refl _) _⟩

end Go.Proofs.YteelmjmiankflaaGreatDoor.Num

set_option linter.unusedVariables false
set_option linter.unusedSimpArgs false
namespace Go.Proofs.YteelmjmiankflaaGreatDoor.Num
open Go Go.RowKit Go.Proofs.YteelmjmiankflaaGreatDoor.Kit Go.Proofs.YteelmjmiankflaaGreatDoor.Utf

theorem uo_zero (h : Nat → Nat → List Int) (b : Bool) (a : Nat) (h4 : a % 4 ≠ 0) : uo h b 0 a = [] := by unfold uo; simp [h4]

theorem written_good (h D : Nat → Nat → List Int) (P U : Nat → List Int) (ones : Bool)
    (hh : ∀ d u, 1 ≤ d → d ≤ 9 → u ≤ 3 → h d u = (if 1 < d ∨ ones = true ∨ u = 0 then P d else []) ++ U u)
    (lP : ∀ d, d ≤ 9 → (encs (P d)).length ≤ 3) (lU : ∀ u, u ≤ 3 → (encs (U u)).length ≤ 3)
    (ds : List Nat) (s : ByteArray) (hd : DS ds) (hs : s = dg ds) (hnz : ds ≠ [0]) (g1 g2 : Nat) (w : World)
    (c1 : ∀ d, d < 10 → w.cell? ⟨g1, d, none⟩ = some (.string (tx (P d)))) (c2 : ∀ u, u < 4 → w.cell? ⟨g2, u, none⟩ = some (.string (tx (U u)))) (hg1 : g1 < w.heap.size) (hg2 : g2 < w.heap.size) :
    Calls Tryz.prog 109 #[.string s, .slice (some ⟨g1, 0, none⟩) 10 10, .slice (some ⟨g2, 0, none⟩) 4 4, .bool ones] w fun e w' => e = .returned (.string (tx (units h false ds))) ∧ Below w.heap.size w w' := by
  have hsz : s.size = ds.length := by rw [hs, dg_size]
  have hn20 := hd.2.1
  have HD := Lib.hid hd
  have HS := Lib.hid hs
  have ne : (s.toList == [48]) = false := by
    have := dg_head hd.2.2.1
    rw [ByteArray.toList_eq (bs := { data := #[48] })] at this
    rw [hs, show ((dg ds).toList == [48]) = _ from this]
    simpa using hnz
  have HNE := Lib.hid ne
  clear hd hs hnz ne
  have lh : ∀ d u, 1 ≤ d → d ≤ 9 → u ≤ 3 → (encs (h d u)).length ≤ 6 := fun d u h1 h9 h3 => by
    rw [hh d u h1 h9 h3, encs_append, List.length_append]
    have a1 := lP d h9
    have a2 := lU u h3
    have h0 : (encs ([] : List Int)).length = 0 := rfl
    split <;> omega
  have HH := Lib.hid hh; have HP := Lib.hid lP; have HU := Lib.hid lU; have HLH := Lib.hid lh
  have H1 := Lib.hid c1; have H2 := Lib.hid c2
  clear hh lP lU lh c1 c2
  obtain ⟨n, hn⟩ : ∃ n, ds.length = n := ⟨_, rfl⟩
  rw [hn] at hsz hn20
  have HN := Lib.hid hn; clear hn
  have HSZ := Lib.hid hsz; clear hsz
  have ne := HNE.out
  go_enter Tryz.func109, Tryz.ntmps109
  go_wp2
  clear ne
  go_loopw [9, 10, 11, 12, 13] (fun ov bv iv _ _ wr => ∃ (k : Nat) (b : Bool) (acc : List Int), iv = .int .i64 k ∧ bv = .bool b ∧ ov = .string (tx acc) ∧ k ≤ n ∧ Below w.heap.size w wr ∧ (encs acc).length ≤ 9 * k ∧ Hid (acc ++ units h b (ds.drop k) = units h false ds)) (fun _ _ iv _ _ _ => n - (intOf iv).toNat)
  case atStart => exact ⟨0, false, [], rfl, rfl, rfl, Nat.zero_le _, Below.refl _ _, by simp [encs], Lib.hid (by rw [List.drop_zero, List.nil_append])⟩
  case round =>
    obtain ⟨k, b, acc, rfl, rfl, rfl, hk, hb, hacc, heq⟩ := hrel
    by_cases hkn : k < n
    · have hp : k < s.size := by rw [HSZ.out]; exact hkn
      have hkd : k < ds.length := by rw [HN.out]; exact hkn
      have hby : (s[k]'hp).toNat = 48 + ds[k] := by
        have := HS.out
        subst this
        exact dg_byte ds k hkd HD.out.2.2.1 hp
      have hd9 : ds[k] ≤ 9 := HD.out.2.2.1 _ (List.getElem_mem hkd)
      have hcons : ds.drop k = ds[k] :: ds.drop (k + 1) := List.drop_eq_getElem_cons hkd
      have hdl : (ds.drop (k + 1)).length = n - 1 - k := by rw [List.length_drop, HN.out]; omega
      obtain ⟨d, hdd⟩ : ∃ d, ds[k] = d := ⟨_, rfl⟩
      rw [hdd] at hby hd9 hcons
      have heq2 : (acc ++ uo h b d (n - 1 - k)) ++ units h (un b d (n - 1 - k)) (ds.drop (k + 1)) = units h false ds := by
        rw [← heq.out, hcons, units_cons, hdl, List.append_assoc]
      obtain ⟨c, hc⟩ : ∃ c : Int, ((s[k]'hp).toNat : Int) = c := ⟨_, rfl⟩
      have hc1 : 48 ≤ c := by omega
      have hc2 : c ≤ 57 := by omega
      have hcd : c - 48 = (d : Int) := by omega
      have hs20 : s.size ≤ 20 := by rw [HSZ.out]; exact hn20
      obtain ⟨a, ha⟩ : ∃ a, n - 1 - k = a := ⟨_, rfl⟩
      have hya : ((s.size : Int) - 1 - (k : Int)) = (a : Int) := by rw [HSZ.out]; omega
      have ha19 : a ≤ 19 := by omega
      rw [ha] at heq2
      have HQ := Lib.hid heq2
      clear heq2 heq hcons hdl hdd hby hkd ha
      have hacc2 : (encs acc).length ≤ 200 := by omega
      have C1 : wr.cell? ⟨g1, d, none⟩ = some (.string (tx (P d))) := by rw [hb.cell (p := ⟨g1, d, none⟩) hg1]; exact H1.out d (by omega)
      have C2 : wr.cell? ⟨g2, a % 4, none⟩ = some (.string (tx (U (a % 4)))) := by rw [hb.cell (p := ⟨g2, a % 4, none⟩) hg2]; exact H2.out _ (by omega)
      have hpl := HP.out d hd9
      have hul := HU.out (a % 4) (by omega)
      have hgl := len_gu (a / 4) (by omega)
      have hi1 : (d : Int) < 10 := by omega
      have m1 : ((a : Int) % 4) < 4 := by omega
      by_cases hd0 : d = 0
      · subst hd0
        by_cases ha4 : a % 4 = 0
        · have t4 : (((a : Int) % 4) == 0) = true := by simp; omega
          cases b with
          | false =>
            have HE := Lib.hid (show acc ++ uo h false 0 a = acc by unfold uo; simp)
            have HN2 := Lib.hid (show un false 0 a = false by unfold un; rw [if_pos ha4])
            clear ha4
            go_wp2
            go_roundw
            case rel => exact ⟨k + 1, false, acc, by go_num, rfl, rfl, by omega, hb, by omega, Lib.hid (by have := HQ.out; rw [HE.out, HN2.out] at this; exact this)⟩
            case measure => simp [intOf] <;> omega
          | true =>
            obtain ⟨A1, hA1⟩ : ∃ A, acc ++ gu (a / 4) = A := ⟨_, rfl⟩
            have l1 : (encs A1).length ≤ 9 * (k + 1) := by rw [← hA1, encs_append, List.length_append]; omega
            have s1 := add_tx acc (gu (a / 4)) (by omega)
            rw [hA1] at s1
            have HE := Lib.hid (show acc ++ uo h true 0 a = A1 by rw [← hA1]; unfold uo; simp [ha4])
            have HN2 := Lib.hid (show un true 0 a = false by unfold un; rw [if_pos ha4])
            clear ha4 hA1
            go_wp2_with (go_at_call 105; refine (units_any _).mono ?_; rintro e w2 ⟨rfl, hat, hbu⟩; have cgu : w2.cell? ⟨wr.heap.size, a / 4, none⟩ = some (.string (tx (gu (a / 4)))) := hat.cell (range_get 5 _ (a / 4) (by omega)); clear hat)
            have hb2 := hb.trans (hbu.mono hb.size)
            go_roundw
            case rel => exact ⟨k + 1, false, A1, by go_num, rfl, rfl, by omega, hb2, l1, Lib.hid (by have := HQ.out; rw [HE.out, HN2.out] at this; exact this)⟩
            case measure => simp [intOf] <;> omega
        · have t4 : (((a : Int) % 4) == 0) = false := by simp; omega
          have HE := Lib.hid (show acc ++ uo h b 0 a = acc by rw [uo_zero h b a ha4, List.append_nil])
          have HN2 := Lib.hid (show un b 0 a = b by unfold un; rw [if_neg ha4]; cases b <;> rfl)
          clear ha4
          go_wp2
          go_roundw
          case rel => exact ⟨k + 1, b, acc, by go_num, rfl, rfl, by omega, hb, by omega, Lib.hid (by have := HQ.out; rw [HE.out, HN2.out] at this; exact this)⟩
          case measure => simp [intOf] <;> omega
      · have d1 : 1 ≤ d := by omega
        have dp : decide ((0 : Int) < (d : Int)) = true := by simp; omega
        have hhd := HH.out d (a % 4) d1 hd9 (by omega)
        have hcase : (1 < d ∧ decide ((1 : Int) < (d : Int)) = true) ∨ (d = 1 ∧ decide ((1 : Int) < (d : Int)) = false) := by
          by_cases e : 1 < d
          · left; exact ⟨e, by simp; omega⟩
          · right; exact ⟨by omega, by simp; omega⟩
        by_cases ha4 : a % 4 = 0
        · have t4 : (((a : Int) % 4) == 0) = true := by simp; omega
          rw [if_pos (.inr (.inr ha4))] at hhd
          have HE0 : uo h b d a = (P d ++ U (a % 4)) ++ gu (a / 4) := by unfold uo; rw [if_neg hd0, if_pos ⟨ha4, .inr hd0⟩, hhd]
          have HN2 := Lib.hid (show un b d a = false by unfold un; rw [if_pos ha4])
          obtain ⟨A1, hA1⟩ : ∃ A, acc ++ P d = A := ⟨_, rfl⟩
          obtain ⟨A2, hA2⟩ : ∃ A, A1 ++ U (a % 4) = A := ⟨_, rfl⟩
          obtain ⟨A3, hA3⟩ : ∃ A, A2 ++ gu (a / 4) = A := ⟨_, rfl⟩
          have l1 : (encs A1).length ≤ 9 * k + 3 := by rw [← hA1, encs_append, List.length_append]; omega
          have l2 : (encs A2).length ≤ 9 * k + 6 := by rw [← hA2, encs_append, List.length_append]; omega
          have l3 : (encs A3).length ≤ 9 * (k + 1) := by rw [← hA3, encs_append, List.length_append]; omega
          have s1 := add_tx acc (P d) (by omega)
          have s2 := add_tx A1 (U (a % 4)) (by omega)
          have s3 := add_tx A2 (gu (a / 4)) (by omega)
          rw [hA1] at s1
          rw [hA2] at s2
          rw [hA3] at s3
          have HE := Lib.hid (show acc ++ uo h b d a = A3 by rw [HE0, ← hA3, ← hA2, ← hA1]; simp only [List.append_assoc])
          clear HE0 hA1 hA2 hA3 hhd ha4 hd0
          rcases hcase with ⟨e, f⟩ | ⟨e, f⟩ <;> cases ones <;> clear e
          all_goals
            go_wp2_with (go_at_call 105; refine (units_any _).mono ?_; rintro e w2 ⟨rfl, hat, hbu⟩; have cgu : w2.cell? ⟨wr.heap.size, a / 4, none⟩ = some (.string (tx (gu (a / 4)))) := hat.cell (range_get 5 _ (a / 4) (by omega)); clear hat)
            have hb2 := hb.trans (hbu.mono hb.size)
            go_roundw
            case rel => exact ⟨k + 1, false, A3, by go_num, rfl, rfl, by omega, hb2, l3, Lib.hid (by have := HQ.out; rw [HE.out, HN2.out] at this; exact this)⟩
            case measure => simp [intOf] <;> omega
        · have t4 : (((a : Int) % 4) == 0) = false := by simp; omega
          have HN2 := Lib.hid (show un b d a = true by unfold un; rw [if_neg ha4]; cases b <;> simp [hd0])
          by_cases hyes : 1 < d ∨ ones = true
          · have HE0 : uo h b d a = P d ++ U (a % 4) := by
              unfold uo; rw [if_neg hd0, if_neg (fun e => ha4 e.1), List.append_nil, hhd, if_pos (by rcases hyes with e | e; exact .inl e; exact .inr (.inl e))]
            obtain ⟨A1, hA1⟩ : ∃ A, acc ++ P d = A := ⟨_, rfl⟩
            obtain ⟨A2, hA2⟩ : ∃ A, A1 ++ U (a % 4) = A := ⟨_, rfl⟩
            have l1 : (encs A1).length ≤ 9 * k + 3 := by rw [← hA1, encs_append, List.length_append]; omega
            have l2 : (encs A2).length ≤ 9 * (k + 1) := by rw [← hA2, encs_append, List.length_append]; omega
            have s1 := add_tx acc (P d) (by omega)
            have s2 := add_tx A1 (U (a % 4)) (by omega)
            rw [hA1] at s1
            rw [hA2] at s2
            have HE := Lib.hid (show acc ++ uo h b d a = A2 by rw [HE0, ← hA2, ← hA1]; simp only [List.append_assoc])
            clear HE0 hA1 hA2 hhd ha4 hd0
            rcases hcase with ⟨e, f⟩ | ⟨e, f⟩
            · clear hyes e
              go_wp2
              go_roundw
              case rel => exact ⟨k + 1, true, A2, by go_num, rfl, rfl, by omega, hb, l2, Lib.hid (by have := HQ.out; rw [HE.out, HN2.out] at this; exact this)⟩
              case measure => simp [intOf] <;> omega
            · have ho : ones = true := by rcases hyes with h | h; omega; exact h
              subst ho
              clear hyes e
              go_wp2
              go_roundw
              case rel => exact ⟨k + 1, true, A2, by go_num, rfl, rfl, by omega, hb, l2, Lib.hid (by have := HQ.out; rw [HE.out, HN2.out] at this; exact this)⟩
              case measure => simp [intOf] <;> omega
          · have ho : ones = false := by cases ones <;> simp_all
            have HE0 : uo h b d a = U (a % 4) := by
              unfold uo; rw [if_neg hd0, if_neg (fun e => ha4 e.1), List.append_nil, hhd, if_neg (by rintro (e | e | e); exact hyes (.inl e); exact hyes (.inr e); exact ha4 e)]; rfl
            obtain ⟨A2, hA2⟩ : ∃ A, acc ++ U (a % 4) = A := ⟨_, rfl⟩
            have l2 : (encs A2).length ≤ 9 * (k + 1) := by rw [← hA2, encs_append, List.length_append]; omega
            have s2 := add_tx acc (U (a % 4)) (by omega)
            rw [hA2] at s2
            have HE := Lib.hid (show acc ++ uo h b d a = A2 by rw [HE0, ← hA2])
            have f : decide ((1 : Int) < (d : Int)) = false := by rcases hcase with ⟨e, _⟩ | ⟨_, f⟩; exact absurd (.inl e) hyes; exact f
            subst ho
            clear HE0 hA2 hhd ha4 hd0 hyes hcase
            go_wp2
            go_roundw
            case rel => exact ⟨k + 1, true, A2, by go_num, rfl, rfl, by omega, hb, l2, Lib.hid (by have := HQ.out; rw [HE.out, HN2.out] at this; exact this)⟩
            case measure => simp [intOf] <;> omega
    · have hkn' : k = n := by omega
      subst hkn'
      have hfin : tx acc = tx (units h false ds) := by
        have := heq.out
        rw [List.drop_of_length_le (by rw [HN.out]; omega)] at this
        rw [← this]; show _ = tx (acc ++ []); rw [List.append_nil]
      have HF := Lib.hid hfin
      have hks : ¬ ((k : Int) < (s.size : Int)) := by rw [HSZ.out]; omega
      clear hfin heq hkn
      go_wp2
      go_ret
      exact ⟨by rw [← HF.out]; rfl, hb⟩

end Go.Proofs.YteelmjmiankflaaGreatDoor.Num

set_option linter.unusedVariables false
set_option linter.unusedSimpArgs false
namespace Go.Proofs.YteelmjmiankflaaGreatDoor.Num
open Go Go.RowKit Go.Proofs.YteelmjmiankflaaGreatDoor.Kit Go.Proofs.YteelmjmiankflaaGreatDoor.Utf

theorem apart_tx {a b : List Nat} {ca cb : List Int} (ha : DS a) (hb : DS b) (h : a ≠ b) (h1 : Wr a ca) (h2 : Wr b cb) : ((tx ca).toList == (tx cb).toList) = false :=
  test_f (val_W ha h1) (val_W hb h2) (fun e => h (Num.unique ha hb h1 (e ▸ h2)))

theorem comma_filter (ds : List Nat) (h9 : ∀ d ∈ ds, d ≤ 9) : (commaC ds).filter (· != 44) = ascC ds := by
  unfold commaC ascC
  induction ds with
  | nil => rfl
  | cons d ds ih =>
    unfold eachS
    rw [List.filter_append, ih (fun x hx => h9 x (by simp [hx]))]
    have hd := h9 d (by simp)
    have e : (((48 + (d : Int)) != 44) = true) := by simp; omega
    rw [List.filter_cons, if_pos e]
    split <;> rfl
theorem asc_inj {a b : List Nat} (h : ascC a = ascC b) : a = b := by
  rw [ascC_map, ascC_map] at h
  induction a generalizing b with
  | nil => cases b with
    | nil => rfl
    | cons => simp at h
  | cons x a ih => cases b with
    | nil => simp at h
    | cons y b =>
      simp only [List.map_cons, List.cons.injEq] at h
      rw [ih h.2, show x = y by omega]
theorem comma_inj {a b : List Nat} (ha : DS a) (hb : DS b) (h : commaC a = commaC b) : a = b := by
  have h1 := comma_filter a ha.2.2.1
  rw [h, comma_filter b hb.2.2.1] at h1
  exact (asc_inj h1).symm
theorem val_asc : ∀ d : Nat, d ≤ 9 → ∀ c ∈ [48 + (d : Int), 44], validRune c = true := by decide
theorem val_comma {ds : List Nat} (hd : DS ds) : ∀ c ∈ commaC ds, validRune c = true :=
  eachS_mem (fun _ d a h9 _ c hc => by
    rcases List.mem_cons.1 hc with rfl | hc
    · exact val_asc d h9 _ (by simp)
    · split at hc
      · rw [List.mem_singleton.1 hc]; decide
      · simp at hc) ds false hd.2.2.1 hd.2.1
theorem val_ascC {ds : List Nat} (hd : DS ds) : ∀ c ∈ ascC ds, validRune c = true :=
  eachS_mem (fun _ d a h9 _ c hc => by rw [List.mem_singleton.1 hc]; exact val_asc d h9 _ (by simp)) ds false hd.2.2.1 hd.2.1
theorem apart_comma {a b : List Nat} (ha : DS a) (hb : DS b) (h : a ≠ b) : ((tx (commaC a)).toList == (tx (commaC b)).toList) = false :=
  test_f (val_comma ha) (val_comma hb) (fun e => h (comma_inj ha hb e))
theorem apart_dg {a b : List Nat} (ha : DS a) (hb : DS b) (h : a ≠ b) : ((dg a).toList == (dg b).toList) = false := by
  rw [dg_tx a ha.2.2.1, dg_tx b hb.2.2.1]
  exact test_f (val_ascC ha) (val_ascC hb) (fun e => h (asc_inj e))

end Go.Proofs.YteelmjmiankflaaGreatDoor.Num

set_option linter.unusedVariables false
set_option linter.unusedSimpArgs false
namespace Go.Proofs.YteelmjmiankflaaGreatDoor.Num
open Go Go.RowKit Go.Proofs.YteelmjmiankflaaGreatDoor.Kit Go.Proofs.YteelmjmiankflaaGreatDoor.Utf

theorem enc_ascii {c : Int} (h0 : 0 ≤ c) (h : c < 128) : enc c = [UInt8.ofNat c.toNat] := by
  have : ∀ n : Nat, n < 128 → enc (n : Int) = [UInt8.ofNat n] := by decide
  have h1 := this c.toNat (by omega)
  rw [Int.toNat_of_nonneg h0] at h1
  exact h1
theorem bs_ascii {L : List Int} (h : ∀ c ∈ L, 0 ≤ c ∧ c < 128) : bs (tx L) = L.map fun c => UInt8.ofNat c.toNat := by
  rw [bs_tx]
  induction L with
  | nil => rfl
  | cons c L ih =>
    rw [encs_cons, enc_ascii (h c (by simp)).1 (h c (by simp)).2, ih (fun x hx => h x (by simp [hx]))]; rfl
theorem size_ascii {L : List Int} (h : ∀ c ∈ L, 0 ≤ c ∧ c < 128) : (tx L).size = L.length := by rw [← bs_len, bs_ascii h]; simp
theorem byte_ascii {pre rest : List Int} {c : Int} (h : ∀ x ∈ pre ++ c :: rest, 0 ≤ x ∧ x < 128) (hp : pre.length < (tx (pre ++ c :: rest)).size) : (((tx (pre ++ c :: rest))[pre.length]'hp).toNat : Int) = c := by
  have e1 := bs_get hp
  rw [bs_ascii h] at e1
  simp at e1
  have hc := h c (by simp)
  rw [← e1, toNat_ofNat _ (by omega)]
  omega
theorem cut_ascii {pre rest : List Int} {c : Int} (h : ∀ x ∈ pre ++ c :: rest, 0 ≤ x ∧ x < 128) : (tx (pre ++ c :: rest)).extract pre.length (pre.length + 1) = tx [c] := by
  apply ba_ext
  rw [Lib.extract_data]
  show ((bs (tx (pre ++ c :: rest))).drop pre.length).take (pre.length + 1 - pre.length) = bs (tx [c])
  rw [bs_ascii h, bs_ascii (L := [c]) (fun x hx => by rw [List.mem_singleton.1 hx]; exact h c (by simp))]
  have : pre.length + 1 - pre.length = 1 := by omega
  rw [this, List.map_append, List.drop_append_of_le_length (by simp), List.drop_of_length_le (by simp)]; rfl

/-- How many digits stand behind the last comma when a digits are left. -/
def q3 (a : Nat) : Nat := if a = 0 then 3 else if a % 3 = 0 then 0 else 3 - a % 3
/-- What the law's look at the commas knows ahead of the rest. -/
def Sc (n r : Nat) (first : Bool) (rest : List Int) : Prop :=
  (∃ es : List Nat, rest = commaC es ∧ (∀ d ∈ es, d ≤ 9) ∧ es.length ≤ n ∧ (first = true → r = n - es.length ∧ r ≤ q3 es.length) ∧ (first = false → r = q3 es.length)) ∨
  (∃ es : List Nat, rest = 44 :: commaC es ∧ (∀ d ∈ es, d ≤ 9) ∧ 0 < es.length ∧ es.length ≤ n ∧ es.length % 3 = 0 ∧ 1 ≤ r ∧ r ≤ 3 ∧ (first = false → r = 3))
theorem comma_cons (d : Nat) (es : List Nat) : commaC (d :: es) = (48 + (d : Int)) :: ((if 0 < es.length ∧ es.length % 3 = 0 then [44] else []) ++ commaC es) := rfl
theorem sc_start (ds : List Nat) (h : ∀ d ∈ ds, d ≤ 9) : Sc ds.length 0 true (commaC ds) :=
  .inl ⟨ds, rfl, h, Nat.le_refl _, fun _ => ⟨by omega, Nat.zero_le _⟩, fun h => by cases h⟩
theorem sc_step {n r : Nat} {first : Bool} {c : Int} {rest : List Int} (h : Sc n r first (c :: rest)) :
    (c ≠ 44 ∧ 0 ≤ c ∧ c < 128 ∧ Sc n (r + 1) first rest) ∨ (c = 44 ∧ 1 ≤ r ∧ r ≤ 3 ∧ (first = false → r = 3) ∧ Sc n 0 false rest) := by
  rcases h with ⟨es, he, h9, hn, h1, h2⟩ | ⟨es, he, h9, h0, hn, h3, hr1, hr3, hf⟩
  · left
    match es, he, h9, hn, h1, h2 with
    | [], he, _, _, _, _ => cases he
    | d :: es, he, h9, hn, h1, h2 =>
      rw [comma_cons] at he
      have hc := (List.cons.inj he).1
      have hrest := (List.cons.inj he).2
      have hd := h9 d (by simp)
      simp only [List.length_cons] at hn h1 h2
      refine ⟨by omega, by omega, by omega, ?_⟩
      by_cases hcm : 0 < es.length ∧ es.length % 3 = 0
      · rw [if_pos hcm] at hrest
        refine .inr ⟨es, hrest, fun x hx => h9 x (by simp [hx]), hcm.1, by omega, hcm.2, by omega, ?_, ?_⟩
        · cases first with
          | true => have := (h1 rfl).2; unfold q3 at this; rw [if_neg (by omega), if_neg (by omega)] at this; omega
          | false => have := h2 rfl; unfold q3 at this; rw [if_neg (by omega), if_neg (by omega)] at this; omega
        · intro hf
          have := h2 hf
          unfold q3 at this; rw [if_neg (by omega), if_neg (by omega)] at this; omega
      · rw [if_neg hcm] at hrest
        refine .inl ⟨es, hrest, fun x hx => h9 x (by simp [hx]), by omega, fun hf => ?_, fun hf => ?_⟩
        · obtain ⟨a1, a2⟩ := h1 hf
          refine ⟨by omega, ?_⟩
          unfold q3 at a2 ⊢
          rw [if_neg (by omega)] at a2
          split <;> split at a2 <;> first | omega | (split <;> omega)
        · have a2 := h2 hf
          unfold q3 at a2 ⊢
          rw [if_neg (by omega)] at a2
          split <;> split at a2 <;> first | omega | (split <;> omega)
  · right
    have hc := (List.cons.inj he).1
    have hrest := (List.cons.inj he).2
    refine ⟨hc, hr1, hr3, hf, .inl ⟨es, hrest, h9, hn, (fun h => by cases h), fun _ => ?_⟩⟩
    unfold q3; rw [if_neg (by omega), if_pos h3]
theorem sc_end {n r : Nat} {first : Bool} (hn : 1 ≤ n) (h : Sc n r first []) : 1 ≤ r ∧ r ≤ 3 ∧ (first = false → r = 3) := by
  rcases h with ⟨es, he, h9, hl, h1, h2⟩ | ⟨es, he, _⟩
  · match es, he, hl, h1, h2 with
    | [], he, hl, h1, h2 =>
      cases first with
      | true => have := h1 rfl; simp [q3] at this; exact ⟨by omega, by omega, fun h => by cases h⟩
      | false => have := h2 rfl; simp [q3] at this; exact ⟨by omega, by omega, fun _ => this⟩
    | d :: es, he, _, _, _ => rw [comma_cons] at he; cases he
  · cases he
theorem comma_ascii {ds : List Nat} (h : DS ds) : ∀ c ∈ commaC ds, 0 ≤ c ∧ c < 128 :=
  eachS_mem (P := fun c => 0 ≤ c ∧ c < 128) (fun _ d a h9 _ c hc => by
    rcases List.mem_cons.1 hc with rfl | hc
    · omega
    · split at hc
      · rw [List.mem_singleton.1 hc]; omega
      · simp at hc) ds false h.2.2.1 h.2.1
theorem comma_len {ds : List Nat} (h : DS ds) : (commaC ds).length ≤ 200 := by
  have := eachS_size (out := fun _ d a => (48 + d : Int) :: (if 0 < a ∧ a % 3 = 0 then [44] else [])) (next := fun b _ _ => b) (m := 3) (fun b d a h _ => by
    have h1 := len_asc d h
    have h2 := len_comma d h
    show (encs ((48 + d : Int) :: (if 0 < a ∧ a % 3 = 0 then [44] else []))).length ≤ 3
    split <;> omega) ds false h.2.2.1 h.2.1
  have h20 := h.2.1
  have h3 : (tx (commaC ds)).size = (commaC ds).length := size_ascii (comma_ascii h)
  rw [tx_size] at h3
  unfold commaC at h3 ⊢
  omega
theorem filter_tx {ds : List Nat} (h : DS ds) : tx ((commaC ds).filter (· != 44)) = dg ds := by rw [comma_filter ds h.2.2.1, dg_tx ds h.2.2.1]

end Go.Proofs.YteelmjmiankflaaGreatDoor.Num
