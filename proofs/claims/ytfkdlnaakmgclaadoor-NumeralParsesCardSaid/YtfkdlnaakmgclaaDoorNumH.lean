/-
  Contract of numeral.readEach; what it and readUnits return.
-/
import Derived.Test.YtfkdlnaakmgclaaDoorNumG
set_option linter.unusedVariables false
set_option linter.unusedSimpArgs false
namespace Go.Proofs.YtfkdlnaakmgclaaDoor.Num
open Go Go.RowKit Go.Proofs.YtfkdlnaakmgclaaDoor.Kit Go.Proofs.YtfkdlnaakmgclaaDoor.Utf

/-- What a reading of characters makes of a string. -/
def rdOut (f : List Int → Option (List Nat)) (s : ByteArray) : ByteArray :=
  match chars (bs s) with
  | none => { data := #[] }
  | some cs => match f cs with
    | none => { data := #[] }
    | some ds => dg ds
theorem rdOut_bad {f : List Int → Option (List Nat)} {s : ByteArray} (h : ∀ cs, chars (bs s) = some cs → f cs = none) : rdOut f s = { data := #[] } := by
  unfold rdOut
  cases hc : chars (bs s) with
  | none => rfl
  | some cs => simp only [h cs hc]
theorem rdOut_good {f : List Int → Option (List Nat)} {s : ByteArray} {cs : List Int} {ds : List Nat} (h : chars (bs s) = some cs) (hf : f cs = some ds) : rdOut f s = dg ds := by
  unfold rdOut
  rw [h]
  simp only [hf]

theorem readE_snoc {pre : List Int} {ds : List Nat} {c : Int} {d : Nat} (h : readE pre = some ds) (hd : dgt c = some d) : readE (pre ++ [c]) = some (ds ++ [d]) := by
  induction pre generalizing ds with
  | nil =>
    obtain rfl : [] = ds := Option.some.inj h
    simp [readE, hd]
  | cons a pre ih =>
    simp only [List.cons_append, readE] at h ⊢
    cases ha : dgt a with
    | none => rw [ha] at h; cases h
    | some x =>
      rw [ha] at h
      simp only at h ⊢
      cases hp : readE pre with
      | none => rw [hp] at h; cases h
      | some y =>
        rw [hp] at h
        obtain rfl : x :: y = ds := Option.some.inj h
        rw [ih hp]; rfl
theorem readE_none {pre : List Int} {c : Int} (t : List Int) (hd : dgt c = none) : readE (pre ++ c :: t) = none := by
  induction pre with
  | nil => simp [readE, hd]
  | cons a pre ih =>
    simp only [List.cons_append, readE]
    cases dgt a with
    | none => rfl
    | some x => simp only [ih]; rfl
theorem readE_len {pre : List Int} {ds : List Nat} (h : readE pre = some ds) : ds.length = pre.length := by
  induction pre generalizing ds with
  | nil => obtain rfl : [] = ds := Option.some.inj h; rfl
  | cons a pre ih =>
    simp only [readE] at h
    cases ha : dgt a with
    | none => rw [ha] at h; cases h
    | some x =>
      rw [ha] at h
      simp only at h
      cases hp : readE pre with
      | none => rw [hp] at h; cases h
      | some y =>
        rw [hp] at h
        obtain rfl : x :: y = ds := Option.some.inj h
        simp [ih hp]
theorem dgt_le {c : Int} {d : Nat} (h : dgt c = some d) : d ≤ 9 := by
  unfold dgt at h
  rw [List.find?_range_eq_some] at h
  have : d < 10 := by simpa using h.2.1
  omega
theorem unt_lt {c : Int} {d : Nat} (h : unt c = some d) : d < 4 := by
  unfold unt at h
  rw [List.find?_range_eq_some] at h
  simpa using h.2.1
theorem grp_lt {c : Int} {d : Nat} (h : grp c = some d) : d < 5 := by
  unfold grp at h
  rw [List.find?_range_eq_some] at h
  simpa using h.2.1

theorem bad_mark : validRune 65533 = true ∧ dgt 65533 = none ∧ unt 65533 = none ∧ grp 65533 = none := by decide

theorem rest_of {s : ByteArray} {pre : List Int} {pos : Nat} {c : Int} {n : Nat} (hc : chars (bs s) = (chars ((bs s).drop pos)).map (pre ++ ·)) (hd : dec1 ((bs s).drop pos) = some (c, n)) {cs : List Int} (h : chars (bs s) = some cs) : ∃ t, cs = pre ++ c :: t := by
  rw [hc, chars_step hd] at h
  cases hr : chars (((bs s).drop pos).drop n) with
  | none => rw [hr] at h; cases h
  | some t =>
    rw [hr] at h
    exact ⟨t, (Option.some.inj h).symm⟩

theorem dg_snoc (ds : List Nat) (d : Nat) (h : d ≤ 9) : Lib.byteCells (bs (dg ds)) ++ Lib.strCells (tx [48 + (d : Int)]) = Lib.byteCells (bs (dg (ds ++ [d]))) := by
  rw [tx_cells, encs_cons, dg_enc d h, ← byteCells_append, bs_dg, bs_dg, List.map_append]; rfl
theorem digit_size (d : Nat) (h : d ≤ 9) : (tx [48 + (d : Int)]).size = 1 := by rw [tx_size, encs_cons, dg_enc d h]; rfl

theorem digitOf_some (c : Int) (hc : validRune c = true) (w : World) (hL : Laid w) (d : Nat) (h : dgt c = some d) :
    Calls Tryd.prog 55 #[.int .i32 c] w fun e w' => e = .returned (.tuple #[.int .i64 (d : Nat), .bool true]) ∧ w' = w := by
  have := digitOf_any c hc w hL
  rw [h] at this
  exact this
theorem digitOf_none (c : Int) (hc : validRune c = true) (w : World) (hL : Laid w) (h : dgt c = none) :
    Calls Tryd.prog 55 #[.int .i32 c] w fun e w' => e = .returned (.tuple #[.int .i64 0, .bool false]) ∧ w' = w := by
  have := digitOf_any c hc w hL
  rw [h] at this
  exact this

theorem readEach_any (s : ByteArray) (w : World) (hs : s.size ≤ 140737488355000) (hL : Laid w) :
    Calls Tryd.prog 40 #[.string s] w fun e w' => e = .returned (.string (rdOut readE s)) ∧ Below w.heap.size w w' := by
  have hB0 : Lib.IsBuilderF 51 5 w.heap.size w.heap.size (Lib.byteCells (bs (dg []))) ((w.alloc (.cells #[.pointer none, .slice none 0 0] 51)).iter s 0) := (builder_new 51 5 w w.heap.size rfl).alloc _
  have hit0 : ((w.alloc (.cells #[.pointer none, .slice none 0 0] 51)).iter s 0).heap[w.heap.size + 1]? = some (.stringIter s 0) := by
    have := World.iter_heap (w.alloc (.cells #[.pointer none, .slice none 0 0] 51)) s 0
    rw [show (w.alloc (.cells #[.pointer none, .slice none 0 0] 51)).heap.size = w.heap.size + 1 by simp] at this
    exact this
  have hb0 : Below w.heap.size w ((w.alloc (.cells #[.pointer none, .slice none 0 0] 51)).iter s 0) := ((Below.refl _ w).alloc (Nat.le_refl _) _).alloc (by simp) _
  have hs0 : w.heap.size + 2 ≤ ((w.alloc (.cells #[.pointer none, .slice none 0 0] 51)).iter s 0).heap.size := by simp [World.iter]
  go_enter Tryd.func40, Tryd.ntmps40
  go_wp2
  obtain ⟨b, hbd⟩ : ∃ b, w.heap.size = b := ⟨_, rfl⟩
  have h5 := hL.size
  rw [hbd] at hB0 hit0 hb0 hs0 h5 ⊢
  obtain ⟨W, hW⟩ : ∃ W, (w.alloc (.cells #[.pointer none, .slice none 0 0] 51)).iter s 0 = W := ⟨_, rfl⟩
  rw [hW] at hB0 hit0 hb0 hs0 ⊢
  have HBD := Lib.hid hbd
  clear hW hbd
  go_loopw [5, 6] (fun _ _ wr => ∃ (pos : Nat) (pre : List Int) (ds : List Nat), Lib.IsBuilderF 51 5 b b (Lib.byteCells (bs (dg ds))) wr ∧ wr.heap[b + 1]? = some (.stringIter s pos) ∧ Below b w wr ∧ pos ≤ s.size ∧ pre.length ≤ pos ∧ b + 2 ≤ wr.heap.size ∧ Hid (readE pre = some ds) ∧ Hid (chars (bs s) = (chars ((bs s).drop pos)).map (pre ++ ·))) (fun _ _ wr => s.size - wr.iterPos (b + 1))
  case atStart => exact ⟨0, [], [], hB0, hit0, hb0, Nat.zero_le _, Nat.le_refl _, hs0, Lib.hid rfl, Lib.hid (by rw [List.drop_zero]; exact map_nil _)⟩
  case round =>
    obtain ⟨pos, pre, ds, hBl, hit, hb, hps, hpl, hsw, hre, hch⟩ := hrel
    have hm := iterPos_of hit
    have hdl := readE_len hre.out
    by_cases hp : pos < s.size
    · obtain ⟨c, n, hdec, hv, hn1, hcase⟩ : ∃ (c : Int) (n : Nat), Utf8.decode s pos = (c.toNat, n) ∧ validRune c = true ∧ pos + n ≤ s.size ∧ ((1 ≤ n ∧ dec1 ((bs s).drop pos) = some (c, n)) ∨ (dgt c = none ∧ chars (bs s) = none)) := by
        cases hd : dec1 ((bs s).drop pos) with
        | none => exact ⟨65533, 1, by rw [dec_bad hp hd]; rfl, bad_mark.1, by omega, .inr ⟨bad_mark.2.1, by rw [hch.out, chars_bad (drop_ne hp) hd]; rfl⟩⟩
        | some p =>
          obtain ⟨c, n⟩ := p
          have hdp := dec1_pos hd
          rw [List.length_drop, bs_len] at hdp
          exact ⟨c, n, dec_good hp hd, (dec1_some hd).1, by omega, .inl ⟨hdp.1, rfl⟩⟩
      have hc0 : 0 ≤ c := by have := (valid_iff c).1 hv; omega
      have hnx : ∀ ty, (Instr.next (.pointer (some ⟨b + 1, 0, none⟩)) true ty).run Tryd.prog wr = .ok (.tuple #[.bool true, .int .i64 pos, .int .i32 c]) (wr.iterAt (b + 1) s (pos + n)) := fun ty => by
        have := Lib.run_next_any_at (P := Tryd.prog) wr (b + 1) s pos ty hit hp
        rw [hdec] at this
        simp only [Int.toNat_of_nonneg hc0] at this
        exact this
      have hit4 := Lib.iterAt_heap wr (b + 1) s pos (pos + n) hit
      have hb4 := Lib.below_iterAt hb (k := b + 1) (by omega) s (pos + n)
      have hBl4 := hBl.iterAt hit (pos + n)
      have hsw4 : b + 2 ≤ (wr.iterAt (b + 1) s (pos + n)).heap.size := by rw [Lib.iterAt_size]; exact hsw
      obtain ⟨W4, hW4⟩ : ∃ W4, wr.iterAt (b + 1) s (pos + n) = W4 := ⟨_, rfl⟩
      rw [hW4] at hit4 hb4 hBl4 hsw4
      simp only [hW4] at hnx
      have HL4 := Lib.hid (hL.below hb4 h5)
      have HV := Lib.hid hv
      clear hW4 hdec hb hBl hit hv hsw
      cases hdg : dgt c with
      | none =>
        have hbad : rdOut readE s = { data := #[] } := rdOut_bad fun cs hcs => by
          rcases hcase with ⟨_, hd⟩ | ⟨_, hn⟩
          · obtain ⟨t, rfl⟩ := rest_of hch.out hd hcs
            exact readE_none t hdg
          · rw [hn] at hcs; cases hcs
        have HB := Lib.hid hbad
        have HD := Lib.hid (digitOf_none c HV.out W4 HL4.out hdg)
        clear hbad hcase hdg hdl
        go_wp2_with (go_at_call 55; refine HD.out.mono ?_; rintro e w' ⟨rfl, rfl⟩)
        go_ret
        exact ⟨by rw [HB.out]; rfl, by rw [HBD.out]; exact hb4⟩
      | some d =>
        have hd9 := dgt_le hdg
        rcases hcase with ⟨hn0, hd⟩ | ⟨hn, _⟩
        · have HD := Lib.hid (digitOf_some c HV.out W4 HL4.out d hdg)
          have hre2 := Lib.hid (readE_snoc hre.out hdg)
          have hch2 := Lib.hid (runes_len hch.out hd)
          have hl : (Lib.byteCells (bs (dg ds))).length = ds.length := by rw [Lib.byteCells_length, bs_len, dg_size]
          have HL := Lib.hid hl
          have hds := digit_size d hd9
          have HDS := Lib.hid hds
          have hw : (Lib.byteCells (bs (dg ds))).length + (tx [48 + (d : Int)]).size ≤ 140737488355328 := by rw [hl, hds]; omega
          have hb4s : b ≤ W4.heap.size := by omega
          have HW := Lib.hid (Tryd.writeString b b (Lib.byteCells (bs (dg ds))) (tx [48 + (d : Int)]) W4 hBl4 hw hb4s)
          have HI := Lib.hid (itoa_digit d (d : Int) W4 rfl hd9)
          clear hd hdg hl hds hw hdl
          go_wp2_with (first
            | (go_at_call 55; refine HD.out.mono ?_; rintro e w' ⟨rfl, rfl⟩)
            | (go_at_call 39; refine HI.out.mono ?_; rintro e w' ⟨rfl, rfl⟩)
            | (go_at_call 52; refine HW.out.mono ?_; rintro e w6 ⟨rfl, hA6, hb6, ho6⟩))
          have hit6 := ho6.iter hit4 (by omega)
          have hBl6 : Lib.IsBuilderF 51 5 b b (Lib.byteCells (bs (dg (ds ++ [d])))) w6 := by rw [← dg_snoc ds d hd9]; exact .inr hA6
          have hsz6 : b + 2 ≤ w6.heap.size := by have := hb6.size; omega
          go_roundw
          case rel => exact ⟨pos + n, pre ++ [c], ds ++ [d], hBl6, hit6, hb4.trans hb6, by omega, by simp; omega, hsz6, hre2, hch2⟩
          case measure => rw [iterPos_of hit6, hm]; omega
        · rw [hn] at hdg; cases hdg
    · have hnx : ∀ ty, (Instr.next (.pointer (some ⟨b + 1, 0, none⟩)) true ty).run Tryd.prog wr = _ := fun ty => Lib.run_next_end_at (P := Tryd.prog) wr (b + 1) s pos ty hit hp
      have hall : chars (bs s) = some pre := by
        rw [hch.out, List.drop_of_length_le (by rw [bs_len]; omega), chars_nil]; simp
      have HG := Lib.hid (rdOut_good hall hre.out)
      clear hall hm hp hdl
      go_wp2_with (go_at_call 53; refine (Tryd.Builder_String_any_k b b (bs (dg ds)) _ hBl (by omega)).mono ?_; rintro e w8 ⟨rfl, _, hb8, _⟩)
      go_ret
      exact ⟨by rw [HG.out]; rfl, by rw [HBD.out]; exact hb.trans hb8⟩

end Go.Proofs.YtfkdlnaakmgclaaDoor.Num
