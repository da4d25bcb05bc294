/-
  Contract of numeral.narrow.
-/
import Derived.Test.YtfkdlnaakmgclaaDoorNumP
set_option linter.unusedVariables false
set_option linter.unusedSimpArgs false
namespace Go.Proofs.YtfkdlnaakmgclaaDoor.Num
open Go Go.RowKit Go.Proofs.YtfkdlnaakmgclaaDoor.Kit Go.Proofs.YtfkdlnaakmgclaaDoor.Utf

/-- The digit that a character is, in ASCII or full-width. -/
def wd (c : Int) : Option Nat := if 48 ≤ c ∧ c ≤ 57 then some (c - 48).toNat else if 65296 ≤ c ∧ c ≤ 65305 then some (c - 65296).toNat else none
def readW : List Int → Option (List Nat)
  | [] => some []
  | c :: cs => match wd c with
    | none => none
    | some d => (readW cs).map (d :: ·)
theorem wd_le {c : Int} {d : Nat} (h : wd c = some d) : d ≤ 9 := by
  unfold wd at h
  split at h
  · have := Option.some.inj h; omega
  · split at h
    · have := Option.some.inj h; omega
    · cases h
theorem readW_snoc {pre : List Int} {ds : List Nat} {c : Int} {d : Nat} (h : readW pre = some ds) (hd : wd c = some d) : readW (pre ++ [c]) = some (ds ++ [d]) := by
  induction pre generalizing ds with
  | nil =>
    obtain rfl : [] = ds := Option.some.inj h
    simp [readW, hd]
  | cons a pre ih =>
    simp only [List.cons_append, readW] at h ⊢
    cases ha : wd a with
    | none => rw [ha] at h; cases h
    | some x =>
      rw [ha] at h
      simp only at h ⊢
      cases hp : readW pre with
      | none => rw [hp] at h; cases h
      | some y =>
        rw [hp] at h
        obtain rfl : x :: y = ds := Option.some.inj h
        rw [ih hp]; rfl
theorem readW_none {pre : List Int} {c : Int} (t : List Int) (hd : wd c = none) : readW (pre ++ c :: t) = none := by
  induction pre with
  | nil => simp [readW, hd]
  | cons a pre ih =>
    simp only [List.cons_append, readW]
    cases wd a with
    | none => rfl
    | some x => simp only [ih]; rfl
theorem readW_len {pre : List Int} {ds : List Nat} (h : readW pre = some ds) : ds.length = pre.length := by
  induction pre generalizing ds with
  | nil => obtain rfl : [] = ds := Option.some.inj h; rfl
  | cons a pre ih =>
    simp only [readW] at h
    cases ha : wd a with
    | none => rw [ha] at h; cases h
    | some x =>
      rw [ha] at h
      simp only at h
      cases hp : readW pre with
      | none => rw [hp] at h; cases h
      | some y =>
        rw [hp] at h
        obtain rfl : x :: y = ds := Option.some.inj h
        simp [ih hp]
theorem wd_mark : wd 65533 = none := by decide

theorem rune_digit (d : Nat) (h : d ≤ 9) : Lib.runeCells (48 + (d : Int)) = [.int .u8 (48 + d : Int)] := by
  have : ∀ d : Nat, d ≤ 9 → Lib.runeCells (48 + (d : Int)) = [.int .u8 (48 + d : Int)] := by
    intro d hd
    have : d = 0 ∨ d = 1 ∨ d = 2 ∨ d = 3 ∨ d = 4 ∨ d = 5 ∨ d = 6 ∨ d = 7 ∨ d = 8 ∨ d = 9 := by omega
    rcases this with rfl | rfl | rfl | rfl | rfl | rfl | rfl | rfl | rfl | rfl <;> rfl
  exact this d h
theorem dg_rune (ds : List Nat) (d : Nat) (h : d ≤ 9) : Lib.byteCells (bs (dg ds)) ++ Lib.runeCells (48 + (d : Int)) = Lib.byteCells (bs (dg (ds ++ [d]))) := by
  rw [bs_dg (ds ++ [d]), List.map_append, byteCells_append, ← bs_dg, rune_digit d h]
  show _ ++ [_] = _ ++ [Value.int .u8 ((UInt8.ofNat (48 + d)).toNat : Int)]
  rw [toNat_ofNat _ (by omega)]; rfl

theorem narrow_any (s : ByteArray) (w : World) (hs : s.size ≤ 140737488355000) (hL : Laid w) :
    Calls Tryd.prog 44 #[.string s] w fun e w' => e = .returned (.string (rdOut readW s)) ∧ Below w.heap.size w w' := by
  have hB0 : Lib.IsBuilderF 51 5 w.heap.size w.heap.size (Lib.byteCells (bs (dg []))) ((w.alloc (.cells #[.pointer none, .slice none 0 0] 51)).iter s 0) := (builder_new 51 5 w w.heap.size rfl).alloc _
  have hit0 : ((w.alloc (.cells #[.pointer none, .slice none 0 0] 51)).iter s 0).heap[w.heap.size + 1]? = some (.stringIter s 0) := by
    have := World.iter_heap (w.alloc (.cells #[.pointer none, .slice none 0 0] 51)) s 0
    rw [show (w.alloc (.cells #[.pointer none, .slice none 0 0] 51)).heap.size = w.heap.size + 1 by simp] at this
    exact this
  have hb0 : Below w.heap.size w ((w.alloc (.cells #[.pointer none, .slice none 0 0] 51)).iter s 0) := ((Below.refl _ w).alloc (Nat.le_refl _) _).alloc (by simp) _
  have hs0 : w.heap.size + 2 ≤ ((w.alloc (.cells #[.pointer none, .slice none 0 0] 51)).iter s 0).heap.size := by simp [World.iter]
  go_enter Tryd.func44, Tryd.ntmps44
  go_wp2
  obtain ⟨b, hbd⟩ : ∃ b, w.heap.size = b := ⟨_, rfl⟩
  have h5 := hL.size
  rw [hbd] at hB0 hit0 hb0 hs0 h5 ⊢
  obtain ⟨W, hW⟩ : ∃ W, (w.alloc (.cells #[.pointer none, .slice none 0 0] 51)).iter s 0 = W := ⟨_, rfl⟩
  rw [hW] at hB0 hit0 hb0 hs0 ⊢
  have HBD := Lib.hid hbd
  clear hW hbd
  go_loopw [5] (fun _ wr => ∃ (pos : Nat) (pre : List Int) (ds : List Nat), Lib.IsBuilderF 51 5 b b (Lib.byteCells (bs (dg ds))) wr ∧ wr.heap[b + 1]? = some (.stringIter s pos) ∧ Below b w wr ∧ pos ≤ s.size ∧ pre.length ≤ pos ∧ b + 2 ≤ wr.heap.size ∧ Hid (readW pre = some ds) ∧ Hid (chars (bs s) = (chars ((bs s).drop pos)).map (pre ++ ·))) (fun _ wr => s.size - wr.iterPos (b + 1))
  case atStart => exact ⟨0, [], [], hB0, hit0, hb0, Nat.zero_le _, Nat.le_refl _, hs0, Lib.hid rfl, Lib.hid (by rw [List.drop_zero]; exact map_nil _)⟩
  case round =>
    obtain ⟨pos, pre, ds, hBl, hit, hb, hps, hpl, hsw, hre, hch⟩ := hrel
    have hm := iterPos_of hit
    have hdl := readW_len hre.out
    by_cases hp : pos < s.size
    · obtain ⟨c, n, hdec, hv, hn1, hcase⟩ : ∃ (c : Int) (n : Nat), Utf8.decode s pos = (c.toNat, n) ∧ validRune c = true ∧ pos + n ≤ s.size ∧ ((1 ≤ n ∧ dec1 ((bs s).drop pos) = some (c, n)) ∨ (wd c = none ∧ chars (bs s) = none)) := by
        cases hd : dec1 ((bs s).drop pos) with
        | none => exact ⟨65533, 1, by rw [dec_bad hp hd]; rfl, bad_mark.1, by omega, .inr ⟨wd_mark, by rw [hch.out, chars_bad (drop_ne hp) hd]; rfl⟩⟩
        | some p =>
          obtain ⟨c, n⟩ := p
          have hdp := dec1_pos hd
          rw [List.length_drop, bs_len] at hdp
          exact ⟨c, n, dec_good hp hd, (dec1_some hd).1, by omega, .inl ⟨hdp.1, rfl⟩⟩
      have hc0 : 0 ≤ c := by have := (valid_iff c).1 hv; omega
      have hc1 : c ≤ 1114111 := by have := (valid_iff c).1 hv; omega
      have hnx : ∀ ty, (Instr.next (.pointer (some ⟨b + 1, 0, none⟩)) true ty).run Tryd.prog wr = .ok (.tuple #[.bool true, .int .i64 pos, .int .i32 c]) (wr.iterAt (b + 1) s (pos + n)) := fun ty => by
        have := Lib.run_next_any_at (P := Tryd.prog) wr (b + 1) s pos ty hit hp
        rw [hdec] at this
        simp only [Int.toNat_of_nonneg hc0] at this
        exact this
      have hit4 := Lib.iterAt_heap wr (b + 1) s pos (pos + n) hit
      have hb4 := Lib.below_iterAt hb (k := b + 1) (by omega) s (pos + n)
      have hBl4 := hBl.iterAt hit (pos + n)
      have hsw4 : b + 2 ≤ (wr.iterAt (b + 1) s (pos + n)).heap.size := by rw [Lib.iterAt_size]; exact hsw
      obtain ⟨W4, hW4⟩ : ∃ W4, wr.iterAt (b + 1) s (pos + n) = W4 := ⟨_, rfl⟩
      rw [hW4] at hit4 hb4 hBl4 hsw4
      simp only [hW4] at hnx
      clear hW4 hdec hb hBl hit hv hsw
      have hl : (Lib.byteCells (bs (dg ds))).length = ds.length := by rw [Lib.byteCells_length, bs_len, dg_size]
      have hlw : (Lib.byteCells (bs (dg ds))).length + 4 ≤ 140737488355328 := by rw [hl]; omega
      have hb4s : b ≤ W4.heap.size := by omega
      have hgo : ∀ d : Nat, wd c = some d → 1 ≤ n ∧ Hid (readW (pre ++ [c]) = some (ds ++ [d])) ∧ Hid (chars (bs s) = (chars ((bs s).drop (pos + n))).map ((pre ++ [c]) ++ ·)) := fun d h => by
        rcases hcase with ⟨h1, hd⟩ | ⟨hn, _⟩
        · exact ⟨h1, Lib.hid (readW_snoc hre.out h), Lib.hid (runes_len hch.out hd)⟩
        · rw [hn] at h; cases h
      by_cases hA : 48 ≤ c ∧ c ≤ 57
      · obtain ⟨d, hd⟩ : ∃ d : Nat, c = 48 + (d : Int) := ⟨(c - 48).toNat, by omega⟩
        have hd9 : d ≤ 9 := by omega
        obtain ⟨hn0, hre2, hch2⟩ := hgo d (by unfold wd; rw [if_pos hA]; congr 1; omega)
        have HW := Lib.hid (Tryd.writeRune b b (Lib.byteCells (bs (dg ds))) c (by omega) (by omega) W4 hBl4 hlw hb4s)
        have HDG := Lib.hid (show Lib.byteCells (bs (dg ds)) ++ Lib.runeCells c = Lib.byteCells (bs (dg (ds ++ [d]))) by rw [hd]; exact dg_rune ds d hd9)
        have hA1 := hA.1
        have hA2 := hA.2
        clear hgo hcase hl hlw hdl hd hA
        go_wp2_with (go_at_call 63; refine HW.out.mono ?_; rintro e w6 ⟨rfl, hA6, hb6, ho6⟩)
        have hit6 := ho6.iter hit4 (by omega)
        have hBl6 : Lib.IsBuilderF 51 5 b b (Lib.byteCells (bs (dg (ds ++ [d])))) w6 := by rw [← HDG.out]; exact .inr hA6
        have hsz6 : b + 2 ≤ w6.heap.size := by have := hb6.size; omega
        go_roundw
        case rel => exact ⟨pos + n, pre ++ [c], ds ++ [d], hBl6, hit6, hb4.trans hb6, by omega, by simp; omega, hsz6, hre2, hch2⟩
        case measure => rw [iterPos_of hit6, hm]; omega
      · by_cases hF : 65296 ≤ c ∧ c ≤ 65305
        · obtain ⟨d, hd⟩ : ∃ d : Nat, c = 65296 + (d : Int) := ⟨(c - 65296).toNat, by omega⟩
          have hd9 : d ≤ 9 := by omega
          obtain ⟨hn0, hre2, hch2⟩ := hgo d (by unfold wd; rw [if_neg hA, if_pos hF]; congr 1; omega)
          have HW := Lib.hid (Tryd.writeRune b b (Lib.byteCells (bs (dg ds))) (c - 65296 + 48) (by omega) (by omega) W4 hBl4 hlw hb4s)
          have HDG := Lib.hid (show Lib.byteCells (bs (dg ds)) ++ Lib.runeCells (c - 65296 + 48) = Lib.byteCells (bs (dg (ds ++ [d]))) by rw [show c - 65296 + 48 = 48 + (d : Int) by omega]; exact dg_rune ds d hd9)
          have hF1 := hF.1
          have hF2 := hF.2
          clear hgo hcase hl hlw hdl hd hA hF
          go_wp2_with (go_at_call 63; refine HW.out.mono ?_; rintro e w6 ⟨rfl, hA6, hb6, ho6⟩)
          have hit6 := ho6.iter hit4 (by omega)
          have hBl6 : Lib.IsBuilderF 51 5 b b (Lib.byteCells (bs (dg (ds ++ [d])))) w6 := by rw [← HDG.out]; exact .inr hA6
          have hsz6 : b + 2 ≤ w6.heap.size := by have := hb6.size; omega
          go_roundw
          case rel => exact ⟨pos + n, pre ++ [c], ds ++ [d], hBl6, hit6, hb4.trans hb6, by omega, by simp; omega, hsz6, hre2, hch2⟩
          case measure => rw [iterPos_of hit6, hm]; omega
        · have hw : wd c = none := by unfold wd; rw [if_neg hA, if_neg hF]
          have hbad : rdOut readW s = { data := #[] } := rdOut_bad fun cs hcs => by
            rcases hcase with ⟨_, hd⟩ | ⟨_, hn⟩
            · obtain ⟨t, rfl⟩ := rest_of hch.out hd hcs
              exact readW_none t hw
            · rw [hn] at hcs; cases hcs
          have HB := Lib.hid hbad
          have hcc : c < 48 ∨ (57 < c ∧ c < 65296) ∨ 65305 < c := by omega
          clear hgo hcase hl hlw hdl hA hF hw hbad
          rcases hcc with h | ⟨h, h'⟩ | h
          all_goals
            go_wp2
            go_ret
            exact ⟨by rw [HB.out]; rfl, by rw [HBD.out]; exact hb4⟩
    · have hnx : ∀ ty, (Instr.next (.pointer (some ⟨b + 1, 0, none⟩)) true ty).run Tryd.prog wr = _ := fun ty => Lib.run_next_end_at (P := Tryd.prog) wr (b + 1) s pos ty hit hp
      have hall : chars (bs s) = some pre := by
        rw [hch.out, List.drop_of_length_le (by rw [bs_len]; omega), chars_nil]; simp
      have HG := Lib.hid (rdOut_good hall hre.out)
      clear hall hm hp hdl
      go_wp2_with (go_at_call 53; refine (Tryd.Builder_String_any_k b b (bs (dg ds)) _ hBl (by omega)).mono ?_; rintro e w8 ⟨rfl, _, hb8, _⟩)
      go_ret
      exact ⟨by rw [HG.out]; rfl, by rw [HBD.out]; exact hb.trans hb8⟩

end Go.Proofs.YtfkdlnaakmgclaaDoor.Num
