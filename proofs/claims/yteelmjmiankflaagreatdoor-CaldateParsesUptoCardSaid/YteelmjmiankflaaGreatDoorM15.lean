/-
  Joined texts: NumAG, CalRv, CalRm, CalKn, CalRq, CalRw.
-/
import Derived.Test.YteelmjmiankflaaGreatDoorM14
import Derived.Test.YteelmjmiankflaaGreatDoorM13
import Derived.Test.YteelmjmiankflaaGreatDoorM3
import Derived.Test.YteelmjmiankflaaGreatDoorM11
set_option linter.unusedVariables false
set_option linter.unusedSimpArgs false
namespace Go.Proofs.YteelmjmiankflaaGreatDoor.Num
open Go Go.RowKit Go.Proofs.YteelmjmiankflaaGreatDoor.Kit Go.Proofs.YteelmjmiankflaaGreatDoor.Utf

theorem str_eq (x s : ByteArray) : (x.toList == s.toList) = decide (x = s) := by
  rw [ByteArray.toList_eq, ByteArray.toList_eq]
  by_cases e : x = s
  · rw [e]; simp
  · rw [decide_eq_false e]
    simp only [beq_eq_false_iff_ne]
    exact fun h => e (ba_ext h)

set_option maxHeartbeats 1000000 in
theorem rparse_any (s : ByteArray) (w : World) (hs : s.size ≤ 140737488355000) (hL : Laid w) :
    Calls Tryz.prog 51 #[.string s] w (Parsed s w) := by
  have HDW := Lib.hid (fun w => digitwise_any s w hs)
  have HG := Lib.hid (fun w => guess_any s w hs)
  go_enter Tryz.func51, Tryz.ntmps51
  go_wp2_with (go_at_call 77; fail)
  refine (HDW.out _).mono ?_
  rintro e w1 ⟨es, rfl, hez, hes, hb1⟩
  obtain ⟨D, hD⟩ : ∃ D, dg es = D := ⟨_, rfl⟩
  have hDz : D.size ≤ maxLen := by rw [← hD, dg_size]; unfold maxLen; omega
  rw [hD]
  have HPS := Lib.hid (rpos_any D w1 hDz (hL.next hb1))
  obtain ⟨x, hx⟩ : ∃ x, wOut posC D = x := ⟨_, rfl⟩
  rw [hx] at HPS
  have hxs := str_eq x s
  -- what the first test rests on
  have hpos : ¬ (isDec D = true ∧ x = s) → ∀ ds, DS ds → s ≠ tx (posC ds) := fun hn ds hds he => by
    have e1 := hes ds hds.2.2.1 he
    have e2 : D = dg ds := by rw [← hD, e1]
    refine hn ⟨by rw [e2]; exact isDec_dg hds, ?_⟩
    rw [← hx, e2, wOut_dg _ hds]; exact he.symm
  have HPOS := Lib.hid hpos
  have hyes : isDec D = true → x = s → Parsed s w (.returned (.tuple #[.string D, .bool true])) w1 := fun h1 h2 =>
    ⟨.inl ⟨D, ⟨h1, .inr (.inl (by rw [hx]; exact h2))⟩, rfl⟩, hb1⟩
  have HYES := Lib.hid (show isDec D = true → x = s → ∀ w2, Below w.heap.size w w2 → Parsed s w (.returned (.tuple #[.string D, .bool true])) w2 from fun h1 h2 w2 hb =>
    ⟨.inl ⟨D, ⟨h1, .inr (.inl (by rw [hx]; exact h2))⟩, rfl⟩, hb⟩)
  clear hpos hyes hx hes hD hez
  by_cases hhit : isDec D = true ∧ x = s
  · have hd := hhit.1
    have HY := Lib.hid (HYES.out hhit.1 hhit.2)
    rw [hd] at HPS
    rw [decide_eq_true hhit.2] at hxs
    clear hhit hd HYES HPOS
    go_wp2_with (go_at_call 78; refine HPS.out.mono ?_; rintro e w2 ⟨rfl, hb2⟩)
    go_ret2
    exact HY.out _ (hb1.trans (hb2.mono hb1.size))
  · have HN := Lib.hid (HPOS.out hhit)
    -- the second half of the walk, behind the first test
    obtain ⟨b, hbd⟩ : ∃ b, isDec D = b := ⟨_, rfl⟩
    rw [hbd] at HPS hhit
    have hcase : b = false ∨ (b = true ∧ (x.toList == s.toList) = false) := by
      cases b with
      | false => exact .inl rfl
      | true => exact .inr ⟨rfl, by rw [hxs]; exact decide_eq_false (fun e => hhit ⟨rfl, e⟩)⟩
    clear hhit HPOS HYES hbd hxs
    rcases hcase with rfl | ⟨rfl, hxs⟩
    all_goals
      go_wp2_with (first
        | (go_at_call 78; refine HPS.out.mono ?_; rintro e w2 ⟨rfl, hb2⟩; have hB := hb1.trans (hb2.mono hb1.size))
        | (go_at_call 79; fail))
      refine (HG.out _).mono ?_
      rintro e w3 ⟨gs, rfl, hgs, hall, hb3⟩
      have hB3 := hB.trans (hb3.mono hB.size)
      obtain ⟨g, hg⟩ : ∃ g, dg gs = g := ⟨_, rfl⟩
      have hgz : g.size ≤ maxLen := by rw [← hg, dg_size]; have := hgs.2.1; unfold maxLen; omega
      have hgd : isDec g = true := by rw [← hg]; exact isDec_dg hgs
      rw [hg]
      obtain ⟨y, hy⟩ : ∃ y, wOut kanjiC g = y := ⟨_, rfl⟩
      obtain ⟨z, hz⟩ : ∃ z, wOut formC g = z := ⟨_, rfl⟩
      have HK := Lib.hid (writer_at rkanji_any g y true hgz hy hgd)
      have HF := Lib.hid (writer_at rform_any g z true hgz hz hgd)
      have hys := str_eq y s
      have hzs := str_eq z s
      have HYES := Lib.hid (show y = s ∨ z = s → ∀ w2, Below w.heap.size w w2 → Parsed s w (.returned (.tuple #[.string g, .bool true])) w2 from fun h w2 hb => by
        refine ⟨.inl ⟨g, ⟨hgd, ?_⟩, rfl⟩, hb⟩
        rcases h with h | h
        · exact .inl (hy.trans h)
        · exact .inr (.inr (hz.trans h)))
      have HNO := Lib.hid (show ¬ y = s → ¬ z = s → ∀ w2, Below w.heap.size w w2 → Parsed s w (.returned (.tuple #[.string { data := #[] }, .bool false])) w2 from fun h1 h2 w2 hb => by
        refine ⟨.inr ⟨fun d hd => ?_, rfl⟩, hb⟩
        obtain ⟨hdd, hd3⟩ := hd
        obtain ⟨k1, k2⟩ := (isDec_iff d).1 hdd
        obtain ⟨ds, hds⟩ : ∃ ds, ofDg d = ds := ⟨_, rfl⟩
        rw [hds] at k1 k2
        subst k2
        rw [wOut_dg _ k1, wOut_dg _ k1, wOut_dg _ k1] at hd3
        rcases hd3 with e | e | e
        · have e1 := hall (kanjiC ds) (e3_W k1 (.inl rfl)) e.symm
          rw [guess_math k1 (.inl rfl)] at e1
          refine h1 ?_
          rw [← hy, ← hg, e1, wOut_dg _ k1]; exact e
        · exact HN.out ds k1 e.symm
        · have e1 := hall (formC ds) (e3_W k1 (.inr rfl)) e.symm
          rw [guess_math k1 (.inr rfl)] at e1
          refine h2 ?_
          rw [← hz, ← hg, e1, wOut_dg _ k1]; exact e)
      clear hall hy hz hg hgs hgd hgz
      have arms : True := trivial
      by_cases ey : y = s
      · have HY := Lib.hid (HYES.out (.inl ey))
        rw [decide_eq_true ey] at hys
        clear HYES HNO ey hzs
        go_wp2_with (first
          | (go_at_call 80; refine (HK.out _ (hL.next hB3)).mono ?_; rintro e w4 ⟨rfl, hb4⟩; have hB4 := hB3.trans (hb4.mono hB3.size))
          | (go_at_call 81; refine (HF.out _ (hL.next hB4)).mono ?_; rintro e w5 ⟨rfl, hb5⟩; have hB5 := hB4.trans (hb5.mono hB4.size)))
        go_ret2
        exact HY.out _ hB5
      · by_cases ez : z = s
        · have HY := Lib.hid (HYES.out (.inr ez))
          rw [decide_eq_false ey] at hys
          rw [decide_eq_true ez] at hzs
          clear HYES HNO ey ez
          go_wp2_with (first
            | (go_at_call 80; refine (HK.out _ (hL.next hB3)).mono ?_; rintro e w4 ⟨rfl, hb4⟩; have hB4 := hB3.trans (hb4.mono hB3.size))
            | (go_at_call 81; refine (HF.out _ (hL.next hB4)).mono ?_; rintro e w5 ⟨rfl, hb5⟩; have hB5 := hB4.trans (hb5.mono hB4.size)))
          go_ret2
          exact HY.out _ hB5
        · have HY := Lib.hid (HNO.out ey ez)
          rw [decide_eq_false ey] at hys
          rw [decide_eq_false ez] at hzs
          clear HYES HNO ey ez
          go_wp2_with (first
            | (go_at_call 80; refine (HK.out _ (hL.next hB3)).mono ?_; rintro e w4 ⟨rfl, hb4⟩; have hB4 := hB3.trans (hb4.mono hB3.size))
            | (go_at_call 81; refine (HF.out _ (hL.next hB4)).mono ?_; rintro e w5 ⟨rfl, hb5⟩; have hB5 := hB4.trans (hb5.mono hB4.size)))
          go_ret2
          exact HY.out _ hB5

theorem Parsed.same {s : ByteArray} {w1 w2 w1' w2' : World} {e1 e2 : Ending} (h1 : Parsed s w1 e1 w1') (h2 : Parsed s w2 e2 w2') : e1 = e2 := by
  rcases h1.1 with ⟨d, hd, rfl⟩ | ⟨hn, rfl⟩
  · rcases h2.1 with ⟨d', hd', rfl⟩ | ⟨hn', rfl⟩
    · rw [hd.unique hd']
    · exact absurd hd (hn' d)
  · rcases h2.1 with ⟨d', hd', rfl⟩ | ⟨hn', rfl⟩
    · exact absurd hd' (hn d')
    · rfl

end Go.Proofs.YteelmjmiankflaaGreatDoor.Num

set_option linter.unusedVariables false
set_option linter.unusedSimpArgs false
namespace Go.Proofs.YteelmjmiankflaaGreatDoor.Cal
open Go Go.RowKit Go.Proofs.YteelmjmiankflaaGreatDoor.Kit Go.Proofs.YteelmjmiankflaaGreatDoor.Utf
open Go.Proofs.YteelmjmiankflaaGreatDoor.Num

/-- Bytes that are digits, at most five, are a number; others are none. -/
def isD (b : UInt8) : Bool := decide (48 ≤ b.toNat ∧ b.toNat ≤ 57)
def vF (l : List UInt8) : Int := l.foldl (fun a b => 10 * a + ((b.toNat : Int) - 48)) 0
def vL (l : List UInt8) : Int := if l.length ≤ 5 ∧ l.all isD = true then vF l else 0
theorem vF_snoc (l : List UInt8) (b : UInt8) : vF (l ++ [b]) = 10 * vF l + ((b.toNat : Int) - 48) := by unfold vF; rw [List.foldl_append]; rfl
theorem vF_le (l : List UInt8) (h1 : l.all isD = true) (h2 : l.length ≤ 5) : 0 ≤ vF l ∧ vF l ≤ 99999 := by
  have key : ∀ (l : List UInt8) (a : Int), 0 ≤ a → l.all isD = true → 0 ≤ l.foldl (fun (a : Int) b => 10 * a + ((b.toNat : Int) - 48)) a ∧ l.foldl (fun (a : Int) b => 10 * a + ((b.toNat : Int) - 48)) a + 1 ≤ (a + 1) * ((10 ^ l.length : Nat) : Int) := by
    intro l
    induction l with
    | nil => intro a ha _; exact ⟨ha, by simp⟩
    | cons b l ih =>
      intro a ha h
      rw [List.all_cons, Bool.and_eq_true] at h
      have hb := h.1
      simp only [isD, decide_eq_true_eq] at hb
      obtain ⟨g1, g2⟩ := ih (10 * a + ((b.toNat : Int) - 48)) (by omega) h.2
      rw [List.foldl_cons]
      refine ⟨g1, Int.le_trans g2 ?_⟩
      rw [List.length_cons, Nat.pow_succ, Int.natCast_mul, Int.mul_comm ((10 ^ l.length : Nat) : Int), ← Int.mul_assoc]
      exact Int.mul_le_mul_of_nonneg_right (by omega) (Int.natCast_nonneg _)
  obtain ⟨a, b⟩ := key l 0 (Int.le_refl 0) h1
  have : (10 ^ l.length : Nat) ≤ 100000 := by
    have : ∀ k, k ≤ 5 → 10 ^ k ≤ 100000 := by decide
    exact this _ h2
  unfold vF
  omega
theorem vL_le (l : List UInt8) : 0 ≤ vL l ∧ vL l ≤ 99999 := by
  unfold vL; split
  · rename_i h; exact vF_le l h.2 h.1
  · omega
theorem vL_dg (ds : List Nat) (h9 : ∀ d ∈ ds, d ≤ 9) (h5 : ds.length ≤ 5) : vL (bs (dg ds)) = valD ds := by
  rw [bs_dg]
  have hb : ∀ d ∈ ds, (UInt8.ofNat (48 + d)).toNat = 48 + d := fun d hd => toNat_ofNat _ (by have := h9 d hd; omega)
  have hall : (ds.map fun d => UInt8.ofNat (48 + d)).all isD = true := by
    rw [List.all_eq_true]
    intro b hb'
    obtain ⟨d, hd, rfl⟩ := List.mem_map.1 hb'
    have := h9 d hd
    simp only [isD, decide_eq_true_eq, hb d hd]; omega
  have hl : (ds.map fun d => UInt8.ofNat (48 + d)).length ≤ 5 := by rw [List.length_map]; exact h5
  have key : ∀ (l : List Nat) (a : Nat), (∀ d ∈ l, (UInt8.ofNat (48 + d)).toNat = 48 + d) → (l.map fun d => UInt8.ofNat (48 + d)).foldl (fun (a : Int) b => 10 * a + ((b.toNat : Int) - 48)) (a : Int) = ((l.foldl (fun a d => 10 * a + d) a : Nat) : Int) := by
    intro l
    induction l with
    | nil => intro a _; rfl
    | cons d l ih =>
      intro a hl
      rw [List.map_cons, List.foldl_cons, List.foldl_cons, ← ih (10 * a + d) (fun x hx => hl x (by simp [hx])), hl d (by simp)]
      congr 1
      omega
  unfold vL
  rw [if_pos ⟨hl, hall⟩]
  exact key ds 0 hb

/-- What the reference's Parse of a number returns. -/
noncomputable def par (p : ByteArray) : ByteArray := @dite _ (∃ d, WrS p d) (Classical.propDecidable _) (fun h => h.choose) (fun _ => { data := #[] })
theorem par_is {p d : ByteArray} (h : WrS p d) : par p = d := by
  have he : ∃ d, WrS p d := ⟨d, h⟩
  unfold par
  rw [dif_pos he]
  exact he.choose_spec.unique h
theorem par_size (p : ByteArray) : (par p).size ≤ 20 := by
  by_cases h : ∃ d, WrS p d
  · obtain ⟨d, hd⟩ := h
    rw [par_is hd]
    obtain ⟨ds, _, h1, h2, _⟩ := hd.digits
    rw [h2, dg_size]; exact h1.2.1
  · unfold par; rw [dif_neg h]; decide
theorem rpar_at (p : ByteArray) (hs : p.size ≤ 1048576) (w : World) (hL : Laid w) :
    Calls Tryz.prog 51 #[.string p] w fun e w' => (∃ b, e = .returned (.tuple #[.string (par p), .bool b])) ∧ Below w.heap.size w w' := by
  refine (rparse_any p w (by omega) hL).mono ?_
  rintro e w' ⟨h1, hb⟩
  refine ⟨?_, hb⟩
  rcases h1 with ⟨d, h2, h3⟩ | ⟨h2, h3⟩
  · exact ⟨true, by rw [h3, par_is h2]⟩
  · refine ⟨false, ?_⟩
    have hn : ¬ ∃ d, WrS p d := fun ⟨d, hd⟩ => h2 d hd
    have : par p = { data := #[] } := by unfold par; rw [dif_neg hn]
    rw [h3, this]

/-- The digits that value reads, and what it returns. -/
noncomputable def vD (p : ByteArray) : ByteArray := @ite _ (0 < p.size ∧ isD ((bs p).getD 0 0) = false) (Classical.propDecidable _) (par p) p
noncomputable def vl (p : ByteArray) : Int := if (p.toList == [229, 133, 131]) = true then 1 else vL (bs (vD p))
theorem vl_le (p : ByteArray) : 0 ≤ vl p ∧ vl p ≤ 99999 := by
  unfold vl; split
  · omega
  · exact vL_le _

/-- A piece of a form has its number. -/
theorem vl_nm {cs : List Int} {n : Nat} (hn : n ≤ 9999) (h : Nm cs n) : vl (tx cs) = n := by
  unfold vl
  rcases h with ⟨rfl, rfl⟩ | ⟨k, hk, rfl⟩ | rfl
  · rw [if_pos (by decide +kernel)]; rfl
  · have hl := pad_len hn hk
    have hne := pad_ne k n
    have e1 : tx (ascC (pad k n)) = dg (pad k n) := (dg_tx _ (pad_le k n)).symm
    have hd : ∀ b ∈ bs (dg (pad k n)), isD b = true := by
      rw [bs_dg]
      intro b hb
      obtain ⟨d, hd, rfl⟩ := List.mem_map.1 hb
      have := pad_le k n d hd
      simp only [isD, decide_eq_true_eq, toNat_ofNat (48 + d) (by omega)]; omega
    have h0 : ¬ ((tx (ascC (pad k n))).toList == [229, 133, 131]) = true := by
      intro h
      have := list_str _ _ h
      rw [e1] at this
      have := hd 229 (by rw [this]; simp)
      exact absurd this (by decide)
    rw [if_neg h0, e1]
    have hv : vD (dg (pad k n)) = dg (pad k n) := by
      unfold vD
      rw [if_neg]
      rintro ⟨h1, h2⟩
      have hm : (bs (dg (pad k n))).getD 0 0 ∈ bs (dg (pad k n)) := by
        rw [List.getD_eq_getElem?_getD, List.getElem?_eq_getElem (by rw [bs_len]; exact h1)]
        exact List.getElem_mem _
      rw [hd _ hm] at h2; cases h2
    rw [hv, vL_dg _ (pad_le k n) (by omega), valD_pad]
  · have hne := kanji_ne (digs_DS hn)
    have hNK := kanji_NK (digs_DS hn)
    have hw : WrS (tx (kanjiC (digs n))) (dg (digs n)) := ⟨isDec_dg (digs_DS hn), .inl (wOut_dg kanjiC (digs_DS hn))⟩
    have h0 : ¬ ((tx (kanjiC (digs n))).toList == [229, 133, 131]) = true := by
      intro h
      have h1 := list_str _ _ h
      rw [bs_tx, ← gan_bytes] at h1
      have := encs_inj (val_kanji (digs_DS hn)) (by decide) h1
      exact absurd (hNK 20803 (by rw [this]; simp)) (by decide)
    rw [if_neg h0]
    have hv : vD (tx (kanjiC (digs n))) = dg (digs n) := by
      unfold vD
      rw [if_pos, par_is hw]
      cases hk : kanjiC (digs n) with
      | nil => exact absurd hk hne
      | cons c r =>
        have hc := hNK c (by rw [hk]; simp)
        have : ∀ c ∈ NK, isD ((enc c).getD 0 0) = false ∧ enc c ≠ [] := by decide
        obtain ⟨g1, g2⟩ := this c hc
        have hl : 0 < (enc c).length := List.length_pos_iff.2 g2
        refine ⟨by rw [tx_size, encs_cons, List.length_append]; omega, ?_⟩
        rw [bs_tx, encs_cons, List.getD_eq_getElem?_getD, List.getElem?_append_left hl, ← List.getD_eq_getElem?_getD]
        exact g1
    have := digs_len4 hn
    rw [hv, vL_dg _ (digs_le n) (by omega), valD_digs]

theorem byte_at (R : ByteArray) (j : Nat) (h : j < R.size) : ∃ b : UInt8, (bs R)[j]? = some b ∧ ∀ w : World, (Instr.index 9 (.string R) (.int .i64 j)).run Tryz.prog w = .ok (.int .u8 (b.toNat : Int)) w := by
  refine ⟨R[j], bs_get h, fun w => ?_⟩
  rw [run_index_string w 9 R .i64 j Tryz.underlying9, dif_pos ⟨by omega, by omega⟩]
  simp

/-- The first k bytes are digits and have the number n. -/
structure VI (D : ByteArray) (k : Nat) (n : Int) : Prop where
  le : k ≤ D.size
  five : k ≤ 5
  all : ((bs D).take k).all isD = true
  val : n = vF ((bs D).take k)
theorem VI.bound {D : ByteArray} {k : Nat} {n : Int} (h : VI D k n) : 0 ≤ n ∧ n ≤ 99999 := by
  rw [h.val]
  exact vF_le _ h.all (by rw [List.length_take]; have := h.five; omega)
theorem VI.zero (D : ByteArray) : VI D 0 0 := ⟨Nat.zero_le _, by decide, rfl, rfl⟩
theorem VI.next {D : ByteArray} {k : Nat} {n : Int} (h : VI D k n) {b : UInt8} (hb : (bs D)[k]? = some b) (hd : 48 ≤ b.toNat ∧ b.toNat ≤ 57) (hk : k ≤ 4) : VI D (k + 1) (10 * n + ((b.toNat : Int) - 48)) := by
  have hlt : k < (bs D).length := (List.getElem?_eq_some_iff.1 hb).1
  have ht : (bs D).take (k + 1) = (bs D).take k ++ [b] := by rw [List.take_add_one, hb]; rfl
  refine ⟨by rw [← bs_len]; omega, by omega, ?_, ?_⟩
  · rw [ht, List.all_append, h.all]; simp [isD]; omega
  · rw [ht, vF_snoc, ← h.val]
theorem VI.done {D : ByteArray} {n : Int} (h : VI D D.size n) : vL (bs D) = n := by
  have ht : (bs D).take D.size = bs D := List.take_of_length_le (by rw [bs_len]; exact Nat.le_refl _)
  unfold vL
  rw [if_pos ⟨by rw [bs_len]; exact h.five, by have := h.all; rwa [ht] at this⟩]
  rw [h.val, ht]
theorem vl_bad {D : ByteArray} {k : Nat} {b : UInt8} (hb : (bs D)[k]? = some b) (hd : ¬ (48 ≤ b.toNat ∧ b.toNat ≤ 57)) : vL (bs D) = 0 := by
  unfold vL
  rw [if_neg]
  rintro ⟨_, h⟩
  have := List.all_eq_true.1 h b (List.mem_of_getElem? hb)
  simp only [isD, decide_eq_true_eq] at this
  exact hd this
theorem vl_long {D : ByteArray} (h : 5 < D.size) : vL (bs D) = 0 := by
  unfold vL
  rw [if_neg]
  rintro ⟨h1, _⟩
  rw [bs_len] at h1; omega

end Go.Proofs.YteelmjmiankflaaGreatDoor.Cal

set_option linter.unusedVariables false
set_option linter.unusedSimpArgs false
namespace Go.Proofs.YteelmjmiankflaaGreatDoor.Cal
open Go Go.RowKit Go.Proofs.YteelmjmiankflaaGreatDoor.Kit Go.Proofs.YteelmjmiankflaaGreatDoor.Utf
open Go.Proofs.YteelmjmiankflaaGreatDoor.Num

/-- What three returns. -/
noncomputable def t1 (s a b : ByteArray) : Int := vl (ctA s a)
noncomputable def t2 (s a b : ByteArray) : Int := vl (ctA (ctR s a) b)
noncomputable def t3 (s a b : ByteArray) : Int := vl (ctR (ctR s a) b)
def tk (s a b : ByteArray) : Bool := ctK s a && ctK (ctR s a) b

def endsDay (t : ByteArray) : Bool := (t.extract (t.size - 3) t.size).toList == [230, 151, 165]
def trim (t : ByteArray) : ByteArray := if 3 ≤ t.size ∧ endsDay t = true then t.extract 0 (t.size - 3) else t
theorem trim_size (t : ByteArray) : (trim t).size ≤ t.size := by
  unfold trim; split
  · rw [ByteArray.size_extract]; omega
  · exact Nat.le_refl _
theorem day_enc : enc 26085 = [230, 151, 165] := by decide
theorem trim_tx (p : List Int) : trim (tx (p ++ [26085])) = tx p := by
  have hs : (tx (p ++ [26085])).size = (encs p).length + 3 := by
    rw [tx_size, encs_append, List.length_append]
    show _ + (enc 26085 ++ []).length = _
    rw [day_enc]; rfl
  have hE : endsDay (tx (p ++ [26085])) = true := by
    unfold endsDay
    rw [beq_iff_eq, ByteArray.toList_eq, Lib.extract_data]
    show ((bs (tx (p ++ [26085]))).drop _).take _ = _
    rw [hs, Nat.add_sub_cancel, bs_tx, encs_append, List.drop_left]
    show (enc 26085 ++ []).take _ = _
    rw [day_enc]
    exact List.take_of_length_le (by simp)
  unfold trim
  rw [if_pos ⟨by rw [hs]; omega, hE⟩, hs, Nat.add_sub_cancel]
  have := tx_extract [] p [26085]
  simpa [encs] using this
theorem trim_no (p : List Int) (hp : ∀ c ∈ p, validRune c = true) (hn : (26085 : Int) ∉ p) : trim (tx p) = tx p := by
  unfold trim
  rw [if_neg]
  rintro ⟨h1, h2⟩
  unfold endsDay at h2
  rw [beq_iff_eq, ByteArray.toList_eq, Lib.extract_data] at h2
  have h3 : ((encs p ++ []).drop ((tx p).size - 3)).take (enc 26085).length = enc 26085 := by
    rw [List.append_nil, day_enc, ← bs_tx]
    rw [show (tx p).size - ((tx p).size - 3) = 3 by omega] at h2
    exact h2
  obtain ⟨q, r, e, _⟩ := no_code 26085 (by decide) p [] _ hp (by rw [← tx_size]; omega) h3
  exact hn (by rw [e]; simp)

theorem cut_gen {o : Option Nat} (ho : ∀ k, o = some k → k < 5) {c : Int} {r : List Int} (hc : c ∈ NC) : cutN 5 (encs (eP o ++ c :: r)) = (encs (c :: r), eB o) := by
  cases o with
  | none => exact cutN_none hc 5 (Nat.le_refl _)
  | some j =>
    have := cutN_some (ho j rfl) (cs := r) hc 5 (Nat.le_refl _)
    rw [if_pos (ho j rfl)] at this
    exact this

theorem nc_no : ∀ c ∈ NC, c ≠ 40 ∧ c ≠ 26085 ∧ c ≠ 24180 ∧ c ≠ 26376 ∧ c ≠ 47 ∧ c ≠ 45 := by decide
theorem eN_no : ∀ k, k < 5 → ∀ c ∈ eN k, c ≠ 40 ∧ c ≠ 26085 := by decide
theorem wd_no : ∀ k, k < 7 → wdC k ≠ 40 := by decide

/-- The separators that are tried. -/
def sA (k : Nat) : Int := [24180, 47, 45].getD k 0
def sB (k : Nat) : Int := [26376, 47, 45].getD k 0

/-- The text that is read, and the years before. -/
def rtxt (s : ByteArray) : ByteArray := ⟨(cutN 5 (bs (trim (ctA s (tx [40]))))).1.toArray⟩
def radd (s : ByteArray) : Int := (cutN 5 (bs (trim (ctA s (tx [40]))))).2

theorem Shp.no {cs : List Int} {o : Option Nat} {A B C T : List Int} {x1 x2 : Int} {e m d : Nat} (h : Shp cs o A B C T x1 x2 e m d) (x : Int) (hx : ∀ c ∈ NC, c ≠ x) (he : ∀ k, k < 5 → ∀ c ∈ eN k, c ≠ x) (h1 : x1 ≠ x) (h2 : x2 ≠ x) : x ∉ eP o ++ (A ++ x1 :: (B ++ x2 :: C)) := by
  intro hm
  simp only [List.mem_append, List.mem_cons] at hm
  rcases hm with hm | hm | hm | hm | hm | hm
  · cases o with
    | none => simp [eP] at hm
    | some k => exact he k (h.era k rfl) x hm rfl
  · exact hx x (h.na.chars h.le x hm) rfl
  · exact h1 hm.symm
  · exact hx x (h.nb.chars h.lm x hm) rfl
  · exact h2 hm.symm
  · exact hx x (h.nc.chars h.ld x hm) rfl

theorem Shp.text {cs : List Int} {o : Option Nat} {A B C T : List Int} {x1 x2 : Int} {e m d : Nat} (h : Shp cs o A B C T x1 x2 e m d) : trim (ctA (tx cs) (tx [40])) = tx (eP o ++ (A ++ x1 :: (B ++ x2 :: C))) := by
  have hv := h.valid
  have hvx : ∀ c ∈ eP o ++ (A ++ x1 :: (B ++ x2 :: C)), validRune c = true := by
    intro c hc
    refine hv c ?_
    rw [h.eq]
    simp only [List.mem_append, List.mem_cons] at hc ⊢
    rcases hc with hc | hc | hc | hc | hc | hc <;> simp [hc]
  rcases h.sep with ⟨e1, e2, hT⟩ | ⟨ho, hx, hT⟩
  · have h40 : (40 : Int) ∉ eP o ++ (A ++ x1 :: (B ++ x2 :: C)) := h.no 40 (fun c hc => (nc_no c hc).1) (fun k hk c hc => (eN_no k hk c hc).1) (by rw [e1]; decide) (by rw [e2]; decide)
    have h40' : (40 : Int) ∉ (eP o ++ (A ++ x1 :: (B ++ x2 :: C))) ++ [26085] := by
      intro hm
      rcases List.mem_append.1 hm with hm | hm
      · exact h40 hm
      · exact absurd (List.mem_singleton.1 hm) (by decide)
    have hv2 : ∀ c ∈ (eP o ++ (A ++ x1 :: (B ++ x2 :: C))) ++ [26085], validRune c = true := by
      intro c hc
      rcases List.mem_append.1 hc with hc | hc
      · exact hvx c hc
      · rw [List.mem_singleton.1 hc]; decide
    rcases hT with hT | ⟨k, hk, hT⟩
    · have hcs : cs = (eP o ++ (A ++ x1 :: (B ++ x2 :: C))) ++ [26085] := by rw [h.eq, hT]; simp
      rw [hcs, (cut_tx_no _ 40 hv2 (by decide) h40').1, trim_tx]
    · have hcs : cs = ((eP o ++ (A ++ x1 :: (B ++ x2 :: C))) ++ [26085]) ++ 40 :: [wdC k, 41] := by rw [h.eq, hT]; simp
      rw [hcs, (cut_tx _ [wdC k, 41] 40 hv2 (by decide) h40').1, trim_tx]
  · have hxx : x1 ≠ 40 ∧ x2 ≠ 40 ∧ x1 ≠ 26085 ∧ x2 ≠ 26085 := by rcases hx with ⟨rfl, rfl⟩ | ⟨rfl, rfl⟩ <;> decide
    have hcs : cs = eP o ++ (A ++ x1 :: (B ++ x2 :: C)) := by rw [h.eq, hT]; simp
    have h40 := h.no 40 (fun c hc => (nc_no c hc).1) (fun k hk c hc => (eN_no k hk c hc).1) hxx.1 hxx.2.1
    have hday := h.no 26085 (fun c hc => (nc_no c hc).2.1) (fun k hk c hc => (eN_no k hk c hc).2) hxx.2.2.1 hxx.2.2.2
    rw [hcs, (cut_tx_no _ 40 hvx (by decide) h40).1, trim_no _ hvx hday]

/-- Of a form, one pair of separators gives the day. -/
theorem ref_hit {s : ByteArray} {day : Int} (hf : IsForm s day) : ∃ k, k < 3 ∧ tk (rtxt s) (tx [sA k]) (tx [sB k]) = true ∧ IsDate day (t1 (rtxt s) (tx [sA k]) (tx [sB k]) + radd s) (t2 (rtxt s) (tx [sA k]) (tx [sB k])) (t3 (rtxt s) (tx [sA k]) (tx [sB k])) := by
  obtain ⟨y, m, d, hd, cs, hc, rfl⟩ := hf
  obtain ⟨o, A, B, C, T, x1, x2, e, h, hy⟩ := shape hd hc
  have hne := h.na.ne h.le
  obtain ⟨c, r, hA⟩ : ∃ c r, A = c :: r := by cases hA : A with | nil => exact absurd hA hne | cons c r => exact ⟨c, r, rfl⟩
  have hcN : c ∈ NC := h.na.chars h.le c (by rw [hA]; simp)
  have hcut : cutN 5 (bs (trim (ctA (tx cs) (tx [40])))) = (encs (A ++ x1 :: (B ++ x2 :: C)), eB o) := by
    rw [h.text, bs_tx, hA]
    exact cut_gen h.era hcN
  have hT : rtxt (tx cs) = tx (A ++ x1 :: (B ++ x2 :: C)) := by unfold rtxt; rw [hcut]; rfl
  have hadd : radd (tx cs) = eB o := by unfold radd; rw [hcut]
  obtain ⟨k, hk, hx1, hx2⟩ : ∃ k, k < 3 ∧ sA k = x1 ∧ sB k = x2 := by
    rcases h.sep with ⟨rfl, rfl, _⟩ | ⟨_, ⟨rfl, rfl⟩ | ⟨rfl, rfl⟩, _⟩
    · exact ⟨0, by decide, rfl, rfl⟩
    · exact ⟨1, by decide, rfl, rfl⟩
    · exact ⟨2, by decide, rfl, rfl⟩
  have hxv : validRune x1 = true ∧ validRune x2 = true ∧ (∀ c ∈ NC, c ≠ x1) ∧ (∀ c ∈ NC, c ≠ x2) := by
    rcases h.sep with ⟨rfl, rfl, _⟩ | ⟨_, ⟨rfl, rfl⟩ | ⟨rfl, rfl⟩, _⟩
    · exact ⟨by decide, by decide, fun c hc => (nc_no c hc).2.2.1, fun c hc => (nc_no c hc).2.2.2.1⟩
    · exact ⟨by decide, by decide, fun c hc => (nc_no c hc).2.2.2.2.1, fun c hc => (nc_no c hc).2.2.2.2.1⟩
    · exact ⟨by decide, by decide, fun c hc => (nc_no c hc).2.2.2.2.2, fun c hc => (nc_no c hc).2.2.2.2.2⟩
  have vA : ∀ c ∈ A, validRune c = true := nm_valid h.le h.na
  have vB : ∀ c ∈ B, validRune c = true := nm_valid h.lm h.nb
  obtain ⟨a1, a2, a3⟩ := cut_tx A (B ++ x2 :: C) x1 vA hxv.1 (fun hm => hxv.2.2.1 x1 (h.na.chars h.le x1 hm) rfl)
  obtain ⟨b1, b2, b3⟩ := cut_tx B C x2 vB hxv.2.1 (fun hm => hxv.2.2.2 x2 (h.nb.chars h.lm x2 hm) rfl)
  refine ⟨k, hk, ?_, ?_⟩
  · rw [hT, hx1, hx2]; unfold tk; rw [a3, a2, b3]; rfl
  · rw [hT, hx1, hx2, hadd]
    unfold t1 t2 t3
    rw [a1, a2, b1, b2, vl_nm h.le h.na, vl_nm h.lm h.nb, vl_nm h.ld h.nc, Int.add_comm, ← hy]
    exact hd

end Go.Proofs.YteelmjmiankflaaGreatDoor.Cal

set_option linter.unusedVariables false
set_option linter.unusedSimpArgs false
namespace Go.Proofs.YteelmjmiankflaaGreatDoor.Cal
open Go Go.RowKit Go.Proofs.YteelmjmiankflaaGreatDoor.Kit Go.Proofs.YteelmjmiankflaaGreatDoor.Utf
open Go.Proofs.YteelmjmiankflaaGreatDoor.Num

theorem day_lit (y m d n : Int) (h : Valid y m d) (e : num y m d = n) (w : World) (hL : CLaid w) :
    Calls Tryz.prog 10 #[.int .i64 y, .int .i64 m, .int .i64 d] w fun e w' => e = .returned (.tuple #[.int .i64 n, .bool true]) ∧ Below w.heap.size w w' := by
  rw [← e]; exact day_is y m d h w hL
theorem era_lit (day y m d : Int) (h : IsDate day y m d) (N : ByteArray) (z : Int) (b : Bool) (e1 : nm (cur day 5) = N) (e2 : ye y (cur day 5) = z) (e3 : (cur day 5).isSome = b) (w : World) (hL : ELaid w) :
    Calls Tryz.prog 11 #[.int .i64 day] w fun e w' => e = .returned (.tuple #[.string N, .int .i64 z, .bool b]) ∧ Below w.heap.size w w' := by
  rw [← e1, ← e2, ← e3]; exact era_is day y m d h w hL

theorem dg1 : digs 1 = [1] := digs_small (by omega)
theorem dg5 : digs 5 = [5] := digs_small (by omega)
theorem dg8 : digs 8 = [8] := digs_small (by omega)
theorem dg2019 : digs 2019 = [2, 0, 1, 9] := by rw [digs_step (by omega), digs_step (by omega), digs_step (by omega), digs_small (by omega)]; rfl
theorem dg1989 : digs 1989 = [1, 9, 8, 9] := by rw [digs_step (by omega), digs_step (by omega), digs_step (by omega), digs_small (by omega)]; rfl

def kF : List ByteArray := [{ data := #[50, 48, 49, 57, 229, 185, 180, 53, 230, 156, 136, 49, 230, 151, 165] }, { data := #[50, 48, 49, 57, 229, 185, 180, 53, 230, 156, 136, 49, 230, 151, 165, 40, 230, 176, 180, 41] }, { data := #[50, 48, 49, 57, 47, 48, 53, 47, 48, 49] }, { data := #[50, 48, 49, 57, 45, 48, 53, 45, 48, 49] }, { data := #[228, 187, 164, 229, 146, 140, 229, 133, 131, 229, 185, 180, 53, 230, 156, 136, 49, 230, 151, 165] }, { data := #[228, 187, 164, 229, 146, 140, 229, 133, 131, 229, 185, 180, 228, 186, 148, 230, 156, 136, 228, 184, 128, 230, 151, 165] }, { data := #[53, 230, 156, 136, 49, 230, 151, 165] }, { data := #[53, 47, 49] }]
theorem kn_date : IsDate 737180 (2019 : Nat) (5 : Nat) (1 : Nat) := ⟨by decide, by kernel_rfl⟩
theorem kn_list : (allForms 737180 2019 5 1).map tx = kF := by
  have c5 : cur 737180 5 = some 4 := by decide +kernel
  have e1 : eYear 4 2019 = 1 := by decide
  unfold allForms yearForms
  rw [c5]
  show ((firstForms (wdC ((737180 : Int) % 7).toNat) 2019 5 1 ++ sepForms 2019 5 1) ++ eraForms 4 (eYear 4 2019) 5 1 ++ lastForms 5 1).map tx = kF
  rw [e1]
  simp only [firstForms, sepForms, eraForms, lastForms, plainF, sepF, eraF, joinC, List.flatMap_cons, List.flatMap_nil, decC, kanC, eraC, pad, dg1, dg5, dg2019]
  kernel_rfl
theorem kn_forms (w : World) (hL : FLaid w) :
    Calls Tryz.prog 9 #[.int .i64 737180] w fun e w' => ∃ v, e = .returned v ∧ Reads w' v (kF.map Value.string) ∧ Below w.heap.size w w' := by
  refine (forms_at 737180 2019 5 1 kn_date w hL).mono ?_
  rintro e w' ⟨v, rfl, ho, hb⟩
  refine ⟨v, rfl, ?_, hb⟩
  have := own_reads ho
  rw [strs_map, kn_list] at this
  exact this
theorem same_lit (v : Value) (w1 : World) (h : Reads w1 v (kF.map Value.string)) :
    Calls Tryz.prog 12 #[v, .slice (some ⟨w1.heap.size, 0, none⟩) 8 8] (w1.alloc (.cells #[.string { data := #[50, 48, 49, 57, 229, 185, 180, 53, 230, 156, 136, 49, 230, 151, 165] }, .string { data := #[50, 48, 49, 57, 229, 185, 180, 53, 230, 156, 136, 49, 230, 151, 165, 40, 230, 176, 180, 41] }, .string { data := #[50, 48, 49, 57, 47, 48, 53, 47, 48, 49] }, .string { data := #[50, 48, 49, 57, 45, 48, 53, 45, 48, 49] }, .string { data := #[228, 187, 164, 229, 146, 140, 229, 133, 131, 229, 185, 180, 53, 230, 156, 136, 49, 230, 151, 165] }, .string { data := #[228, 187, 164, 229, 146, 140, 229, 133, 131, 229, 185, 180, 228, 186, 148, 230, 156, 136, 228, 184, 128, 230, 151, 165] }, .string { data := #[53, 230, 156, 136, 49, 230, 151, 165] }, .string { data := #[53, 47, 49] }] 9)) fun e w' => e = .returned (.bool true) ∧ Below w1.heap.size w1 w' := by
  have hb := (Below.refl w1.heap.size w1).alloc (Nat.le_refl _) (.cells #[.string { data := #[50, 48, 49, 57, 229, 185, 180, 53, 230, 156, 136, 49, 230, 151, 165] }, .string { data := #[50, 48, 49, 57, 229, 185, 180, 53, 230, 156, 136, 49, 230, 151, 165, 40, 230, 176, 180, 41] }, .string { data := #[50, 48, 49, 57, 47, 48, 53, 47, 48, 49] }, .string { data := #[50, 48, 49, 57, 45, 48, 53, 45, 48, 49] }, .string { data := #[228, 187, 164, 229, 146, 140, 229, 133, 131, 229, 185, 180, 53, 230, 156, 136, 49, 230, 151, 165] }, .string { data := #[228, 187, 164, 229, 146, 140, 229, 133, 131, 229, 185, 180, 228, 186, 148, 230, 156, 136, 228, 184, 128, 230, 151, 165] }, .string { data := #[53, 230, 156, 136, 49, 230, 151, 165] }, .string { data := #[53, 47, 49] }] 9)
  refine (texts_eq kF _ _ _ (h.later hb) (reads_lit w1 #[.string { data := #[50, 48, 49, 57, 229, 185, 180, 53, 230, 156, 136, 49, 230, 151, 165] }, .string { data := #[50, 48, 49, 57, 229, 185, 180, 53, 230, 156, 136, 49, 230, 151, 165, 40, 230, 176, 180, 41] }, .string { data := #[50, 48, 49, 57, 47, 48, 53, 47, 48, 49] }, .string { data := #[50, 48, 49, 57, 45, 48, 53, 45, 48, 49] }, .string { data := #[228, 187, 164, 229, 146, 140, 229, 133, 131, 229, 185, 180, 53, 230, 156, 136, 49, 230, 151, 165] }, .string { data := #[228, 187, 164, 229, 146, 140, 229, 133, 131, 229, 185, 180, 228, 186, 148, 230, 156, 136, 228, 184, 128, 230, 151, 165] }, .string { data := #[53, 230, 156, 136, 49, 230, 151, 165] }, .string { data := #[53, 47, 49] }] _ _ 8 rfl rfl (by decide))).mono ?_
  rintro e w' ⟨rfl, h2⟩
  exact ⟨rfl, hb.trans (h2.mono hb.size)⟩

theorem kn_date8 : IsDate 726110 (1989 : Nat) (1 : Nat) (8 : Nat) := ⟨by decide, by kernel_rfl⟩
theorem kn_list8 : (yearForms 726110 1989 1 8).map tx = [{ data := #[49, 57, 56, 57, 229, 185, 180, 49, 230, 156, 136, 56, 230, 151, 165] }, { data := #[49, 57, 56, 57, 229, 185, 180, 49, 230, 156, 136, 56, 230, 151, 165, 40, 230, 151, 165, 41] }, { data := #[49, 57, 56, 57, 47, 48, 49, 47, 48, 56] }, { data := #[49, 57, 56, 57, 45, 48, 49, 45, 48, 56] }, { data := #[229, 185, 179, 230, 136, 144, 229, 133, 131, 229, 185, 180, 49, 230, 156, 136, 56, 230, 151, 165] }, { data := #[229, 185, 179, 230, 136, 144, 229, 133, 131, 229, 185, 180, 228, 184, 128, 230, 156, 136, 229, 133, 171, 230, 151, 165] }] := by
  have c5 : cur 726110 5 = some 3 := by decide +kernel
  have e1 : eYear 3 1989 = 1 := by decide
  unfold yearForms
  rw [c5]
  show ((firstForms (wdC ((726110 : Int) % 7).toNat) 1989 1 8 ++ sepForms 1989 1 8) ++ eraForms 3 (eYear 3 1989) 1 8).map tx = _
  rw [e1]
  simp only [firstForms, sepForms, eraForms, plainF, sepF, eraF, joinC, List.flatMap_cons, List.flatMap_nil, decC, kanC, eraC, pad, dg1, dg8, dg1989]
  kernel_rfl
theorem isB_map (s : ByteArray) (l : List (List Int)) : isB s l = (l.map tx).any fun c => c.toList == s.toList := by
  unfold isB; rw [List.any_map]; rfl
theorem kn_yes : IsForm { data := #[229, 185, 179, 230, 136, 144, 229, 133, 131, 229, 185, 180, 49, 230, 156, 136, 56, 230, 151, 165] } 726110 := by
  rw [isForm_iff kn_date8, isB_map, kn_list8]; kernel_rfl
theorem kn_one : vl (tx [49]) = 1 := vl_nm (n := 1) (by omega) (.inr (.inl ⟨0, by omega, by unfold pad; rw [dg1]; rfl⟩))
theorem kn_eight : vl (tx [56]) = 8 := vl_nm (n := 8) (by omega) (.inr (.inl ⟨0, by omega, by unfold pad; rw [dg8]; rfl⟩))
theorem kn_no : ∀ day, ¬ IsForm { data := #[229, 185, 179, 230, 136, 144, 49, 229, 185, 180, 49, 230, 156, 136, 56, 230, 151, 165] } day := by
  intro day h
  obtain ⟨k, hk, ht, hd⟩ := ref_hit h
  rcases (by omega : k = 0 ∨ k = 1 ∨ k = 2) with rfl | rfl | rfl
  · have e1 : ctA (rtxt { data := #[229, 185, 179, 230, 136, 144, 49, 229, 185, 180, 49, 230, 156, 136, 56, 230, 151, 165] }) (tx [sA 0]) = tx [49] := by kernel_rfl
    have e2 : ctA (ctR (rtxt { data := #[229, 185, 179, 230, 136, 144, 49, 229, 185, 180, 49, 230, 156, 136, 56, 230, 151, 165] }) (tx [sA 0])) (tx [sB 0]) = tx [49] := by kernel_rfl
    have e3 : ctR (ctR (rtxt { data := #[229, 185, 179, 230, 136, 144, 49, 229, 185, 180, 49, 230, 156, 136, 56, 230, 151, 165] }) (tx [sA 0])) (tx [sB 0]) = tx [56] := by kernel_rfl
    have e4 : radd { data := #[229, 185, 179, 230, 136, 144, 49, 229, 185, 180, 49, 230, 156, 136, 56, 230, 151, 165] } = 1988 := by kernel_rfl
    unfold t1 t2 t3 at hd
    rw [e1, e2, e3, e4, kn_one, kn_eight] at hd
    have e5 : day = 726110 := by rw [hd.2]; kernel_rfl
    subst e5
    rw [isForm_iff kn_date8, isB_map, kn_list8] at h
    exact absurd h (by decide +kernel)
  · exact absurd ht (by decide +kernel)
  · exact absurd ht (by decide +kernel)
theorem kn_last : ∀ day, ¬ IsForm { data := #[53, 230, 156, 136, 49, 230, 151, 165] } day := by
  intro day h
  have e : tx (joinC decC [(5, 1, [26376]), (1, 1, [26085])]) = { data := #[53, 230, 156, 136, 49, 230, 151, 165] } := by
    simp only [joinC, List.flatMap_cons, List.flatMap_nil, decC, pad, dg1, dg5]
    kernel_rfl
  rw [← e] at h
  exact last_no (m := 5) (d := 1) (List.mem_cons_self ..) day h

end Go.Proofs.YteelmjmiankflaaGreatDoor.Cal

set_option linter.unusedVariables false
set_option linter.unusedSimpArgs false
namespace Go.Proofs.YteelmjmiankflaaGreatDoor.Cal
open Go Go.RowKit Go.Proofs.YteelmjmiankflaaGreatDoor.Kit Go.Proofs.YteelmjmiankflaaGreatDoor.Utf
open Go.Proofs.YteelmjmiankflaaGreatDoor.Num

def rW2 (w : World) : World := (w.alloc rN).alloc rY
theorem rW2_below (w : World) : Below w.heap.size w (rW2 w) := by
  unfold rW2
  exact ((Below.refl _ w).alloc (Nat.le_refl _) _).alloc (by simp only [size_alloc]; omega) _
theorem rW2_size (w : World) : (rW2 w).heap.size = w.heap.size + 2 := by
  unfold rW2; simp only [size_alloc]
theorem rW2_n (w : World) (k : Nat) (hk : k < 5) : (rW2 w).cell? ⟨w.heap.size, k, none⟩ = some (.string (tx (eN k))) := by
  unfold rW2 rN rY
  rw [cell_old _ _ _ _ (by simp only [size_alloc]; omega), World.cell?_alloc_at _ _ _ _ rfl]
  rcases below5 hk with rfl | rfl | rfl | rfl | rfl <;> rfl
theorem rW2_y (w : World) (k : Nat) (hk : k < 5) : (rW2 w).cell? ⟨w.heap.size + 1, k, none⟩ = some (.int .i64 (eY k)) := by
  unfold rW2 rN rY
  rw [World.cell?_alloc_at _ _ _ _ (by simp only [size_alloc])]
  rcases below5 hk with rfl | rfl | rfl | rfl | rfl <;> rfl

theorem pre_take (l : List UInt8) (k : Nat) (hk : k < 5) : Lib.hasPrefix l (encs (eN k)) = true ↔ 6 ≤ l.length ∧ l.take 6 = encs (eN k) := by
  have h6 := eN_size k hk
  obtain ⟨N, hN⟩ : ∃ N, encs (eN k) = N := ⟨_, rfl⟩
  rw [hN] at h6 ⊢
  unfold Lib.hasPrefix
  rw [List.isPrefixOf_iff_prefix]
  constructor
  · rintro ⟨t, rfl⟩
    refine ⟨by rw [List.length_append, h6]; omega, ?_⟩
    rw [← h6, List.take_left]
  · rintro ⟨h1, h2⟩
    exact ⟨l.drop 6, by rw [← h2]; exact List.take_append_drop 6 l⟩
theorem era_step (R : ByteArray) (z : Int) (k : Nat) (hk : k < 5) :
    (¬ 6 ≤ R.size ∧ cutB k (bs R, z) = (bs R, z)) ∨ (6 ≤ R.size ∧ ((R.extract 0 6).toList == (tx (eN k)).toList) = false ∧ cutB k (bs R, z) = (bs R, z)) ∨
    (6 ≤ R.size ∧ ((R.extract 0 6).toList == (tx (eN k)).toList) = true ∧ cutB k (bs R, z) = (bs (R.extract 6 R.size), eY k - 1)) := by
  have hb : (bs R).length = R.size := bs_len R
  have e0 : bs (R.extract 0 6) = (bs R).take 6 := by
    rw [show bs (R.extract 0 6) = ((bs R).drop 0).take (6 - 0) from Lib.extract_data _ _ _]; rfl
  have e1 : bs (R.extract 6 R.size) = (bs R).drop 6 := by
    rw [show bs (R.extract 6 R.size) = ((bs R).drop 6).take (R.size - 6) from Lib.extract_data _ _ _]
    exact List.take_of_length_le (by rw [List.length_drop, hb]; omega)
  have hpt := pre_take (bs R) k hk
  by_cases h6 : 6 ≤ R.size
  · by_cases hq : (R.extract 0 6).toList = (tx (eN k)).toList
    · have hq' : bs (R.extract 0 6) = encs (eN k) := by
        rw [ByteArray.toList_eq, ByteArray.toList_eq] at hq
        rw [← bs_tx]; exact hq
      refine .inr (.inr ⟨h6, by rw [hq]; exact beq_self_eq_true _, ?_⟩)
      have hp := hpt.2 ⟨by omega, by rw [← e0]; exact hq'⟩
      unfold cutB
      show (if Lib.hasPrefix (bs R) (encs (eN k)) = true then ((bs R).drop 6, eY k - 1) else (bs R, z)) = _
      rw [if_pos hp, e1]
    · refine .inr (.inl ⟨h6, beq_eq_false_iff_ne.2 hq, cutB_no ?_⟩)
      cases hp : Lib.hasPrefix (bs R) (encs (eN k)) with
      | false => rfl
      | true =>
        have h := (hpt.1 hp).2
        rw [← e0] at h
        exact absurd (by rw [ByteArray.toList_eq, ByteArray.toList_eq]; show bs _ = bs _; rw [bs_tx]; exact h) hq
  · refine .inl ⟨h6, cutB_no ?_⟩
    cases hp : Lib.hasPrefix (bs R) (encs (eN k)) with
    | false => rfl
    | true => have h := (hpt.1 hp).1; omega

theorem tx40 : tx [40] = { data := #[40] } := by decide +kernel

def rQ0 : Obj := .cells #[.string { data := #[229, 185, 180] }, .string { data := #[230, 156, 136] }] 9
def rQ1 : Obj := .cells #[.string { data := #[47] }, .string { data := #[47] }] 9
def rQ2 : Obj := .cells #[.string { data := #[45] }, .string { data := #[45] }] 9
def rQ3 (n : Nat) : Obj := .cells #[.slice (some ⟨n, 0, none⟩) 2 2, .slice (some ⟨n + 1, 0, none⟩) 2 2, .slice (some ⟨n + 1 + 1, 0, none⟩) 2 2] 26
def rQ (w : World) : World := (((w.alloc rQ0).alloc rQ1).alloc rQ2).alloc (rQ3 w.heap.size)
theorem rQ_below (w : World) : Below w.heap.size w (rQ w) := by
  unfold rQ
  exact (((((Below.refl _ w).alloc (Nat.le_refl _) _).alloc (by simp only [size_alloc]; omega) _).alloc (by simp only [size_alloc]; omega) _).alloc (by simp only [size_alloc]; omega) _)
theorem rQ_size (w : World) : (rQ w).heap.size = w.heap.size + 4 := by
  unfold rQ; simp only [size_alloc]
theorem below3 {k : Nat} (h : k < 3) : k = 0 ∨ k = 1 ∨ k = 2 := by omega
theorem rQ_o (w : World) (k : Nat) (hk : k < 3) : (rQ w).cell? ⟨w.heap.size + 1 + 1 + 1, k, none⟩ = some (.slice (some ⟨w.heap.size + k, 0, none⟩) 2 2) := by
  unfold rQ rQ3
  rw [World.cell?_alloc_at _ _ _ _ (by simp only [size_alloc])]
  rcases below3 hk with rfl | rfl | rfl <;> rfl
theorem rQ_a (w : World) (k : Nat) (hk : k < 3) : (rQ w).cell? ⟨w.heap.size + k, 0, none⟩ = some (.string (tx [sA k])) ∧ (rQ w).cell? ⟨w.heap.size + k, 1, none⟩ = some (.string (tx [sB k])) := by
  unfold rQ rQ0 rQ1 rQ2 rQ3
  rcases below3 hk with rfl | rfl | rfl
  · constructor <;> (rw [cell_old _ _ _ _ (by simp only [size_alloc]; omega), cell_old _ _ _ _ (by simp only [size_alloc]; omega), cell_old _ _ _ _ (by simp only [size_alloc]; omega), World.cell?_alloc_at _ _ _ _ (Nat.add_zero _)]; rfl)
  · constructor <;> (rw [cell_old _ _ _ _ (by simp only [size_alloc]; omega), cell_old _ _ _ _ (by simp only [size_alloc]; omega), World.cell?_alloc_at _ _ _ _ (by simp only [size_alloc])]; rfl)
  · constructor <;> (rw [cell_old _ _ _ _ (by simp only [size_alloc]; omega), World.cell?_alloc_at _ _ _ _ (by simp only [size_alloc])]; rfl)

theorem sep_size : ∀ k, k < 3 → (tx [sA k]).size ≤ 100 ∧ (tx [sB k]).size ≤ 100 := by
  intro k hk
  rcases below3 hk with rfl | rfl | rfl <;> decide +kernel

/-- The pair of separators that gives the day. -/
def Hit (s R : ByteArray) (z : Int) (k : Nat) : Prop :=
  ∃ day, IsForm s day ∧ tk R (tx [sA k]) (tx [sB k]) = true ∧ IsDate day (t1 R (tx [sA k]) (tx [sB k]) + z) (t2 R (tx [sA k]) (tx [sB k])) (t3 R (tx [sA k]) (tx [sB k]))
theorem hit_of {s X R : ByteArray} {z : Int} (hX : X = trim (ctA s (tx [40]))) (hR : cutN 5 (bs X) = (bs R, z)) {day : Int} (h : IsForm s day) : ∃ k, k < 3 ∧ Hit s R z k := by
  obtain ⟨k, hk, h1, h2⟩ := ref_hit h
  have e1 : rtxt s = R := by unfold rtxt; rw [← hX, hR]
  have e2 : radd s = z := by unfold radd; rw [← hX, hR]
  rw [e1] at h1 h2
  rw [e2] at h2
  exact ⟨k, hk, day, h, h1, h2⟩

theorem trim_yes {T : ByteArray} (h3 : 3 ≤ T.size) (hq : ((T.extract (T.size - 3) T.size).toList == [230, 151, 165]) = true) : T.extract 0 (T.size - 3) = trim T := by
  unfold trim
  rw [if_pos ⟨h3, hq⟩]
theorem trim_else {T : ByteArray} (h3 : 3 ≤ T.size) (hq : ((T.extract (T.size - 3) T.size).toList == [230, 151, 165]) = false) : T = trim T := by
  unfold trim
  rw [if_neg]
  rintro ⟨_, h⟩
  unfold endsDay at h
  rw [hq] at h
  cases h
theorem trim_short {T : ByteArray} (h3 : ¬ 3 ≤ T.size) : T = trim T := by
  unfold trim
  rw [if_neg]
  rintro ⟨h, _⟩
  exact h3 h
theorem slice_from (T : ByteArray) (h3 : 3 ≤ T.size) : ∀ w, (Instr.slice 9 (.string T) (some (.int .i64 ((T.size : Int) - 3))) none none).run Tryz.prog w = .ok (.string (T.extract (T.size - 3) T.size)) w := fun w => by
  rw [run_slice_string_from_if w 9 _ .i64 _ Tryz.underlying9, if_pos ⟨by omega, by omega⟩, show ((T.size : Int) - 3).toNat = T.size - 3 by omega]
theorem slice_to (T : ByteArray) (h3 : 3 ≤ T.size) : ∀ w, (Instr.slice 9 (.string T) none (some (.int .i64 ((T.size : Int) - 3))) none).run Tryz.prog w = .ok (.string (T.extract 0 (T.size - 3))) w := fun w => by
  rw [run_slice_string_to_if w 9 _ .i64 _ Tryz.underlying9, if_pos ⟨by omega, by omega⟩, show ((T.size : Int) - 3).toNat = T.size - 3 by omega]
theorem valid_nat3 {Y M D : Int} (h : Valid Y M D) : ∃ y m d : Nat, Y = y ∧ M = m ∧ D = d :=
  ⟨Y.toNat, M.toNat, D.toNat, by have := h.1; omega, by have := h.2.2.1; omega, by have := h.2.2.2.2.1; omega⟩

end Go.Proofs.YteelmjmiankflaaGreatDoor.Cal

set_option linter.unusedVariables false
set_option linter.unusedSimpArgs false
namespace Go.Proofs.YteelmjmiankflaaGreatDoor.Cal
open Go Go.RowKit Go.Proofs.YteelmjmiankflaaGreatDoor.Kit Go.Proofs.YteelmjmiankflaaGreatDoor.Utf
open Go.Proofs.YteelmjmiankflaaGreatDoor.Num

set_option maxRecDepth 100000 in
set_option maxHeartbeats 2000000 in
theorem rvalue_at (p : ByteArray) (hs : p.size ≤ 1048576) (w : World) (hL : Laid w) :
    Calls Tryz.prog 34 #[.string p] w fun e w' => e = .returned (.int .i64 (vl p)) ∧ Below w.heap.size w w' := by
  have hB : Below w.heap.size w w := Below.refl _ _
  unfold vl
  cases h0 : (p.toList == [229, 133, 131]) with
  | true =>
    rw [if_pos rfl]
    go_enter Tryz.func34, Tryz.ntmps34
    go_wp2
    go_ret
    exact ⟨rfl, hB⟩
  | false =>
    rw [if_neg (by decide)]
    by_cases hp : 0 < p.size
    · obtain ⟨b0, hb0, hx0⟩ := byte_at p 0 hp
      have hg : (bs p).getD 0 0 = b0 := by rw [List.getD_eq_getElem?_getD, hb0]; rfl
      have p0 : (0 : Int) < p.size := by omega
      have c0 : ((0 : Nat) : Int) = 0 := rfl
      rw [c0] at hx0
      clear c0
      by_cases hd : 48 ≤ b0.toNat ∧ b0.toNat ≤ 57
      · have hD : vD p = p := by unfold vD; rw [hg, if_neg (by simp only [isD]; intro h; have := h.2; simp at this; omega)]
        rw [hD]
        obtain ⟨z, hz⟩ : ∃ z : Int, (b0.toNat : Int) = z := ⟨_, rfl⟩
        have u1 : ¬ z < 48 := by omega
        have u2 : ¬ 57 < z := by omega
        rw [hz] at hx0
        clear hb0 hg hd hz hD
        go_enter Tryz.func34, Tryz.ntmps34
        go_wp2
        go_loopw [4, 5] (fun nv iv wr => ∃ (k : Nat) (n : Int), nv = .int .i64 n ∧ iv = .int .i64 k ∧ VI p k n ∧ Below w.heap.size w wr) (fun _ iv _ => p.size + 1 - (intOf iv).toNat)
        case atStart => exact ⟨0, 0, rfl, rfl, VI.zero _, hB⟩
        case round =>
          obtain ⟨k, n, rfl, rfl, hv, hb⟩ := hrel
          have hbd := hv.bound
          by_cases hlt : k < p.size
          · obtain ⟨b, hb1, hb2⟩ := byte_at p k hlt
            have k0 : (0 : Int) ≤ k := by omega
            have k1 : (k : Int) < p.size := by omega
            by_cases hd : 48 ≤ b.toNat ∧ b.toNat ≤ 57
            · by_cases h5 : k ≤ 4
              · have HN := Lib.hid (hv.next hb1 hd h5)
                obtain ⟨z, hz⟩ : ∃ z : Int, (b.toNat : Int) = z := ⟨_, rfl⟩
                have z0 : 48 ≤ z := by omega
                have z1 : z ≤ 57 := by omega
                have t1 : ¬ z < 48 := by omega
                have t2 : ¬ 57 < z := by omega
                have t3 : ¬ 4 < (k : Int) := by omega
                rw [hz] at hb2 HN
                clear hb1 hd hz hv
                go_wp2
                go_roundw
                case rel => exact ⟨k + 1, _, rfl, by go_num, HN.out, hb⟩
                case measure => simp [intOf]; omega
              · have HV := Lib.hid (show vL (bs p) = 0 from vl_long (by omega))
                obtain ⟨z, hz⟩ : ∃ z : Int, (b.toNat : Int) = z := ⟨_, rfl⟩
                have t1 : ¬ z < 48 := by omega
                have t2 : ¬ 57 < z := by omega
                have t3 : 4 < (k : Int) := by omega
                rw [hz] at hb2
                clear hb1 hd hz hv
                go_wp2
                go_ret
                exact ⟨by rw [HV.out]; first | done | rfl, hb⟩
            · have HV := Lib.hid (show vL (bs p) = 0 from vl_bad hb1 hd)
              obtain ⟨z, hz⟩ : ∃ z : Int, (b.toNat : Int) = z := ⟨_, rfl⟩
              rw [hz] at hb2
              by_cases t1 : z < 48
              · clear hb1 hd hz hv
                go_wp2
                go_ret
                exact ⟨by rw [HV.out]; first | done | rfl, hb⟩
              · have t2 : 57 < z := by omega
                clear hb1 hd hz hv
                go_wp2
                go_ret
                exact ⟨by rw [HV.out]; first | done | rfl, hb⟩
          · have hk : k = p.size := by have := hv.le; omega
            subst hk
            have HV := Lib.hid hv.done
            clear hv
            go_wp2
            go_ret
            exact ⟨by rw [HV.out]; first | done | rfl, hb⟩
      · have hD : vD p = par p := by unfold vD; rw [hg, if_pos ⟨hp, by simp only [isD]; simpa using hd⟩]
        rw [hD]
        have hP := Lib.hid (rpar_at p hs)
        have hsz := par_size p
        obtain ⟨D, hDD⟩ : ∃ D, par p = D := ⟨_, rfl⟩
        rw [hDD] at hP hsz ⊢
        obtain ⟨z, hz⟩ : ∃ z : Int, (b0.toNat : Int) = z := ⟨_, rfl⟩
        rw [hz] at hx0
        have HL := Lib.hid hL
        by_cases u1 : z < 48
        · clear hb0 hg hd hz hD hDD hL
          go_enter Tryz.func34, Tryz.ntmps34
          go_wp2_with (first
            | (go_at_call 51; (with_reducible refine (hP.out _ (HL.out.next hB)).mono ?_); rintro e w1 ⟨⟨bb, rfl⟩, hb⟩; have hB := hB.trans (hb.mono hB.size); clear hb))
          go_loopw [4, 5] (fun nv iv wr => ∃ (k : Nat) (n : Int), nv = .int .i64 n ∧ iv = .int .i64 k ∧ VI D k n ∧ Below w.heap.size w wr) (fun _ iv _ => D.size + 1 - (intOf iv).toNat)
          case atStart => exact ⟨0, 0, rfl, rfl, VI.zero _, hB⟩
          case round =>
            obtain ⟨k, n, rfl, rfl, hv, hb⟩ := hrel
            have hbd := hv.bound
            by_cases hlt : k < D.size
            · obtain ⟨b, hb1, hb2⟩ := byte_at D k hlt
              have k0 : (0 : Int) ≤ k := by omega
              have k1 : (k : Int) < D.size := by omega
              by_cases hd : 48 ≤ b.toNat ∧ b.toNat ≤ 57
              · by_cases h5 : k ≤ 4
                · have HN := Lib.hid (hv.next hb1 hd h5)
                  obtain ⟨z, hz⟩ : ∃ z : Int, (b.toNat : Int) = z := ⟨_, rfl⟩
                  have z0 : 48 ≤ z := by omega
                  have z1 : z ≤ 57 := by omega
                  have t1 : ¬ z < 48 := by omega
                  have t2 : ¬ 57 < z := by omega
                  have t3 : ¬ 4 < (k : Int) := by omega
                  rw [hz] at hb2 HN
                  clear hb1 hd hz hv
                  go_wp2
                  go_roundw
                  case rel => exact ⟨k + 1, _, rfl, by go_num, HN.out, hb⟩
                  case measure => simp [intOf]; omega
                · have HV := Lib.hid (show vL (bs D) = 0 from vl_long (by omega))
                  obtain ⟨z, hz⟩ : ∃ z : Int, (b.toNat : Int) = z := ⟨_, rfl⟩
                  have t1 : ¬ z < 48 := by omega
                  have t2 : ¬ 57 < z := by omega
                  have t3 : 4 < (k : Int) := by omega
                  rw [hz] at hb2
                  clear hb1 hd hz hv
                  go_wp2
                  go_ret
                  exact ⟨by rw [HV.out]; first | done | rfl, hb⟩
              · have HV := Lib.hid (show vL (bs D) = 0 from vl_bad hb1 hd)
                obtain ⟨z, hz⟩ : ∃ z : Int, (b.toNat : Int) = z := ⟨_, rfl⟩
                rw [hz] at hb2
                by_cases t1 : z < 48
                · clear hb1 hd hz hv
                  go_wp2
                  go_ret
                  exact ⟨by rw [HV.out]; first | done | rfl, hb⟩
                · have t2 : 57 < z := by omega
                  clear hb1 hd hz hv
                  go_wp2
                  go_ret
                  exact ⟨by rw [HV.out]; first | done | rfl, hb⟩
            · have hk : k = D.size := by have := hv.le; omega
              subst hk
              have HV := Lib.hid hv.done
              clear hv
              go_wp2
              go_ret
              exact ⟨by rw [HV.out]; first | done | rfl, hb⟩
        · have u2 : 57 < z := by omega
          clear hb0 hg hd hz hD hDD hL
          go_enter Tryz.func34, Tryz.ntmps34
          go_wp2_with (first
            | (go_at_call 51; (with_reducible refine (hP.out _ (HL.out.next hB)).mono ?_); rintro e w1 ⟨⟨bb, rfl⟩, hb⟩; have hB := hB.trans (hb.mono hB.size); clear hb))
          go_loopw [4, 5] (fun nv iv wr => ∃ (k : Nat) (n : Int), nv = .int .i64 n ∧ iv = .int .i64 k ∧ VI D k n ∧ Below w.heap.size w wr) (fun _ iv _ => D.size + 1 - (intOf iv).toNat)
          case atStart => exact ⟨0, 0, rfl, rfl, VI.zero _, hB⟩
          case round =>
            obtain ⟨k, n, rfl, rfl, hv, hb⟩ := hrel
            have hbd := hv.bound
            by_cases hlt : k < D.size
            · obtain ⟨b, hb1, hb2⟩ := byte_at D k hlt
              have k0 : (0 : Int) ≤ k := by omega
              have k1 : (k : Int) < D.size := by omega
              by_cases hd : 48 ≤ b.toNat ∧ b.toNat ≤ 57
              · by_cases h5 : k ≤ 4
                · have HN := Lib.hid (hv.next hb1 hd h5)
                  obtain ⟨z, hz⟩ : ∃ z : Int, (b.toNat : Int) = z := ⟨_, rfl⟩
                  have z0 : 48 ≤ z := by omega
                  have z1 : z ≤ 57 := by omega
                  have t1 : ¬ z < 48 := by omega
                  have t2 : ¬ 57 < z := by omega
                  have t3 : ¬ 4 < (k : Int) := by omega
                  rw [hz] at hb2 HN
                  clear hb1 hd hz hv
                  go_wp2
                  go_roundw
                  case rel => exact ⟨k + 1, _, rfl, by go_num, HN.out, hb⟩
                  case measure => simp [intOf]; omega
                · have HV := Lib.hid (show vL (bs D) = 0 from vl_long (by omega))
                  obtain ⟨z, hz⟩ : ∃ z : Int, (b.toNat : Int) = z := ⟨_, rfl⟩
                  have t1 : ¬ z < 48 := by omega
                  have t2 : ¬ 57 < z := by omega
                  have t3 : 4 < (k : Int) := by omega
                  rw [hz] at hb2
                  clear hb1 hd hz hv
                  go_wp2
                  go_ret
                  exact ⟨by rw [HV.out]; first | done | rfl, hb⟩
              · have HV := Lib.hid (show vL (bs D) = 0 from vl_bad hb1 hd)
                obtain ⟨z, hz⟩ : ∃ z : Int, (b.toNat : Int) = z := ⟨_, rfl⟩
                rw [hz] at hb2
                by_cases t1 : z < 48
                · clear hb1 hd hz hv
                  go_wp2
                  go_ret
                  exact ⟨by rw [HV.out]; first | done | rfl, hb⟩
                · have t2 : 57 < z := by omega
                  clear hb1 hd hz hv
                  go_wp2
                  go_ret
                  exact ⟨by rw [HV.out]; first | done | rfl, hb⟩
            · have hk : k = D.size := by have := hv.le; omega
              subst hk
              have HV := Lib.hid hv.done
              clear hv
              go_wp2
              go_ret
              exact ⟨by rw [HV.out]; first | done | rfl, hb⟩
    · have hD : vD p = p := by unfold vD; rw [if_neg (fun h => hp h.1)]
      rw [hD]
      have p0 : ¬ (0 : Int) < p.size := by omega
      clear hD
      go_enter Tryz.func34, Tryz.ntmps34
      go_wp2
      go_loopw [4, 5] (fun nv iv wr => ∃ (k : Nat) (n : Int), nv = .int .i64 n ∧ iv = .int .i64 k ∧ VI p k n ∧ Below w.heap.size w wr) (fun _ iv _ => p.size + 1 - (intOf iv).toNat)
      case atStart => exact ⟨0, 0, rfl, rfl, VI.zero _, hB⟩
      case round =>
        obtain ⟨k, n, rfl, rfl, hv, hb⟩ := hrel
        have hbd := hv.bound
        by_cases hlt : k < p.size
        · obtain ⟨b, hb1, hb2⟩ := byte_at p k hlt
          have k0 : (0 : Int) ≤ k := by omega
          have k1 : (k : Int) < p.size := by omega
          by_cases hd : 48 ≤ b.toNat ∧ b.toNat ≤ 57
          · by_cases h5 : k ≤ 4
            · have HN := Lib.hid (hv.next hb1 hd h5)
              obtain ⟨z, hz⟩ : ∃ z : Int, (b.toNat : Int) = z := ⟨_, rfl⟩
              have z0 : 48 ≤ z := by omega
              have z1 : z ≤ 57 := by omega
              have t1 : ¬ z < 48 := by omega
              have t2 : ¬ 57 < z := by omega
              have t3 : ¬ 4 < (k : Int) := by omega
              rw [hz] at hb2 HN
              clear hb1 hd hz hv
              go_wp2
              go_roundw
              case rel => exact ⟨k + 1, _, rfl, by go_num, HN.out, hb⟩
              case measure => simp [intOf]; omega
            · have HV := Lib.hid (show vL (bs p) = 0 from vl_long (by omega))
              obtain ⟨z, hz⟩ : ∃ z : Int, (b.toNat : Int) = z := ⟨_, rfl⟩
              have t1 : ¬ z < 48 := by omega
              have t2 : ¬ 57 < z := by omega
              have t3 : 4 < (k : Int) := by omega
              rw [hz] at hb2
              clear hb1 hd hz hv
              go_wp2
              go_ret
              exact ⟨by rw [HV.out]; first | done | rfl, hb⟩
          · have HV := Lib.hid (show vL (bs p) = 0 from vl_bad hb1 hd)
            obtain ⟨z, hz⟩ : ∃ z : Int, (b.toNat : Int) = z := ⟨_, rfl⟩
            rw [hz] at hb2
            by_cases t1 : z < 48
            · clear hb1 hd hz hv
              go_wp2
              go_ret
              exact ⟨by rw [HV.out]; first | done | rfl, hb⟩
            · have t2 : 57 < z := by omega
              clear hb1 hd hz hv
              go_wp2
              go_ret
              exact ⟨by rw [HV.out]; first | done | rfl, hb⟩
        · have hk : k = p.size := by have := hv.le; omega
          subst hk
          have HV := Lib.hid hv.done
          clear hv
          go_wp2
          go_ret
          exact ⟨by rw [HV.out]; first | done | rfl, hb⟩

set_option maxRecDepth 100000 in
theorem three_at (s a b : ByteArray) (hs : s.size ≤ 1048576) (ha : a.size ≤ 100) (hb0 : b.size ≤ 100) (w : World) (hL : Laid w) :
    Calls Tryz.prog 17 #[.string s, .string a, .string b] w fun e w' => e = .returned (.tuple #[.int .i64 (t1 s a b), .int .i64 (t2 s a b), .int .i64 (t3 s a b), .bool (tk s a b)]) ∧ Below w.heap.size w w' := by
  have hB : Below w.heap.size w w := Below.refl _ _
  unfold t1 t2 t3 tk
  have s1 := ctA_size s a
  have s2 := ctR_size s a
  have s3 := ctA_size (ctR s a) b
  have s4 := ctR_size (ctR s a) b
  have H1 := Lib.hid (rcut_at s a hs ha)
  have H2 := Lib.hid (rcut_at (ctR s a) b (by omega) hb0)
  have V1 := Lib.hid (rvalue_at (ctA s a) (by omega))
  have V2 := Lib.hid (rvalue_at (ctA (ctR s a) b) (by omega))
  have V3 := Lib.hid (rvalue_at (ctR (ctR s a) b) (by omega))
  have L1 := vl_le (ctA s a)
  have L2 := vl_le (ctA (ctR s a) b)
  have L3 := vl_le (ctR (ctR s a) b)
  clear s1 s2 s3 s4 hs ha hb0
  obtain ⟨v1, e1⟩ : ∃ v, vl (ctA s a) = v := ⟨_, rfl⟩
  obtain ⟨v2, e2⟩ : ∃ v, vl (ctA (ctR s a) b) = v := ⟨_, rfl⟩
  obtain ⟨v3, e3⟩ : ∃ v, vl (ctR (ctR s a) b) = v := ⟨_, rfl⟩
  rw [e1] at V1 L1 ⊢
  rw [e2] at V2 L2 ⊢
  rw [e3] at V3 L3 ⊢
  clear e1 e2 e3
  obtain ⟨A1, e1⟩ : ∃ v, ctA s a = v := ⟨_, rfl⟩
  obtain ⟨A2, e2⟩ : ∃ v, ctA (ctR s a) b = v := ⟨_, rfl⟩
  obtain ⟨A3, e3⟩ : ∃ v, ctR (ctR s a) b = v := ⟨_, rfl⟩
  obtain ⟨k2, e5⟩ : ∃ v, ctK (ctR s a) b = v := ⟨_, rfl⟩
  rw [e2, e3, e5] at H2
  rw [e2] at V2
  rw [e3] at V3
  rw [e1] at H1 V1
  rw [e5]
  clear e1 e2 e3 e5
  obtain ⟨R, e4⟩ : ∃ v, ctR s a = v := ⟨_, rfl⟩
  obtain ⟨k1, e6⟩ : ∃ v, ctK s a = v := ⟨_, rfl⟩
  rw [e4] at H2 H1
  rw [e6] at H1 ⊢
  clear e4 e6
  cases k1 <;> cases k2 <;> (
    go_enter Tryz.func17, Tryz.ntmps17
    go_wp2_with (first
      | (go_at_call 16; ((with_reducible refine (H1.out _).mono ?_) <;> clear H1); rintro e w1 ⟨rfl, hb⟩; have hB := hB.trans (hb.mono hB.size); clear hb)
      | (go_at_call 16; (with_reducible refine (H2.out _).mono ?_); rintro e w1 ⟨rfl, hb⟩; have hB := hB.trans (hb.mono hB.size); clear hb)
      | (go_at_call 34; (first | (with_reducible refine (V1.out _ (hL.next hB)).mono ?_) | (with_reducible refine (V2.out _ (hL.next hB)).mono ?_) | (with_reducible refine (V3.out _ (hL.next hB)).mono ?_)); rintro e w1 ⟨rfl, hb⟩; have hB := hB.trans (hb.mono hB.size); clear hb))
    (try simp only [Exit.inBlock, Exit.then]); refine bodyPost_ret (results_tmp4 rfl _ _ _) rfl ?_
    exact ⟨rfl, hB⟩)

end Go.Proofs.YteelmjmiankflaaGreatDoor.Cal
