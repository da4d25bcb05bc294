/-
  Contract of the reference's Parse.
-/
import Derived.Test.YtfkdlnaakmgclaaDoorNumAF
set_option linter.unusedVariables false
set_option linter.unusedSimpArgs false
namespace Go.Proofs.YtfkdlnaakmgclaaDoor.Num
open Go Go.RowKit Go.Proofs.YtfkdlnaakmgclaaDoor.Kit Go.Proofs.YtfkdlnaakmgclaaDoor.Utf

theorem str_eq (x s : ByteArray) : (x.toList == s.toList) = decide (x = s) := by
  rw [ByteArray.toList_eq, ByteArray.toList_eq]
  by_cases e : x = s
  · rw [e]; simp
  · rw [decide_eq_false e]
    simp only [beq_eq_false_iff_ne]
    exact fun h => e (ba_ext h)

set_option maxHeartbeats 1000000 in
theorem rparse_any (s : ByteArray) (w : World) (hs : s.size ≤ 140737488355000) (hL : Laid w) :
    Calls Tryd.prog 22 #[.string s] w (Parsed s w) := by
  have HDW := Lib.hid (fun w => digitwise_any s w hs)
  have HG := Lib.hid (fun w => guess_any s w hs)
  go_enter Tryd.func22, Tryd.ntmps22
  go_wp2_with (go_at_call 42; fail)
  refine (HDW.out _).mono ?_
  rintro e w1 ⟨es, rfl, hez, hes, hb1⟩
  obtain ⟨D, hD⟩ : ∃ D, dg es = D := ⟨_, rfl⟩
  have hDz : D.size ≤ maxLen := by rw [← hD, dg_size]; unfold maxLen; omega
  rw [hD]
  have HPS := Lib.hid (rpos_any D w1 hDz (hL.next hb1))
  obtain ⟨x, hx⟩ : ∃ x, wOut posC D = x := ⟨_, rfl⟩
  rw [hx] at HPS
  have hxs := str_eq x s
  -- what the first test rests on
  have hpos : ¬ (isDec D = true ∧ x = s) → ∀ ds, DS ds → s ≠ tx (posC ds) := fun hn ds hds he => by
    have e1 := hes ds hds.2.2.1 he
    have e2 : D = dg ds := by rw [← hD, e1]
    refine hn ⟨by rw [e2]; exact isDec_dg hds, ?_⟩
    rw [← hx, e2, wOut_dg _ hds]; exact he.symm
  have HPOS := Lib.hid hpos
  have hyes : isDec D = true → x = s → Parsed s w (.returned (.tuple #[.string D, .bool true])) w1 := fun h1 h2 =>
    ⟨.inl ⟨D, ⟨h1, .inr (.inl (by rw [hx]; exact h2))⟩, rfl⟩, hb1⟩
  have HYES := Lib.hid (show isDec D = true → x = s → ∀ w2, Below w.heap.size w w2 → Parsed s w (.returned (.tuple #[.string D, .bool true])) w2 from fun h1 h2 w2 hb =>
    ⟨.inl ⟨D, ⟨h1, .inr (.inl (by rw [hx]; exact h2))⟩, rfl⟩, hb⟩)
  clear hpos hyes hx hes hD hez
  by_cases hhit : isDec D = true ∧ x = s
  · have hd := hhit.1
    have HY := Lib.hid (HYES.out hhit.1 hhit.2)
    rw [hd] at HPS
    rw [decide_eq_true hhit.2] at hxs
    clear hhit hd HYES HPOS
    go_wp2_with (go_at_call 15; refine HPS.out.mono ?_; rintro e w2 ⟨rfl, hb2⟩)
    go_ret2
    exact HY.out _ (hb1.trans (hb2.mono hb1.size))
  · have HN := Lib.hid (HPOS.out hhit)
    -- the second half of the walk, behind the first test
    obtain ⟨b, hbd⟩ : ∃ b, isDec D = b := ⟨_, rfl⟩
    rw [hbd] at HPS hhit
    have hcase : b = false ∨ (b = true ∧ (x.toList == s.toList) = false) := by
      cases b with
      | false => exact .inl rfl
      | true => exact .inr ⟨rfl, by rw [hxs]; exact decide_eq_false (fun e => hhit ⟨rfl, e⟩)⟩
    clear hhit HPOS HYES hbd hxs
    rcases hcase with rfl | ⟨rfl, hxs⟩
    all_goals
      go_wp2_with (first
        | (go_at_call 15; refine HPS.out.mono ?_; rintro e w2 ⟨rfl, hb2⟩; have hB := hb1.trans (hb2.mono hb1.size))
        | (go_at_call 43; fail))
      refine (HG.out _).mono ?_
      rintro e w3 ⟨gs, rfl, hgs, hall, hb3⟩
      have hB3 := hB.trans (hb3.mono hB.size)
      obtain ⟨g, hg⟩ : ∃ g, dg gs = g := ⟨_, rfl⟩
      have hgz : g.size ≤ maxLen := by rw [← hg, dg_size]; have := hgs.2.1; unfold maxLen; omega
      have hgd : isDec g = true := by rw [← hg]; exact isDec_dg hgs
      rw [hg]
      obtain ⟨y, hy⟩ : ∃ y, wOut kanjiC g = y := ⟨_, rfl⟩
      obtain ⟨z, hz⟩ : ∃ z, wOut formC g = z := ⟨_, rfl⟩
      have HK := Lib.hid (writer_at rkanji_any g y true hgz hy hgd)
      have HF := Lib.hid (writer_at rform_any g z true hgz hz hgd)
      have hys := str_eq y s
      have hzs := str_eq z s
      have HYES := Lib.hid (show y = s ∨ z = s → ∀ w2, Below w.heap.size w w2 → Parsed s w (.returned (.tuple #[.string g, .bool true])) w2 from fun h w2 hb => by
        refine ⟨.inl ⟨g, ⟨hgd, ?_⟩, rfl⟩, hb⟩
        rcases h with h | h
        · exact .inl (hy.trans h)
        · exact .inr (.inr (hz.trans h)))
      have HNO := Lib.hid (show ¬ y = s → ¬ z = s → ∀ w2, Below w.heap.size w w2 → Parsed s w (.returned (.tuple #[.string { data := #[] }, .bool false])) w2 from fun h1 h2 w2 hb => by
        refine ⟨.inr ⟨fun d hd => ?_, rfl⟩, hb⟩
        obtain ⟨hdd, hd3⟩ := hd
        obtain ⟨k1, k2⟩ := (isDec_iff d).1 hdd
        obtain ⟨ds, hds⟩ : ∃ ds, ofDg d = ds := ⟨_, rfl⟩
        rw [hds] at k1 k2
        subst k2
        rw [wOut_dg _ k1, wOut_dg _ k1, wOut_dg _ k1] at hd3
        rcases hd3 with e | e | e
        · have e1 := hall (kanjiC ds) (e3_W k1 (.inl rfl)) e.symm
          rw [guess_math k1 (.inl rfl)] at e1
          refine h1 ?_
          rw [← hy, ← hg, e1, wOut_dg _ k1]; exact e
        · exact HN.out ds k1 e.symm
        · have e1 := hall (formC ds) (e3_W k1 (.inr rfl)) e.symm
          rw [guess_math k1 (.inr rfl)] at e1
          refine h2 ?_
          rw [← hz, ← hg, e1, wOut_dg _ k1]; exact e)
      clear hall hy hz hg hgs hgd hgz
      have arms : True := trivial
      by_cases ey : y = s
      · have HY := Lib.hid (HYES.out (.inl ey))
        rw [decide_eq_true ey] at hys
        clear HYES HNO ey hzs
        go_wp2_with (first
          | (go_at_call 13; refine (HK.out _ (hL.next hB3)).mono ?_; rintro e w4 ⟨rfl, hb4⟩; have hB4 := hB3.trans (hb4.mono hB3.size))
          | (go_at_call 17; refine (HF.out _ (hL.next hB4)).mono ?_; rintro e w5 ⟨rfl, hb5⟩; have hB5 := hB4.trans (hb5.mono hB4.size)))
        go_ret2
        exact HY.out _ hB5
      · by_cases ez : z = s
        · have HY := Lib.hid (HYES.out (.inr ez))
          rw [decide_eq_false ey] at hys
          rw [decide_eq_true ez] at hzs
          clear HYES HNO ey ez
          go_wp2_with (first
            | (go_at_call 13; refine (HK.out _ (hL.next hB3)).mono ?_; rintro e w4 ⟨rfl, hb4⟩; have hB4 := hB3.trans (hb4.mono hB3.size))
            | (go_at_call 17; refine (HF.out _ (hL.next hB4)).mono ?_; rintro e w5 ⟨rfl, hb5⟩; have hB5 := hB4.trans (hb5.mono hB4.size)))
          go_ret2
          exact HY.out _ hB5
        · have HY := Lib.hid (HNO.out ey ez)
          rw [decide_eq_false ey] at hys
          rw [decide_eq_false ez] at hzs
          clear HYES HNO ey ez
          go_wp2_with (first
            | (go_at_call 13; refine (HK.out _ (hL.next hB3)).mono ?_; rintro e w4 ⟨rfl, hb4⟩; have hB4 := hB3.trans (hb4.mono hB3.size))
            | (go_at_call 17; refine (HF.out _ (hL.next hB4)).mono ?_; rintro e w5 ⟨rfl, hb5⟩; have hB5 := hB4.trans (hb5.mono hB4.size)))
          go_ret2
          exact HY.out _ hB5

theorem Parsed.same {s : ByteArray} {w1 w2 w1' w2' : World} {e1 e2 : Ending} (h1 : Parsed s w1 e1 w1') (h2 : Parsed s w2 e2 w2') : e1 = e2 := by
  rcases h1.1 with ⟨d, hd, rfl⟩ | ⟨hn, rfl⟩
  · rcases h2.1 with ⟨d', hd', rfl⟩ | ⟨hn', rfl⟩
    · rw [hd.unique hd']
    · exact absurd hd (hn' d)
  · rcases h2.1 with ⟨d', hd', rfl⟩ | ⟨hn', rfl⟩
    · exact absurd hd' (hn d')
    · rfl

end Go.Proofs.YtfkdlnaakmgclaaDoor.Num
