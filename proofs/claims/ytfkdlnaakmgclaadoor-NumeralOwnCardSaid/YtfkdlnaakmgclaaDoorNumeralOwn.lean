/-
  NumeralOwn returns true for every string: the list that Forms returns is new memory. Conditions: the tables of package numeral as start-up code lays them.
-/
import Derived.Test.YtfkdlnaakmgclaaDoorNumZ
import Derived.Laws.AppendOwnNone
import Derived.OpenShut
import Derived.ShutString
import Derived.ChangeOld
import Derived.LaidMore
import Derived.Lay
import Derived.SevenTiedAt
import Derived.SizedLaws
import Derived.Test.YtfkdlnaakmgclaaDoorCards
import Derived.Test.YtfkdlnaakmgclaaDoorTie
import Derived.Test.YtfkdlnaakmgclaaDoorNumO
set_option linter.unusedVariables false
set_option linter.unusedSimpArgs false
namespace Go.Proofs.YtfkdlnaakmgclaaDoor.numeralOwn
open Go Go.RowKit Go.ChangeShapes Go.WideShapes Go.ChangeAt Go.Proofs.YtfkdlnaakmgclaaDoor Go.Proofs.YtfkdlnaakmgclaaDoor.Kit
open Go.ChangeMaps (open_string shut_string)
open Go.Proofs.YtfkdlnaakmgclaaDoor.Num Go.Proofs.YtfkdlnaakmgclaaDoor.Utf

set_option maxRecDepth 100000 in
theorem walk (a0 : ByteArray) (w : World) (w0 : a0.size ≤ maxLen) (s0 : a0.size ≤ 140737488351232) (hL : Laid w) :
    Calls Tryd.prog 10 #[.string a0] w fun e w' => e = .returned (.bool true) ∧ Below w.heap.size w w' := by
  have H0 := Lib.hid (fun w hL => forms_any a0 w (by omega) hL)
  clear w0 s0
  obtain ⟨l, hl⟩ : ∃ l, formsOut a0 = l := ⟨_, rfl⟩
  have hl6 : l.length ≤ 6 := by rw [← hl]; exact fAcc_len _ 6 (by omega)
  rw [hl] at H0
  clear hl
  obtain ⟨i0, hi, hz0, hz1, hz2⟩ := info_parts info_str
  go_enter Tryd.func10, Tryd.ntmps10
  go_wp2_with (go_at_call 24; fail)
  refine (H0.out w hL).mono ?_
  rintro e w1 ⟨v, rfl, hown, hb1⟩
  have hemp := own_empty w1 9 w1.heap.size w1.heap.size 1 rfl (Nat.le_refl _)
  have hba : Below w.heap.size w (w1.alloc (.cells #[] 9)) := hb1.alloc hb1.size _
  have hb1a : Below w1.heap.size w1 (w1.alloc (.cells #[] 9)) := (Below.refl _ w1).alloc (Nat.le_refl _) _
  rcases id hown.2 with ⟨hv, h0⟩ | ⟨g, cap, cur, hv, hgb, hg, hnc, hrest⟩
  · subst hv
    have hle : l = [] := List.eq_nil_of_length_eq_zero h0
    subst hle
    have hme : OwnL w1.heap.size (w1.alloc (.cells #[] 9)) (.slice (some ⟨w1.heap.size, 0, none⟩) 0 0) [] := hemp
    have HME := Lib.hid hme
    clear hown h0 hme hl6
    go_wp2_with (refine wpList_append_own_none rfl _ _ 27 rfl w1.heap.size 9 i0 1 Tryd.underlying27 hi _ 0 [] rfl hemp rfl ?_)
    obtain ⟨W, hW⟩ : ∃ W, w1.alloc (.cells #[] 9) = W := ⟨_, rfl⟩
    rw [hW] at hba HME ⊢
    clear hW hemp hb1a
    go_loopw [5, 13] (fun _ iv wr => iv = .int .i64 0 ∧ wr = W) (fun _ iv _ => 0)
    case atStart => exact ⟨rfl, rfl⟩
    case round =>
      obtain ⟨rfl, rfl⟩ := hrel
      go_wp2_with (go_at_call 24; fail)
      refine (H0.out wr (hL.next hba)).mono ?_
      rintro e w4 ⟨v2, rfl, hown2, hb4⟩
      have hb5 := hba.trans (hb4.mono hba.size)
      have hsame := Lib.hid (same_eq [] v2 (.slice (some ⟨w1.heap.size, 0, none⟩) 0 0) w4 (own_reads hown2) (HME.out.later hb4).reads)
      clear hown2
      go_wp2_with (first
        | (go_at_call 23; refine hsame.out.mono ?_; rintro e w5 ⟨rfl, hb6⟩; have hb7 := hb5.trans (hb6.mono hb5.size))
        | (go_at_call 20; refine (works_any _ (hL.next hb7)).mono ?_; rintro e w6 ⟨rfl, hb8⟩))
      go_ret
      exact ⟨rfl, hb7.trans (hb8.mono hb7.size)⟩
  · subst hv
    have hnews : ∀ (j : Nat) u, (l.map Value.string)[j]? = some u → (w1.alloc (.cells #[] 9)).cell? ((⟨g, 0, none⟩ : Addr).add j) = some u := fun j u hj => by
      have hj' : j < l.length := by have := (List.getElem?_eq_some_iff.1 hj).1; simpa using this
      obtain ⟨g', e1, _, hlt, hc, _⟩ := own_cells hown (by omega)
      cases e1
      have e : (⟨g, 0, none⟩ : Addr).add j = ⟨g, j, none⟩ := by simp [Addr.add]; omega
      rw [e, hb1a.cell (p := ⟨g, j, none⟩) hlt]
      exact hc j u hj
    have hone : ∀ u ∈ l.map Value.string, u.oneCell' = true := fun u hu => by obtain ⟨x, _, rfl⟩ := List.mem_map.1 hu; rfl
    have hglt : g < w1.heap.size := (Array.getElem?_eq_some_iff.1 hg).1
    have HNW := Lib.hid hnews
    have HON := Lib.hid hone
    clear hnews hone hrest hg
    go_wp2_with (at_builtin; refine wpList_append_own _ rfl _ _ _ rfl w1.heap.size 9 i0 (.string { data := #[] }) 1 16 Tryd.underlying27 hi hz0 hz1 hz2 rfl (by decide) _ 0 [] rfl hemp ⟨g, 0, none⟩ l.length cap (l.map Value.string) rfl (by simp) HNW.out HON.out ?c3 ?c4 ?c5 ?_)
    case c3 => unfold maxLen; omega
    case c4 => omega
    case c5 => simp
    intro v' w3 hown3 hg3 hiff
    clear hiff
    have hb3 := below_own hba hemp (by exact hb1.size) (by exact hba.size) hg3
    have hb13 : Below w1.heap.size w1 w3 := below_own hb1a hemp (Nat.le_refl _) (by exact hb1a.size) hg3
    have hm3 : OwnL w1.heap.size w3 v' l := by
      first
        | exact hown3
        | (have e : 0 + l.length = l.length := by omega
           rw [e] at hown3
           exact hown3)
    have hl3 := own_later hown hb13
    obtain ⟨a', cap', rfl⟩ := own_shape hm3
    have HM3 := Lib.hid hm3
    obtain ⟨n, hn⟩ : ∃ n, l.length = n := ⟨_, rfl⟩
    rw [hn] at hl3 hnc
    have hl3' : ∃ xs, w3.ownsRow w.heap.size 9 1 (.slice (some ⟨g, 0, none⟩) n cap) n xs := ⟨_, hl3⟩
    have HNN := Lib.hid hn
    have HL3 := Lib.hid hl3'
    clear hown3 hg3 hown hemp hb1a hb13 hm3 hl3 hl3' hba HNW HON
    go_wp2
    clear hn
    go_loopw [5, 13] (fun _ iv wr => ∃ i : Nat, iv = .int .i64 i ∧ i ≤ n ∧ Hid (∃ xs, wr.ownsRow w.heap.size 9 1 (.slice (some ⟨g, 0, none⟩) n cap) n xs) ∧ Hid (OwnL w1.heap.size wr (.slice a' l.length cap') l) ∧ Below w.heap.size w wr) (fun _ iv _ => n - (intOf iv).toNat)
    case atStart => exact ⟨0, rfl, Nat.zero_le _, HL3, HM3, hb3⟩
    case round =>
      obtain ⟨i, rfl, hin, hx, hm, hb⟩ := hrel
      by_cases hlt : i < n
      · obtain ⟨xs, ho⟩ := hx.out
        obtain ⟨g', e1, _, hgl, hc, hf⟩ := own_cells ho (by omega)
        cases e1
        have hxl : i < xs.length := by have := ho.1; omega
        have c1 := hc i xs[i] (List.getElem?_eq_getElem hxl)
        have f1 := hf i
        have HO := Lib.hid (show ∃ xs, (wr.setCell ⟨g, i, none⟩ (.string { data := #[120] })).ownsRow w.heap.size 9 1 (.slice (some ⟨g, 0, none⟩) n cap) n xs from ⟨_, own_set ho hlt _⟩)
        have HM := Lib.hid (show OwnL w1.heap.size (wr.setCell ⟨g, i, none⟩ (.string { data := #[120] })) (.slice a' l.length cap') l from own_setCell_below hm.out hglt _)
        have hb2 := hb.setCell (p := ⟨g, i, none⟩) hgb (.string { data := #[120] })
        obtain ⟨y, hy⟩ : ∃ y, xs[i] = y := ⟨_, rfl⟩
        rw [hy] at c1
        have hll : i < l.length := by rw [HNN.out]; exact hlt
        clear hc hf ho hy hxl hx hm
        go_wp2
        go_roundw
        case rel => exact ⟨i + 1, by go_num, by omega, HO, HM, hb2⟩
        case measure => simp [intOf] <;> omega
      · have hin' : i = n := by omega
        subst hin'
        clear hlt
        go_wp2_with (go_at_call 24; fail)
        refine (H0.out wr (hL.next hb)).mono ?_
        rintro e w4 ⟨v2, rfl, hown2, hb4⟩
        have hb5 := hb.trans (hb4.mono hb.size)
        have hsame := Lib.hid (same_eq l v2 (.slice a' l.length cap') w4 (own_reads hown2) (hm.out.later hb4).reads)
        clear hown2
        go_wp2_with (first
          | (go_at_call 23; refine hsame.out.mono ?_; rintro e w5 ⟨rfl, hb6⟩; have hb7 := hb5.trans (hb6.mono hb5.size))
          | (go_at_call 20; refine (works_any _ (hL.next hb7)).mono ?_; rintro e w6 ⟨rfl, hb8⟩))
        go_ret
        exact ⟨rfl, hb7.trans (hb8.mono hb7.size)⟩
theorem own : ownKnob Tryd.prog.godebug = none := by kernel_rfl
theorem laidOut : laidOutB Tryd.prog = true := by kernel_rfl

set_option maxRecDepth 100000 in
theorem lifted (os : Os) (started : os.Started) (H : Type) (enc : TypeId × Value → H) :
    ReturnsInHanded {} Tryd.checked os 10 .any (fun w args => (Rows.numeralOwnSpec.pre enc Tryd.prog Tryd.f10 Rows.numeralOwnRow.domain false w args ∧ laidMetH Tryd.prog Rows.numeralOwnRow.laid w) ∧ sizedMet enc Tryd.prog Tryd.f10 (OpenSpec.ofChange Rows.numeralOwnSpec) false w args)
      (Rows.numeralOwnSpec.post enc Tryd.prog Tryd.f10 false true false false) := by
  refine returnsInHanded_of_change_and (C := Tryd.checked) (X := fun w _ => laidMetH Tryd.prog Rows.numeralOwnRow.laid w) (fun _ _ _ hh h => h.of_heap hh) own started (by kernel_rfl) Tryd.func10
    (ChangeSpec.witness_shaped (enc := enc) (C := Tryd.checked) (os := os) (X := fun w _ => laidMetH Tryd.prog Rows.numeralOwnRow.laid w) false (World.laidAll Tryd.prog os Rows.numeralOwnRow.laid) #[.string ByteArray.empty] 8 (World.laidAll_os _ _ _)
      (World.shaped_of_ZipB (by kernel_rfl) (by kernel_rfl)) (by kernel_rfl) (by kernel_rfl) (by kernel_rfl)
      (by rw [MakeChecks.laidMetH_plain _ _ _ (by kernel_rfl)]; exact laidMet_laidAll _ (by kernel_rfl) (by kernel_rfl))) ?_
  intro W base args ds gs before hval0 hW hcnd hsz0 hL _
  have hval : ∀ (j : Nat) t v, Tryd.f10.params[j]? = some t → args[j]? = some v → Value.okWide Tryd.prog W .any base t v := hval0
  have hW' := hW
  obtain ⟨p, q, hA0, hV, rfl, hfz, hnd⟩ := hW
  have hA : DataW.TrodAll enc Tryd.prog W 0 (fun _ => true) true Tryd.f10.params.toList args.toList ds p := hA0
  rw [Tryd.params10] at hA hval
  obtain ⟨v0, vs0, d0, ds0, p0, q0, hargs, rfl, rfl, h0, r0⟩ := trodAll_cons hA
  obtain ⟨rfl, rfl, rfl⟩ := trodAll_nil r0
  obtain rfl : args = #[v0] := by cases args; simp_all
  obtain ⟨rfl, rfl⟩ := trodVars_none hV
  obtain ⟨a0, rfl, rfl, rfl, w0⟩ := open_string Tryd.underlying9 (hval 0 9 v0 rfl rfl) h0
  have hsz : (DataW.weightsEach Tryd.prog (Tryd.f10.params.toList ++ Rows.numeralOwnSpec.plain.varTypes Tryd.prog) (_ ++ _)).all (· ≤ reachBytes) = true := hsz0
  rw [Tryd.params10] at hsz
  have sz0 := sized_string hsz (j := 0) (t := 9) rfl rfl
  have hLaid : Laid W := Laid.of hL (fun _ => MakeChecks.laidMetH_plain _ _ _ (by kernel_rfl))
    (List.mem_of_getElem? (i := 4) (by kernel_rfl)) (List.mem_of_getElem? (i := 5) (by kernel_rfl)) (List.mem_of_getElem? (i := 6) (by kernel_rfl)) (List.mem_of_getElem? (i := 7) (by kernel_rfl)) (List.mem_of_getElem? (i := 8) (by kernel_rfl))
  clear hA0 hval0
  refine (walk a0 W w0 (by have := sz0; simp only [reachBytes, Array.length_toList] at this; exact this) hLaid).mono fun e W' ⟨he, bel⟩ => ?_
  subst he
  exact ⟨_, rfl, _, _, _, [], _, [], hW', trodAll_mk1 (shut_bool Tryd.underlying4 _), (trodAll_cons_mk (shut_string Tryd.underlying9 w0) trodAll_mk0), rfl, bel.frame _, fun h => by cases h⟩

theorem over : Rows.numeralOwnRow.holds Tryd.pinned (OpenSpec.ofChange Rows.numeralOwnSpec) :=
  OpenClaim.holds_of_wide 10 Tryd.f10 rfl rfl rfl rfl rfl rfl rfl ⟨rfl, rfl, rfl, rfl, rfl⟩ rfl rfl rfl rfl rfl (by kernel_rfl) Tryd.func10 (by kernel_rfl)
    (of_decide_eq_true (by kernel_rfl)) (by unfold Func.isWrapper; first | (rw [if_pos (by decide +kernel)]; kernel_rfl) | (rw [if_neg (by decide +kernel)]; exact ⟨rfl, rfl⟩))
    (fun os started H enc _ => lifted os started H enc)

theorem proved : Rows.NumeralOwnCardSaid :=
  Claim7.holds_tied_plain_at .later [] Rows.numeralOwnCard.laidKinds true Rows.numeralOwnCard.stood.harness false over (fun _ h => by cases h) (by kernel_rfl) (fun _ h => by cases h) numeralOwn_row_tie rfl ⟨rfl, rfl⟩ (by kernel_rfl) rfl
    (fun f fn hf hfn => by
      obtain rfl : f = 10 := Option.some.inj ((show Tryd.prog.funcNamed "henkan/henkanlaw03.NumeralOwn" = some 10 by kernel_rfl).symm.trans hf) |>.symm
      obtain rfl : fn = Tryd.f10 := (Option.some.inj (Tryd.func10.symm.trans hfn)).symm
      exact ⟨by kernel_rfl, fun j t ht => by
        rw [Tryd.params10] at ht
        have hm : t ∈ ([9] : List TypeId) := by simpa using Array.mem_of_getElem? ht
        have hall : (([9] : List TypeId).all fun u => !Tryd.prog.wantsStandIn u) = true := by kernel_rfl
        exact (show Tryd.prog.wantsStandIn t = false by simpa using List.all_eq_true.1 hall t hm)⟩)
    (by kernel_rfl)
end Go.Proofs.YtfkdlnaakmgclaaDoor.numeralOwn
