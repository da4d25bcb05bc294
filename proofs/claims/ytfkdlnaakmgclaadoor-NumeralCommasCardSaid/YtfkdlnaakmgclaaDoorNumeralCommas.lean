/-
  NumeralCommas returns true for every list of bytes: commas separate groups of three digits and change nothing else. Conditions: the tables of package numeral as start-up code lays them.
-/
import Derived.Test.YtfkdlnaakmgclaaDoorNumR
import Derived.OpenShut
import Derived.ShutString
import Derived.ChangeOld
import Derived.LaidMore
import Derived.Lay
import Derived.SevenTiedAt
import Derived.SizedLaws
import Derived.Test.YtfkdlnaakmgclaaDoorCards
import Derived.Test.YtfkdlnaakmgclaaDoorTie
import Derived.Test.YtfkdlnaakmgclaaDoorNumO
set_option linter.unusedVariables false
set_option linter.unusedSimpArgs false
namespace Go.Proofs.YtfkdlnaakmgclaaDoor.numeralCommas
open Go Go.RowKit Go.ChangeShapes Go.WideShapes Go.ChangeAt Go.Proofs.YtfkdlnaakmgclaaDoor Go.Proofs.YtfkdlnaakmgclaaDoor.Kit
open Go.ChangeMaps (open_string shut_string)
open Go.Proofs.YtfkdlnaakmgclaaDoor.Num Go.Proofs.YtfkdlnaakmgclaaDoor.Utf

theorem walk (a0 : Option Addr) (len0 cap0 : Nat) (z0 : List Int) (w : World) (w0 : IsRow .u8 w a0 len0 cap0 z0) (hL : Laid w) :
    Calls Tryd.prog 9 #[.slice a0 len0 cap0] w fun e w' => e = .returned (.bool true) ∧ Below w.heap.size w w' := by
  have hB : Below w.heap.size w w := Below.refl _ _
  have HN := Lib.hid (number_row w0 hB)
  clear w0
  go_enter Tryd.func9, Tryd.ntmps9
  go_wp2_with (first
    | (go_at_call 26; refine HN.out.mono ?_; rintro e w1 ⟨ds, hds, rfl, hb⟩; have hB := hB.trans (hb.mono hB.size); clear hb; have HD := Lib.hid hds; clear hds)
    | (go_at_call 18; refine (writer_dg commas_any HD.out _ (hL.next hB)).mono ?_; rintro e w2 ⟨rfl, hb⟩; have hB := hB.trans (hb.mono hB.size); clear hb))
  obtain ⟨L, hLd⟩ : ∃ L, commaC ds = L := ⟨_, rfl⟩
  rw [hLd]
  have hasc := Lib.hid (show ∀ c ∈ L, 0 ≤ c ∧ c < 128 from hLd ▸ comma_ascii HD.out)
  have hlen : L.length ≤ 200 := hLd ▸ comma_len HD.out
  have hsize : (tx L).size = L.length := size_ascii hasc.out
  have hfil := Lib.hid (show tx (L.filter (· != 44)) = dg ds from hLd ▸ filter_tx HD.out)
  have hn1 := HD.out.1
  have hsc0 := Lib.hid (show Sc ds.length 0 true L from hLd ▸ sc_start ds HD.out.2.2.1)
  have HSZ := Lib.hid hsize
  obtain ⟨T, hT⟩ : ∃ T, tx L = T := ⟨_, rfl⟩
  rw [hT] at hsize HSZ ⊢
  have HT := Lib.hid hT
  obtain ⟨n, hnn⟩ : ∃ n, ds.length = n := ⟨_, rfl⟩
  rw [hnn] at hn1 hsc0
  clear hLd hT hnn
  go_loopw [6, 7, 8, 9, 19] (fun sv rv fv _ iv wr => ∃ (i r : Nat) (fst : Bool) (pre rest : List Int), iv = .int .i64 i ∧ rv = .int .i64 r ∧ fv = .bool fst ∧ sv = .string (tx (pre.filter (· != 44))) ∧ i ≤ L.length ∧ r ≤ i ∧ pre.length = i ∧ Hid (L = pre ++ rest) ∧ Hid (Sc n r fst rest) ∧ wr = w2) (fun _ _ _ _ iv _ => L.length - (intOf iv).toNat)
  case atStart => exact ⟨0, 0, true, [], L, rfl, rfl, rfl, rfl, by omega, by omega, rfl, Lib.hid rfl, hsc0, rfl⟩
  case round =>
    obtain ⟨i, r, fst, pre, rest, rfl, rfl, rfl, rfl, hi, hri, hpl, hLr, hsc, rfl⟩ := hrel
    by_cases hlt : i < L.length
    · match rest, hLr, hsc with
      | [], hLr, _ => exfalso; have := congrArg List.length hLr.out; simp at this; omega
      | c :: rest, hLr, hsc =>
        have hp : i < T.size := by omega
        have hcb : ((T[i]'hp).toNat : Int) = c := by
          have e1 := HT.out
          subst e1
          have e2 := hLr.out
          subst e2
          subst hpl
          exact byte_ascii hasc.out hp
        have hcut : T.extract i (i + 1) = tx [c] := by
          rw [← HT.out, ← hpl]
          have := hasc.out
          rw [hLr.out] at this ⊢
          exact cut_ascii this
        have hsl : ∀ w, (Instr.slice 9 (.string T) (some (.int .i64 i)) (some (.int .i64 ((i : Int) + 1))) none).run Tryd.prog w = .ok (.string (tx [c])) w := fun w => by
          have e1 : ((i : Int)).toNat = i := by omega
          have e2 : ((i : Int) + 1).toNat = i + 1 := by omega
          rw [run_slice_string_if w 9 _ .i64 .i64 _ _ Tryd.underlying9, e1, e2, hcut]
          rw [if_pos (by omega), if_pos (by omega)]
        have HPL := Lib.hid (show (pre ++ [c]).length = i + 1 by simp; omega)
        have hLr2 := Lib.hid (show L = (pre ++ [c]) ++ rest by rw [List.append_assoc]; exact hLr.out)
        rcases sc_step hsc.out with ⟨h44, hc0, hc1, hs2⟩ | ⟨h44, hr1, hr3, hf, hs2⟩
        · have hs2 := Lib.hid hs2
          have hne : (c != 44) = true := by simpa using h44
          have hfl := Lib.hid (show (pre ++ [c]).filter (· != 44) = pre.filter (· != 44) ++ [c] by rw [List.filter_append, List.filter_cons, if_pos hne]; rfl)
          have hadd : ∀ w, (Op.stringOp .add (tx (pre.filter (· != 44))) (tx [c])).run Tryd.prog w = .ok (.string (tx (pre.filter (· != 44) ++ [c]))) w := by
            have l1 : (encs (pre.filter (· != 44))).length ≤ 800 := by
              have h1 : ∀ x ∈ pre.filter (· != 44), 0 ≤ x ∧ x < 128 := fun x hx => hasc.out x (by rw [hLr.out]; exact List.mem_append_left _ (List.mem_filter.1 hx).1)
              have h2 := size_ascii h1
              rw [tx_size] at h2
              have h3 := List.length_filter_le (· != 44) pre
              omega
            have l2 : (encs [c]).length = 1 := by rw [encs_cons, enc_ascii hc0 hc1]; rfl
            exact add_tx _ _ (by omega)
          clear hcut hc0 hc1 h44 hsc hLr hpl HSZ
          go_wp2
          go_roundw
          case rel => exact ⟨i + 1, r + 1, fst, pre ++ [c], rest, by go_num, by go_num, rfl, by rw [hfl.out], by omega, by omega, HPL.out, hLr2, hs2, trivial⟩
          case measure => simp [intOf] <;> omega
        · have hs2 := Lib.hid hs2
          subst h44
          have hfl := Lib.hid (show (pre ++ [(44 : Int)]).filter (· != 44) = pre.filter (· != 44) by rw [List.filter_append]; simp)
          have HF := Lib.hid hf
          clear hcut hsc hLr hpl HSZ hf hsl
          cases fst with
          | true =>
            have d1 : decide ((r : Int) < 1) = false := by simp; omega
            have d2 : decide ((3 : Int) < (r : Int)) = false := by simp; omega
            go_wp2
            go_roundw
            case rel => exact ⟨i + 1, 0, false, pre ++ [44], rest, by go_num, rfl, rfl, by rw [hfl.out], by omega, by omega, HPL.out, hLr2, hs2, trivial⟩
            case measure => simp [intOf] <;> omega
          | false =>
            obtain rfl := HF.out rfl
            go_wp2
            go_roundw
            case rel => exact ⟨i + 1, 0, false, pre ++ [44], rest, by go_num, rfl, rfl, by rw [hfl.out], by omega, by omega, HPL.out, hLr2, hs2, trivial⟩
            case measure => simp [intOf] <;> omega
    · have hre : rest = [] := by
        have := congrArg List.length hLr.out
        simp at this
        exact List.eq_nil_of_length_eq_zero (by omega)
      subst hre
      obtain ⟨e1, e2, e3⟩ := sc_end hn1 hsc.out
      have hall : tx (pre.filter (· != 44)) = dg ds := by rw [← hfil.out]; congr 2; have := hLr.out; rw [List.append_nil] at this; exact this.symm
      rw [hall]
      have hss := same_toList (dg ds)
      have E3 := Lib.hid e3
      clear hall e3 hsc hLr HSZ
      cases fst with
      | true =>
        have d1 : decide ((r : Int) ≤ 3) = true := by simp; omega
        have d2 : decide ((1 : Int) ≤ (r : Int)) = true := by simp; omega
        go_wp2_with (go_at_call 20; refine (works_any _ (hL.next hB)).mono ?_; rintro e w1 ⟨rfl, hb⟩; have hB := hB.trans (hb.mono hB.size); clear hb)
        go_ret
        exact ⟨rfl, hB⟩
      | false =>
        obtain rfl := E3.out rfl
        go_wp2_with (go_at_call 20; refine (works_any _ (hL.next hB)).mono ?_; rintro e w1 ⟨rfl, hb⟩; have hB := hB.trans (hb.mono hB.size); clear hb)
        go_ret
        exact ⟨rfl, hB⟩
theorem own : ownKnob Tryd.prog.godebug = none := by kernel_rfl
theorem laidOut : laidOutB Tryd.prog = true := by kernel_rfl

set_option maxRecDepth 100000 in
theorem lifted (os : Os) (started : os.Started) (H : Type) (enc : TypeId × Value → H) :
    ReturnsInHanded {} Tryd.checked os 9 .any (fun w args => (Rows.numeralCommasSpec.pre enc Tryd.prog Tryd.f9 Rows.numeralCommasRow.domain false w args ∧ laidMetH Tryd.prog Rows.numeralCommasRow.laid w) ∧ sizedMet enc Tryd.prog Tryd.f9 (OpenSpec.ofChange Rows.numeralCommasSpec) false w args)
      (Rows.numeralCommasSpec.post enc Tryd.prog Tryd.f9 false true false false) := by
  refine returnsInHanded_of_change_and (C := Tryd.checked) (X := fun w _ => laidMetH Tryd.prog Rows.numeralCommasRow.laid w) (fun _ _ _ hh h => h.of_heap hh) own started (by kernel_rfl) Tryd.func9
    (ChangeSpec.witness_shaped (enc := enc) (C := Tryd.checked) (os := os) (X := fun w _ => laidMetH Tryd.prog Rows.numeralCommasRow.laid w) false (World.laidAll Tryd.prog os Rows.numeralCommasRow.laid) #[.slice none 0 0] 8 (World.laidAll_os _ _ _)
      (World.shaped_of_ZipB (by kernel_rfl) (by kernel_rfl)) (by kernel_rfl) (by kernel_rfl) (by kernel_rfl)
      (by rw [MakeChecks.laidMetH_plain _ _ _ (by kernel_rfl)]; exact laidMet_laidAll _ (by kernel_rfl) (by kernel_rfl))) ?_
  intro W base args ds gs before hval0 hW hcnd hsz0 hL _
  have hval : ∀ (j : Nat) t v, Tryd.f9.params[j]? = some t → args[j]? = some v → Value.okWide Tryd.prog W .any base t v := hval0
  have hW' := hW
  obtain ⟨p, q, hA0, hV, rfl, hfz, hnd⟩ := hW
  have hA : DataW.TrodAll enc Tryd.prog W 0 (fun _ => true) true Tryd.f9.params.toList args.toList ds p := hA0
  rw [Tryd.params9] at hA hval
  obtain ⟨v0, vs0, d0, ds0, p0, q0, hargs, rfl, rfl, h0, r0⟩ := trodAll_cons hA
  obtain ⟨rfl, rfl, rfl⟩ := trodAll_nil r0
  obtain rfl : args = #[v0] := by cases args; simp_all
  obtain ⟨rfl, rfl⟩ := trodVars_none hV
  obtain ⟨a0, len0, cap0, rfl⟩ := okWide_slice Tryd.underlying29 (hval 0 29 v0 rfl rfl)
  have k0 := h0
  have lt0 : ∀ x ∈ p0, x.block < W.heap.size := by obtain ⟨m, hm⟩ := k0; exact DataW.trod_lt m _ _ _ hm
  obtain ⟨z0, w0⟩ : ∃ zs, IsRow .u8 W a0 len0 cap0 zs := by
    obtain ⟨fuel, hf⟩ := h0
    rcases open_ints Tryd.underlying29 Tryd.underlying5 (by kernel_rfl) hf with ⟨hcs, _⟩ | ⟨x, l, c, zs, hcs, _, hl, hm, hz, _, hcell, hwz⟩
    · simp [Value.cells] at hcs
      obtain ⟨rfl, rfl, rfl⟩ := hcs
      exact ⟨[], .inl ⟨rfl, rfl, rfl, rfl⟩⟩
    · simp [Value.cells] at hcs
      obtain ⟨rfl, rfl, rfl⟩ := hcs
      exact ⟨zs, .inr ⟨_, rfl, hl, hm, by simpa using hz, hcell, hwz⟩⟩
  have hLaid : Laid W := Laid.of hL (fun _ => MakeChecks.laidMetH_plain _ _ _ (by kernel_rfl))
    (List.mem_of_getElem? (i := 4) (by kernel_rfl)) (List.mem_of_getElem? (i := 5) (by kernel_rfl)) (List.mem_of_getElem? (i := 6) (by kernel_rfl)) (List.mem_of_getElem? (i := 7) (by kernel_rfl)) (List.mem_of_getElem? (i := 8) (by kernel_rfl))
  clear hA0 hval0
  refine (walk a0 len0 cap0 z0 W w0 hLaid).mono fun e W' ⟨he, bel⟩ => ?_
  subst he
  exact ⟨_, rfl, _, _, _, [], _, [], hW', trodAll_mk1 (shut_bool Tryd.underlying4 _), (trodAll_cons_mk (Below.trod laidOut (by kernel_rfl) (of_decide_eq_true (by kernel_rfl)) k0 bel lt0) trodAll_mk0), rfl, bel.frame _, fun h => by cases h⟩

theorem over : Rows.numeralCommasRow.holds Tryd.pinned (OpenSpec.ofChange Rows.numeralCommasSpec) :=
  OpenClaim.holds_of_wide 9 Tryd.f9 rfl rfl rfl rfl rfl rfl rfl ⟨rfl, rfl, rfl, rfl, rfl⟩ rfl rfl rfl rfl rfl (by kernel_rfl) Tryd.func9 (by kernel_rfl)
    (of_decide_eq_true (by kernel_rfl)) (by unfold Func.isWrapper; first | (rw [if_pos (by decide +kernel)]; kernel_rfl) | (rw [if_neg (by decide +kernel)]; exact ⟨rfl, rfl⟩))
    (fun os started H enc _ => lifted os started H enc)

theorem proved : Rows.NumeralCommasCardSaid :=
  Claim7.holds_tied_plain_at .later [] Rows.numeralCommasCard.laidKinds true Rows.numeralCommasCard.stood.harness false over (fun _ h => by cases h) (by kernel_rfl) (fun _ h => by cases h) numeralCommas_row_tie rfl ⟨rfl, rfl⟩ (by kernel_rfl) rfl
    (fun f fn hf hfn => by
      obtain rfl : f = 9 := Option.some.inj ((show Tryd.prog.funcNamed "henkan/henkanlaw03.NumeralCommas" = some 9 by kernel_rfl).symm.trans hf) |>.symm
      obtain rfl : fn = Tryd.f9 := (Option.some.inj (Tryd.func9.symm.trans hfn)).symm
      exact ⟨by kernel_rfl, fun j t ht => by
        rw [Tryd.params9] at ht
        have hm : t ∈ ([29] : List TypeId) := by simpa using Array.mem_of_getElem? ht
        have hall : (([29] : List TypeId).all fun u => !Tryd.prog.wantsStandIn u) = true := by kernel_rfl
        exact (show Tryd.prog.wantsStandIn t = false by simpa using List.all_eq_true.1 hall t hm)⟩)
    (by kernel_rfl)
end Go.Proofs.YtfkdlnaakmgclaaDoor.numeralCommas
