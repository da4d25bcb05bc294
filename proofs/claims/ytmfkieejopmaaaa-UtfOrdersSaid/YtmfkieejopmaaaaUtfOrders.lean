/-
  UtfOrders returns true for all pairs of lists of numbers: strings are in the order of their characters. Conditions: none.
-/
import Derived.Test.YtmfkieejopmaaaaUtfL
import Derived.Test.YtmfkieejopmaaaaUtfMathC
import Derived.Test.YtmfkieejopmaaaaKit2
import Derived.OpenShut
import Derived.ShutString
import Derived.ChangeOld
set_option linter.unusedVariables false
set_option linter.unusedSimpArgs false
namespace Go.Proofs.Ytmfkieejopmaaaa.utfOrders
open Go Go.RowKit Go.ChangeShapes Go.WideShapes Go.ChangeAt Go.Proofs.Ytmfkieejopmaaaa Go.Proofs.Ytmfkieejopmaaaa.Kit
open Go.ChangeMaps (open_string shut_string)
open Go.Proofs.Ytmfkieejopmaaaa.Utf

theorem compare_any (xs ys : List Int) (va vb : Value) (w : World) (ha : Reads w va (ints xs)) (hb : Reads w vb (ints ys)) :
    Calls Try.prog 22 #[va, vb] w fun e w' => e = .returned (.int .i64 (cmpL xs ys)) ∧ Below w.heap.size w w' := by
  obtain ⟨a, la, ca, rfl, hla, hca, hma, ha⟩ := ha
  obtain ⟨b, lb, cb, rfl, hlb, hcb, hmb, hb⟩ := hb
  rw [List.length_map] at hla hlb
  subst hla hlb
  unfold maxLen at hma hmb
  go_enter Try.func22, Try.ntmps22
  go_wp2
  go_loopw [5] (fun i wr => ∃ k nq : Nat, k ≤ xs.length ∧ k ≤ ys.length ∧ i = .int .i64 k ∧ wr = w.drewN nq ∧ Hid (cmpL xs ys = cmpL (xs.drop k) (ys.drop k))) (fun i _ => xs.length - (intOf i).toNat)
  case atStart => exact ⟨0, 0, Nat.zero_le _, Nat.zero_le _, rfl, rfl, Lib.hid (by simp)⟩
  case round =>
    obtain ⟨k, nq, hk, hk2, rfl, rfl, hp⟩ := hrel
    by_cases h1 : k < xs.length
    · by_cases h2 : k < ys.length
      · have hst := Lib.hid (cmpL_step h1 h2)
        rcases ha with ⟨_, h0, _⟩ | ⟨_, _, h0⟩ | ⟨ba, oa, rfl, hba, hxa⟩
        · omega
        · omega
        rcases hb with ⟨_, h0, _⟩ | ⟨_, _, h0⟩ | ⟨bb, ob, rfl, hbb, hxb⟩
        · omega
        · omega
        have c1 : w.cell? ⟨ba, oa + k, none⟩ = some (.int .i32 xs[k]) := hxa k _ (by rw [List.getElem?_map, List.getElem?_eq_getElem h1]; rfl)
        have c2 : w.cell? ⟨bb, ob + k, none⟩ = some (.int .i32 ys[k]) := hxb k _ (by rw [List.getElem?_map, List.getElem?_eq_getElem h2]; rfl)
        clear hxa hxb
        obtain ⟨x, hx⟩ : ∃ x, xs[k] = x := ⟨_, rfl⟩
        obtain ⟨y, hy⟩ : ∃ y, ys[k] = y := ⟨_, rfl⟩
        rw [hx] at c1 hst; rw [hy] at c2 hst
        clear hx hy
        by_cases hlt : x < y
        · have hr : cmpL xs ys = -1 := by rw [hp.out, hst.out, if_pos hlt]
          have HR := Lib.hid hr; clear hr
          go_wp2
          go_quiet (fail)
          go_wp2
          go_ret
          exact ⟨ret_int HR.out.symm, by repeat (first | exact below_drewN (Below.refl _ _) _ | apply below_drewN)⟩
        · by_cases hgt : y < x
          · have hr : cmpL xs ys = 1 := by rw [hp.out, hst.out, if_neg hlt, if_pos hgt]
            have HR := Lib.hid hr; clear hr
            go_wp2
            go_quiet (fail)
            go_wp2
            go_quiet (fail)
            go_wp2
            go_ret
            exact ⟨ret_int HR.out.symm, by repeat (first | exact below_drewN (Below.refl _ _) _ | apply below_drewN)⟩
          · have hp2 := Lib.hid (show cmpL xs ys = cmpL (xs.drop (k + 1)) (ys.drop (k + 1)) by rw [hp.out, hst.out, if_neg hlt, if_neg hgt])
            clear hp hst
            go_wp2
            go_quiet (fail)
            go_wp2
            go_quiet (fail)
            go_wp2
            go_roundw
            case rel => exact ⟨k + 1, _, by omega, by omega, by go_num, rfl, hp2⟩
            case measure => simp [intOf]; omega
      · have hr : cmpL xs ys = 1 := by
          rw [hp.out, List.drop_of_length_le (show ys.length ≤ k by omega), List.drop_eq_getElem_cons h1]; rfl
        have HR := Lib.hid hr; clear hr hp
        go_wp2
        go_ret
        exact ⟨ret_int HR.out.symm, by repeat (first | exact below_drewN (Below.refl _ _) _ | apply below_drewN)⟩
    · by_cases h2 : k < ys.length
      · have hr : cmpL xs ys = -1 := by
          rw [hp.out, List.drop_of_length_le (show xs.length ≤ k by omega), List.drop_eq_getElem_cons h2]; rfl
        have HR := Lib.hid hr; clear hr hp
        go_wp2
        go_ret
        exact ⟨ret_int HR.out.symm, by repeat (first | exact below_drewN (Below.refl _ _) _ | apply below_drewN)⟩
      · have hr : cmpL xs ys = 0 := by
          rw [hp.out, List.drop_of_length_le (show ys.length ≤ k by omega), List.drop_of_length_le (show xs.length ≤ k by omega)]; rfl
        have HR := Lib.hid hr; clear hr hp
        go_wp2
        go_ret
        exact ⟨ret_int HR.out.symm, by repeat (first | exact below_drewN (Below.refl _ _) _ | apply below_drewN)⟩

theorem walk_core (l m : List Int) (a0 : Option Addr) (len0 cap0 : Nat) (a1 : Option Addr) (len1 cap1 : Nat) (w : World) (hl : len0 ≤ 500) (hm : len1 ≤ 500) (hlen0 : l.length = len0) (hlen1 : m.length = len1)
    (r0 : Reads w (.slice a0 len0 cap0) (ints l)) (r1 : Reads w (.slice a1 len1 cap1) (ints m)) :
    Calls Try.prog 9 #[.slice a0 len0 cap0, .slice a1 len1 cap1] w fun e w' => e = .returned (.bool true) ∧ Below w.heap.size w w' := by
  obtain ⟨cs, hcs⟩ : ∃ cs, l.filter validRune = cs := ⟨_, rfl⟩
  obtain ⟨ds, hds⟩ : ∃ ds, m.filter validRune = ds := ⟨_, rfl⟩
  have vc : ∀ c ∈ cs, validRune c = true := fun c h => by rw [← hcs] at h; exact (List.mem_filter.1 h).2
  have vd : ∀ c ∈ ds, validRune c = true := fun c h => by rw [← hds] at h; exact (List.mem_filter.1 h).2
  have b0 : bs (textB l) = encs cs := by rw [textB_bytes, hcs]
  have b1 : bs (textB m) = encs ds := by rw [textB_bytes, hds]
  have T0 := Lib.hid (fun v w (h : Reads w v (ints l)) => text_any l v w (by omega) h)
  have T1 := Lib.hid (fun v w (h : Reads w v (ints m)) => text_any m v w (by omega) h)
  have n0 : (textB l).size ≤ 2000 := by
    have h1 := encs_length_le vc
    have h2 := List.length_filter_le validRune l
    rw [hcs] at h2
    rw [← b0, bs_len] at h1
    omega
  have n1 : (textB m).size ≤ 2000 := by
    have h1 := encs_length_le vd
    have h2 := List.length_filter_le validRune m
    rw [hds] at h2
    rw [← b1, bs_len] at h1
    omega
  obtain ⟨s, hs⟩ : ∃ s, textB l = s := ⟨_, rfl⟩
  obtain ⟨t, ht⟩ : ∃ t, textB m = t := ⟨_, rfl⟩
  rw [hs] at b0 n0 T0
  rw [ht] at b1 n1 T1
  have R0 := Lib.hid (fun w => runes_slice s w (by omega) cs (by rw [b0]; exact chars_encs vc))
  have R1 := Lib.hid (fun w => runes_slice t w (by omega) ds (by rw [b1]; exact chars_encs vd))
  have e1 : Op.bytesLess s.toList t.toList = decide (cmpL cs ds < 0) := by rw [ByteArray.toList_eq, ByteArray.toList_eq, show s.data.toList = encs cs from b0, show t.data.toList = encs ds from b1]; exact less_encs vc vd
  have e2 : (s.toList == t.toList) = decide (cmpL cs ds = 0) := by rw [ByteArray.toList_eq, ByteArray.toList_eq, show s.data.toList = encs cs from b0, show t.data.toList = encs ds from b1]; exact eq_encs vc vd
  have e3 : (cmpL cs ds == 0) = decide (cmpL cs ds = 0) := rfl
  have CC := Lib.hid (fun va vb w (ha : Reads w va (ints cs)) (hb : Reads w vb (ints ds)) => compare_any cs ds va vb w ha hb)
  have hrg := cmpL_range cs ds
  obtain ⟨q, hq⟩ : ∃ q, cmpL cs ds = q := ⟨_, rfl⟩
  rw [hq] at e1 e2 e3 CC hrg
  clear b0 b1 vc vd hcs hds hs ht hq
  have hw0 : (Reads w (.slice a0 len0 cap0) (ints l)) := r0
  rcases hrg with rfl | rfl | rfl
  all_goals
    simp only [Int.reduceNeg, Int.reduceLT, decide_true, decide_false, Int.reduceEq] at e1 e2
    clear e3
    go_enter Try.func9, Try.ntmps9
    go_wp2_with (first
      | (go_at_call 18; (with_reducible refine (T0.out _ _ r0).mono ?_); rintro e w1 ⟨rfl, hb1⟩; have r1' := r1.later hb1)
      | (go_at_call 18; (with_reducible refine (T1.out _ _ r1').mono ?_); rintro e w2 ⟨rfl, hb2⟩)
      | (go_at_call 11; (with_reducible refine (R0.out _).mono ?_); rintro e w3 ⟨g3, cap3, rfl, hown3, hcap3, hb3⟩)
      | (go_at_call 11; (with_reducible refine (R1.out _).mono ?_); rintro e w4 ⟨g4, cap4, rfl, hown4, hcap4, hb4⟩)
      | (go_at_call 22; refine (CC.out _ _ _ (own_reads (own_later hown3 hb4)) (own_reads hown4)).mono ?_; rintro e w5 ⟨rfl, hb5⟩)
      | (go_at_call 17; refine (works_any _).mono ?_; rintro e w6 ⟨rfl, hb6⟩))
    go_ret
    have s1 := hb1.size
    have s2 := hb2.size
    have s3 := hb3.size
    have s4 := hb4.size
    have s5 := hb5.size
    exact ⟨rfl, ((((hb1.trans (hb2.mono s1)).trans (hb3.mono (by omega))).trans (hb4.mono (by omega))).trans (hb5.mono (by omega))).trans (hb6.mono (by omega))⟩

theorem walk (a0 : Option Addr) (len0 cap0 : Nat) (z0 : List Int) (a1 : Option Addr) (len1 cap1 : Nat) (z1 : List Int) (w : World) (w0 : IsRow .i32 w a0 len0 cap0 z0) (w1 : IsRow .i32 w a1 len1 cap1 z1) :
    Calls Try.prog 9 #[.slice a0 len0 cap0, .slice a1 len1 cap1] w fun e w' => e = .returned (.bool true) ∧ Below w.heap.size w w' := by
  obtain ⟨hl1, hl2, hl3⟩ := w0.len
  obtain ⟨hm1, hm2, hm3⟩ := w1.len
  unfold maxLen at hl2 hm2
  by_cases hs : len0 ≤ 500
  · by_cases ht : len1 ≤ 500
    · exact walk_core (z0.take len0) (z1.take len1) a0 len0 cap0 a1 len1 cap1 w hs ht (by simp; omega) (by simp; omega) w0.reads w1.reads
    · clear w0 w1
      go_enter Try.func9, Try.ntmps9
      go_wp2
      go_ret
      exact ⟨rfl, Below.refl _ _⟩
  · clear w0 w1
    go_enter Try.func9, Try.ntmps9
    go_wp2
    go_ret
    exact ⟨rfl, Below.refl _ _⟩
theorem own : ownKnob Try.prog.godebug = none := by kernel_rfl
theorem laidOut : laidOutB Try.prog = true := by kernel_rfl

set_option maxRecDepth 100000 in
theorem lifted (os : Os) (started : os.Started) (H : Type) (enc : TypeId × Value → H) :
    ReturnsInHanded {} Try.checked os 9 .any (Rows.utfOrdersSpec.pre6 enc Try.prog Try.f9 Rows.utfOrdersRow.domain false) (Rows.utfOrdersSpec.post enc Try.prog Try.f9 false true false false) := by
  refine returnsInHanded_of_change (C := Try.checked) own started (by kernel_rfl) Try.func9
    (ChangeSpec.witness6 (enc := enc) (C := Try.checked) false ⟨#[], #[.slice none 0 0, .slice none 0 0], []⟩ 8 (by kernel_rfl) (by kernel_rfl) (by kernel_rfl) (by kernel_rfl)) ?_
  intro W base args ds gs before hval0 hW hcnd _
  have hval : ∀ (j : Nat) t v, Try.f9.params[j]? = some t → args[j]? = some v → Value.okWide Try.prog W .any base t v := hval0
  have hW' := hW
  obtain ⟨p, q, hA0, hV, rfl, hfz, hnd⟩ := hW
  have hA : DataW.TrodAll enc Try.prog W 0 (fun _ => true) true Try.f9.params.toList args.toList ds p := hA0
  rw [Try.params9] at hA hval
  obtain ⟨v0, vs0, d0, ds0, p0, q0, hargs, rfl, rfl, h0, r0⟩ := trodAll_cons hA
  obtain ⟨v1, vs1, d1, ds1, p1, q1, rfl, rfl, rfl, h1, r1⟩ := trodAll_cons r0
  obtain ⟨rfl, rfl, rfl⟩ := trodAll_nil r1
  obtain rfl : args = #[v0, v1] := by cases args; simp_all
  obtain ⟨rfl, rfl⟩ := trodVars_none hV
  obtain ⟨a0, len0, cap0, rfl⟩ := okWide_slice Try.underlying22 (hval 0 22 v0 rfl rfl)
  have k0 := h0
  have lt0 : ∀ x ∈ p0, x.block < W.heap.size := by obtain ⟨m, hm⟩ := k0; exact DataW.trod_lt m _ _ _ hm
  obtain ⟨z0, w0⟩ : ∃ zs, IsRow .i32 W a0 len0 cap0 zs := by
    obtain ⟨fuel, hf⟩ := h0
    rcases open_ints Try.underlying22 Try.underlying21 (by kernel_rfl) hf with ⟨hcs, _⟩ | ⟨x, l, c, zs, hcs, _, hl, hm, hz, _, hcell, hwz⟩
    · simp [Value.cells] at hcs
      obtain ⟨rfl, rfl, rfl⟩ := hcs
      exact ⟨[], .inl ⟨rfl, rfl, rfl, rfl⟩⟩
    · simp [Value.cells] at hcs
      obtain ⟨rfl, rfl, rfl⟩ := hcs
      exact ⟨zs, .inr ⟨_, rfl, hl, hm, by simpa using hz, hcell, hwz⟩⟩
  obtain ⟨a1, len1, cap1, rfl⟩ := okWide_slice Try.underlying22 (hval 1 22 v1 rfl rfl)
  have k1 := h1
  have lt1 : ∀ x ∈ p1, x.block < W.heap.size := by obtain ⟨m, hm⟩ := k1; exact DataW.trod_lt m _ _ _ hm
  obtain ⟨z1, w1⟩ : ∃ zs, IsRow .i32 W a1 len1 cap1 zs := by
    obtain ⟨fuel, hf⟩ := h1
    rcases open_ints Try.underlying22 Try.underlying21 (by kernel_rfl) hf with ⟨hcs, _⟩ | ⟨x, l, c, zs, hcs, _, hl, hm, hz, _, hcell, hwz⟩
    · simp [Value.cells] at hcs
      obtain ⟨rfl, rfl, rfl⟩ := hcs
      exact ⟨[], .inl ⟨rfl, rfl, rfl, rfl⟩⟩
    · simp [Value.cells] at hcs
      obtain ⟨rfl, rfl, rfl⟩ := hcs
      exact ⟨zs, .inr ⟨_, rfl, hl, hm, by simpa using hz, hcell, hwz⟩⟩
  clear hA0 hval0
  refine (walk a0 len0 cap0 z0 a1 len1 cap1 z1 W w0 w1).mono fun e W' ⟨he, bel⟩ => ?_
  subst he
  exact ⟨_, rfl, _, _, _, [], _, [], hW', trodAll_mk1 (shut_bool Try.underlying4 _), (trodAll_cons_mk (Below.trod laidOut (by kernel_rfl) (of_decide_eq_true (by kernel_rfl)) k0 bel lt0) (trodAll_cons_mk (Below.trod laidOut (by kernel_rfl) (of_decide_eq_true (by kernel_rfl)) k1 bel lt1) trodAll_mk0)), rfl, bel.frame _, fun h => by cases h⟩

theorem over : Rows.utfOrdersRow.holds Try.pinned (OpenSpec.ofChange Rows.utfOrdersSpec) :=
  OpenClaim.holds_of_wide 9 Try.f9 rfl rfl rfl rfl rfl rfl rfl ⟨rfl, rfl, rfl, rfl, rfl⟩ rfl rfl rfl rfl rfl (by kernel_rfl) Try.func9 (by kernel_rfl)
    (of_decide_eq_true (by kernel_rfl)) (by unfold Func.isWrapper; first | (rw [if_pos (by decide +kernel)]; kernel_rfl) | (rw [if_neg (by decide +kernel)]; exact ⟨rfl, rfl⟩))
    (fun os started H enc _ => lifted os started H enc)

theorem proved : Rows.UtfOrdersSaid := over
end Go.Proofs.Ytmfkieejopmaaaa.utfOrders
