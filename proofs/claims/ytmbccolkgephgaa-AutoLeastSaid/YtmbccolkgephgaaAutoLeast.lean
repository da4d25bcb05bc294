/-
  No keys that write a text are less than those of Type: AutoLeast, for every input.
-/
import Derived.Test.YtmbccolkgephgaaAutQ
import Derived.Test.YtmbccolkgephgaaUtfH
import Derived.OpenShut
import Derived.ShutString
import Derived.ChangeOld
import Derived.HandedShaped
import Derived.Test.YtmbccolkgephgaaAutFr
set_option linter.unusedVariables false
set_option linter.unusedSimpArgs false
namespace Go.Proofs.Ytmbccolkgephgaa.autoLeast
open Go Go.RowKit Go.ChangeShapes Go.WideShapes Go.ChangeAt Go.Proofs.Ytmbccolkgephgaa Go.Proofs.Ytmbccolkgephgaa.Kit Go.Proofs.Ytmbccolkgephgaa.Utf Go.Proofs.Ytmbccolkgephgaa.Rom Go.Proofs.Ytmbccolkgephgaa.Aut
open Go.ChangeMaps (open_string shut_string)
set_option maxRecDepth 100000

/-- What keys write is valid. -/
theorem feeds_valid {rs : List Rule} (hok : okL rs = true) {p ks o q : By} (h : Feeds rs p ks o q) : AllK p → AllK ks → ∃ cs, chars o = some cs := by
  induction h with
  | nil p => intro _ _; exact ⟨[], rfl⟩
  | @wait p k ks o q h hf ih =>
    intro h1 h2
    exact ih (h1.append (AllK.one (h2 k (by simp)))) (fun x hx => h2 x (List.mem_cons_of_mem _ hx))
  | @app p k ks o q h hf ih =>
    intro h1 h2
    have hpk := h1.append (AllK.one (h2 k (by simp)))
    obtain ⟨cs, hc⟩ := ih AllK.nil ((appK_all hok hpk).append (fun x hx => h2 x (List.mem_cons_of_mem _ hx)))
    have key : ∃ ds, chars (appO rs (p ++ [k])) = some ds := by
      unfold appO
      split
      · rename_i r hr
        have hr2 := ok_of hok (best_some hr).1
        unfold okR at hr2
        simp only [Bool.and_eq_true] at hr2
        have hk := hr2.1.2
        unfold kanaOK at hk
        split at hk
        · rename_i cs hc; exact ⟨cs, hc⟩
        · cases hk
      · cases hpk2 : p ++ [k] with
        | nil => simp at hpk2
        | cons c l =>
          have hcK := hpk c (by rw [hpk2]; simp)
          have key : ∀ i, i < 94 → chars [keyB i] = some [((keyB i).toNat : Int)] := by decide +kernel
          obtain ⟨i, hi, rfl⟩ := keyB_of hcK
          exact ⟨_, key i hi⟩
    obtain ⟨ds, hd⟩ := key
    obtain ⟨hv, he⟩ := chars_some hd
    refine ⟨ds ++ cs, ?_⟩
    rw [he, chars_encs_append hv, hc]
    rfl
theorem lt_bytes : ∀ (x y : By), Op.bytesLess x y = decide (x < y)
  | [], [] => by simp [Op.bytesLess]
  | _ :: _, [] => by simp [Op.bytesLess]
  | [], _ :: _ => by simp [Op.bytesLess]
  | a :: x, b :: y => by
    rw [Op.bytesLess, lt_bytes x y]
    simp only [List.cons_lt_cons_iff]
    by_cases h1 : a < b <;> by_cases h2 : a = b <;> by_cases h3 : x < y <;> simp [h1, h2, h3]

set_option maxHeartbeats 8000000 in
theorem walk (a0 : Option Addr) (len0 cap0 : Nat) (z0 : List Rule) (a1 : ByteArray) (w : World) (w0 : RowR w (.slice a0 len0 cap0) z0) (w1 : a1.size ≤ maxLen) (s1 : a1.size ≤ 140737488351232) (hm : MaxL w) (hG : 0 < w.heap.size) :
    Calls Try.prog 12 #[.slice a0 len0 cap0, .string a1] w fun e w' => e = .returned (.bool true) ∧ Below w.heap.size w w' := by
  have HL := Lib.hid (light_any (.slice a0 len0 cap0) z0 { data := #[] } w w0 (by show 0 ≤ _; omega))
  have HWK := Lib.hid works_any
  have HML := Lib.hid hm
  by_cases hlt : Lt z0 { data := #[] }
  rotate_left
  · have HLT := Lib.hid hlt
    clear w0 w1 s1 hm hlt
    go_enter Try.func12, Try.ntmps12
    go_wp2_with (go_at_call 14; (with_reducible refine HL.out.mono ?_); rintro e w1 ⟨x, rfl, hw1, hx⟩; obtain rfl := hw1.symm; obtain rfl : x = false := Bool.eq_false_iff.2 (fun h => HLT.out (hx.1 h)); clear hx)
    go_ret
    exact ⟨rfl, Below.refl _ _⟩
  have hsh := hlt.short
  have HLT := Lib.hid hlt
  by_cases h20 : 20 < a1.size
  · have h20' : (20 : Int) < a1.size := by omega
    clear w0 w1 s1 hm hlt hsh
    go_enter Try.func12, Try.ntmps12
    go_wp2_with (go_at_call 14; (with_reducible refine HL.out.mono ?_); rintro e w1 ⟨x, rfl, hw1, hx⟩; obtain rfl := hw1.symm; obtain rfl : x = true := hx.2 HLT.out; clear hx)
    go_ret
    exact ⟨rfl, Below.refl _ _⟩
  have h20' : (a1.size : Int) ≤ 20 := by omega
  by_cases hc : checkL z0 = 0
  rotate_left
  · have HN := Lib.hid (new_no w0 hsh hc)
    have hne : (checkL z0 != 0) = true := by simpa using hc
    generalize checkL z0 = E at HN hne
    clear w0 w1 s1 hm hlt hc hsh
    go_enter Try.func12, Try.ntmps12
    go_wp2_with (first
      | (go_at_call 14; (with_reducible refine HL.out.mono ?_); rintro e w1 ⟨x, rfl, hw1, hx⟩; obtain rfl := hw1.symm; obtain rfl : x = true := hx.2 HLT.out; clear hx)
      | (go_at_call 15; (with_reducible refine HN.out.mono ?_); rintro e w2 ⟨rfl, hb2⟩)
      | (go_at_call 18; (with_reducible refine (HWK.out _ (HML.out.later hb2 hG) (Nat.lt_of_lt_of_le hG hb2.size)).mono ?_); rintro e w3 ⟨rfl, hb3⟩))
    go_ret
    exact ⟨rfl, hb2.trans (hb3.mono hb2.size)⟩
  obtain ⟨h500, hok⟩ := ok_of_check hc
  have HN := Lib.hid (new_yes w0 hsh hc)
  have HK := Lib.hid (fun W => rkeys_any a1 W (by omega))
  have hkk := keysOf_all (bs a1)
  have hk1 := keysOf_le (bs a1)
  rw [bs_len] at hk1
  obtain ⟨ks, hks⟩ : ∃ ks, keysOf (bs a1) = ks := ⟨_, rfl⟩
  rw [hks] at HK hkk hk1
  obtain ⟨o, q, hf⟩ := feeds_ex hok [] ks
  have hl := hf.len hok
  rw [List.length_nil] at hl
  obtain ⟨cs, hcs⟩ := feeds_valid hok hf AllK.nil hkk
  have hRun : Hid (∀ (B a : Nat) (W : World), AutoAt B W a z0 → B ≤ W.heap.size → Calls Try.prog 19 #[.pointer (some ⟨a, 0, none⟩), .string (ba ks)] W fun e w' => e = .returned (.tuple #[.string (ba o), .string (ba q)]) ∧ Below W.heap.size W w') := Lib.hid fun B a W hA hB => by
    have h := run_any hok B a (ba ks) W hA hB (by rw [ba_size]; omega)
    rw [bs_ba, keysOf_id hkk, hf.fd] at h
    exact h
  have HCN := Lib.hid (fun W => rcount_any (ba o) W (by rw [ba_size]; omega))
  obtain ⟨C, hC⟩ : ∃ C : Int, count (bs (ba o)) = C := ⟨_, rfl⟩
  rw [hC] at HCN
  have hC0 : 0 ≤ C := by
    rw [← hC, bs_ba]
    unfold count
    rw [hcs]
    simp
  by_cases hq : q = []
  rotate_left
  · have hqe : (ba q).toList.isEmpty = false := by rw [Lib.toList_data]; cases q with
      | nil => exact absurd rfl hq
      | cons c q => rfl
    clear w0 w1 s1 hm hlt hc hsh hf hl hcs hq hkk
    generalize ba o = O at *
    generalize ba q = Q1 at *
    generalize ba ks = K at *
    go_enter Try.func12, Try.ntmps12
    go_wp2_with (first
      | (go_at_call 14; (with_reducible refine HL.out.mono ?_); rintro e w1 ⟨x, rfl, hw1, hx⟩; obtain rfl := hw1.symm; obtain rfl : x = true := hx.2 HLT.out; clear hx)
      | (go_at_call 15; (with_reducible refine HN.out.mono ?_); rintro e w2 ⟨a, rfl, hA2, hbw2⟩; have hB2 := Nat.le_refl w2.heap.size)
      | (go_at_call 28; (with_reducible refine (HK.out _).mono ?_); rintro e w3 ⟨rfl, hb3⟩; have hA3 := hA2.later hb3 hB2; have hB3 := hb3.size; have hbw3 := hbw2.trans (hb3.mono hbw2.size))
      | (go_at_call 19; (with_reducible refine (hRun.out _ _ _ hA3 hB3).mono ?_); rintro e w4 ⟨rfl, hb4⟩; have hbw4 := hbw3.trans (hb4.mono hbw3.size))
      | (go_at_call 18; (with_reducible refine (HWK.out _ (HML.out.later hbw4 hG) (Nat.lt_of_lt_of_le hG hbw4.size)).mono ?_); rintro e w5 ⟨rfl, hb5⟩))
    go_ret
    exact ⟨rfl, hbw4.trans (hb5.mono hbw4.size)⟩
  subst hq
  have hqe : (ba []).toList.isEmpty = true := by rw [Lib.toList_data]; rfl
  have htyp : Types z0 o ks := ⟨hkk, hf⟩
  have HTY : Hid (∀ (B a : Nat) (W : World), C ≤ 64 → AutoAt B W a z0 → B ≤ W.heap.size → MaxL W → 0 < W.heap.size → Calls Try.prog 26 #[.pointer (some ⟨a, 0, none⟩), .string (ba o)] W fun e w' => ∃ k, e = .returned (.tuple #[.string (ba k), .bool true]) ∧ Hid (sle k ks) ∧ Below W.heap.size W w') := Lib.hid fun B a W h64 h1 h2 h3 h4 => by
    refine (type_any hok h500 B a (ba o) W h1 h2 h3 h4 (by rw [ba_size]; unfold maxLen; omega)).mono ?_
    rintro e w' ⟨k, ok, rfl, hT, _, hb⟩
    rcases hT with ⟨h, _, _⟩ | ⟨_, ⟨rfl, h5, h6⟩ | ⟨_, _, h6⟩⟩
    · rw [hC] at h; omega
    · rw [bs_ba] at h6
      exact ⟨k, rfl, Lib.hid (h6 ks htyp), hb⟩
    · rw [bs_ba] at h6
      exact absurd htyp (h6 ks)
  clear w0 w1 s1 hm hlt hc hsh hf hl hcs hkk htyp hC
  generalize ba o = O at *
  generalize ba [] = Q1 at *
  by_cases h64 : C ≤ 64
  rotate_left
  · have h64' : 64 < C := by omega
    obtain ⟨K, hK⟩ : ∃ K, ba ks = K := ⟨_, rfl⟩
    rw [hK] at HK hRun
    clear hK HTY
    go_enter Try.func12, Try.ntmps12
    go_wp2_with (first
      | (go_at_call 14; (with_reducible refine HL.out.mono ?_); rintro e w1 ⟨x, rfl, hw1, hx⟩; obtain rfl := hw1.symm; obtain rfl : x = true := hx.2 HLT.out; clear hx)
      | (go_at_call 15; (with_reducible refine HN.out.mono ?_); rintro e w2 ⟨a, rfl, hA2, hbw2⟩; have hB2 := Nat.le_refl w2.heap.size)
      | (go_at_call 28; (with_reducible refine (HK.out _).mono ?_); rintro e w3 ⟨rfl, hb3⟩; have hA3 := hA2.later hb3 hB2; have hB3 := hb3.size; have hbw3 := hbw2.trans (hb3.mono hbw2.size))
      | (go_at_call 19; (with_reducible refine (hRun.out _ _ _ hA3 hB3).mono ?_); rintro e w4 ⟨rfl, hb4⟩; have hbw4 := hbw3.trans (hb4.mono hbw3.size))
      | (go_at_call 25; (with_reducible refine (HCN.out _).mono ?_); rintro e w5 ⟨rfl, hb5⟩; have hbw5 := hbw4.trans (hb5.mono hbw4.size))
      | (go_at_call 18; (with_reducible refine (HWK.out _ (HML.out.later hbw5 hG) (Nat.lt_of_lt_of_le hG hbw5.size)).mono ?_); rintro e w6 ⟨rfl, hb6⟩))
    go_ret
    exact ⟨rfl, hbw5.trans (hb6.mono hbw5.size)⟩
  have HKL : Hid (∀ k, sle k ks → ((ba k).size : Int) < (ba ks).size ∨ (¬ ((ba k).size : Int) < (ba ks).size ∧ (ba k).size = (ba ks).size ∧ (Op.bytesLess (ba k).toList (ba ks).toList || (ba k).toList == (ba ks).toList) = true)) := Lib.hid fun k h => by
    rw [Lib.toList_data, Lib.toList_data]
    show _ ∨ (_ ∧ _ ∧ (Op.bytesLess (bs (ba k)) (bs (ba ks)) || (bs (ba k)) == (bs (ba ks))) = true)
    rw [bs_ba, bs_ba, ba_size, ba_size, lt_bytes]
    rcases h with rfl | h | ⟨h1, h2⟩
    · exact .inr ⟨by omega, rfl, by simp⟩
    · exact .inl (by omega)
    · exact .inr ⟨by omega, h1, by rw [Bool.or_eq_true, decide_eq_true_eq]; exact .inl h2⟩
  obtain ⟨K, hK⟩ : ∃ K, ba ks = K := ⟨_, rfl⟩
  rw [hK] at HK hRun HKL
  clear hK
  go_enter Try.func12, Try.ntmps12
  go_wp2_with (first
    | (go_at_call 14; (with_reducible refine HL.out.mono ?_); rintro e w1 ⟨x, rfl, hw1, hx⟩; obtain rfl := hw1.symm; obtain rfl : x = true := hx.2 HLT.out; clear hx)
    | (go_at_call 15; (with_reducible refine HN.out.mono ?_); rintro e w2 ⟨a, rfl, hA2, hbw2⟩; have hB2 := Nat.le_refl w2.heap.size)
    | (go_at_call 28; (with_reducible refine (HK.out _).mono ?_); rintro e w3 ⟨rfl, hb3⟩; have hA3 := hA2.later hb3 hB2; have hB3 := hb3.size; have hbw3 := hbw2.trans (hb3.mono hbw2.size))
    | (go_at_call 19; (with_reducible refine (hRun.out _ _ _ hA3 hB3).mono ?_); rintro e w4 ⟨rfl, hb4⟩; have hA4 := hA3.later hb4 hB3; have hB4 := Nat.le_trans hB3 hb4.size; have hbw4 := hbw3.trans (hb4.mono hbw3.size))
    | (go_at_call 25; (with_reducible refine (HCN.out _).mono ?_); rintro e w5 ⟨rfl, hb5⟩; have hA5 := hA4.later hb5 hB4; have hB5 := Nat.le_trans hB4 hb5.size; have hbw5 := hbw4.trans (hb5.mono hbw4.size))
    | (go_at_call 26; (with_reducible refine (HTY.out _ _ _ h64 hA5 hB5 (HML.out.later hbw5 hG) (Nat.lt_of_lt_of_le hG hbw5.size)).mono ?_); rintro e w6 ⟨k, rfl, hsl, hb6⟩; have hbw6 := hbw5.trans (hb6.mono hbw5.size); have hcmp := HKL.out k hsl.out; obtain ⟨KK, hKK⟩ : ∃ KK, ba k = KK := ⟨_, rfl⟩; rw [hKK] at hcmp ⊢; clear hKK HTY; rcases hcmp with hc1 | ⟨hc1, hc2, hc3⟩)
    | (go_at_call 18; (with_reducible refine (HWK.out _ (HML.out.later hbw6 hG) (Nat.lt_of_lt_of_le hG hbw6.size)).mono ?_); rintro e w7 ⟨rfl, hb7⟩))
  all_goals go_ret
  all_goals exact ⟨rfl, hbw6.trans (hb7.mono hbw6.size)⟩
theorem own : ownKnob Try.prog.godebug = none := by kernel_rfl
theorem laidOut : laidOutB Try.prog = true := by kernel_rfl

set_option maxRecDepth 100000 in
theorem lifted (os : Os) (started : os.Started) (H : Type) (enc : TypeId × Value → H) :
    ReturnsInHanded {} Try.checked os 12 .any (Rows.autoLeastSpec.pre6 enc Try.prog Try.f12 Rows.autoLeastRow.domain false) (Rows.autoLeastSpec.post enc Try.prog Try.f12 false true false false) := by
  refine returnsInHanded_of_change_shaped (C := Try.checked) own started (by kernel_rfl) Try.func12
    (ChangeSpec.witness6 (enc := enc) (C := Try.checked) false ⟨#[], #[.slice none 0 0, .string ByteArray.empty], []⟩ 8 (by kernel_rfl) (by kernel_rfl) (by kernel_rfl) (by kernel_rfl)) ?_
  intro W base args ds gs before hval0 hW hcnd hsz0 hsh _
  have hval : ∀ (j : Nat) t v, Try.f12.params[j]? = some t → args[j]? = some v → Value.okWide Try.prog W .any base t v := hval0
  have hW' := hW
  obtain ⟨p, q, hA0, hV, rfl, hfz, hnd⟩ := hW
  have hA : DataW.TrodAll enc Try.prog W 0 (fun _ => true) true Try.f12.params.toList args.toList ds p := hA0
  rw [Try.params12] at hA hval
  obtain ⟨v0, vs0, d0, ds0, p0, q0, hargs, rfl, rfl, h0, r0⟩ := trodAll_cons hA
  obtain ⟨v1, vs1, d1, ds1, p1, q1, rfl, rfl, rfl, h1, r1⟩ := trodAll_cons r0
  obtain ⟨rfl, rfl, rfl⟩ := trodAll_nil r1
  obtain rfl : args = #[v0, v1] := by cases args; simp_all
  obtain ⟨rfl, rfl⟩ := trodVars_none hV
  obtain ⟨a0, len0, cap0, rfl⟩ := okWide_slice Try.underlying22 (hval 0 22 v0 rfl rfl)
  have k0 := h0
  have lt0 : ∀ x ∈ p0, x.block < W.heap.size := by obtain ⟨m, hm⟩ := k0; exact DataW.trod_lt m _ _ _ hm
  obtain ⟨z0, w0⟩ : ∃ rs, RowR W (.slice a0 len0 cap0) rs := by
    obtain ⟨fuel, hf⟩ := h0
    exact rules_open hf
  obtain ⟨a1, rfl, rfl, rfl, w1⟩ := open_string Try.underlying9 (hval 1 9 v1 rfl rfl) h1
  clear hA0 hval0
  have hsz : (DataW.weightsEach Try.prog (Try.f12.params.toList ++ Rows.autoLeastSpec.plain.varTypes Try.prog) (_ ++ _)).all (· ≤ reachBytes) = true := hsz0
  rw [Try.params12] at hsz
  have sz1 := sized_string hsz (j := 1) (t := 9) rfl rfl
  refine (walk a0 len0 cap0 z0 a1 W w0 w1 (by have := sz1; simp only [reachBytes, Array.length_toList] at this; exact this) (maxL_of hsh).1 (maxL_of hsh).2).mono fun e W' ⟨he, bel⟩ => ?_
  subst he
  exact ⟨_, rfl, _, _, _, [], _, [], hW', trodAll_mk1 (shut_bool Try.underlying4 _), (trodAll_cons_mk (Below.trod laidOut (by kernel_rfl) (of_decide_eq_true (by kernel_rfl)) k0 bel lt0) (trodAll_cons_mk (shut_string Try.underlying9 w1) trodAll_mk0)), rfl, bel.frame _, fun h => by cases h⟩

theorem over : Rows.autoLeastRow.holds Try.pinned (OpenSpec.ofChange Rows.autoLeastSpec) :=
  OpenClaim.holds_of_wide 12 Try.f12 rfl rfl rfl rfl rfl rfl rfl ⟨rfl, rfl, rfl, rfl, rfl⟩ rfl rfl rfl rfl rfl (by kernel_rfl) Try.func12 (by kernel_rfl)
    (of_decide_eq_true (by kernel_rfl)) (by unfold Func.isWrapper; first | (rw [if_pos (by decide +kernel)]; kernel_rfl) | (rw [if_neg (by decide +kernel)]; exact ⟨rfl, rfl⟩))
    (fun os started H enc _ => lifted os started H enc)

theorem proved : Rows.AutoLeastSaid := over
end Go.Proofs.Ytmbccolkgephgaa.autoLeast
