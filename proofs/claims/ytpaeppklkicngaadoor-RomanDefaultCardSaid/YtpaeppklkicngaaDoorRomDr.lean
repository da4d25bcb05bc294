/-
  Contract of the reference's Default.
-/
import Derived.Test.YtpaeppklkicngaaDoorRomDc
import Derived.Deep.RegionHeld3
set_option linter.unusedVariables false
set_option linter.unusedSimpArgs false
set_option maxRecDepth 100000
namespace Go.Proofs.YtpaeppklkicngaaDoor.Rom
open Go Go.RowKit Go.Proofs.YtpaeppklkicngaaDoor.Kit Go.Proofs.YtpaeppklkicngaaDoor.Utf

/-! ### what has been put so far -/
def putR (ts : List R3) : List Rule := (ts.map mk3).foldl putL []
theorem putR_snoc (ts : List R3) (t : R3) : putR (ts ++ [t]) = putL (putR ts) (mk3 t) := by
  unfold putR
  rw [List.map_append, List.foldl_append]
  rfl
theorem putR_len (ts : List R3) : (putR ts).length = ts.length := by
  have key : ∀ (ts : List Rule) (acc : List Rule), (ts.foldl putL acc).length = acc.length + ts.length := by
    intro ts
    induction ts with
    | nil => intro acc; rfl
    | cons t ts ih => intro acc; rw [List.foldl_cons, ih, putL_len]; simp; omega
  unfold putR
  rw [key]
  simp
/-- The slice v is a row of the rules ts, put each in its place. -/
structure OutR (w1 w : World) (v : Value) (ts : List R3) : Prop where
  own : w.ownsRow w1.heap.size 43 3 v (putR ts).length (rc (putR ts))
  bel : Below w1.heap.size w1 w
theorem OutR.drews {w1 w : World} {v : Value} {ts : List R3} (h : OutR w1 w v ts) (q : Nat) : OutR w1 (w.drewN q) v ts := ⟨h.own, below_drews h.bel q⟩
theorem OutR.drew {w1 w : World} {v : Value} {ts : List R3} (h : OutR w1 w v ts) : OutR w1 w.drew v ts := ⟨h.own, h.bel.drew⟩
theorem put_out {w1 w : World} {v : Value} {ts : List R3} (h : OutR w1 w v ts) (hl : ts.length ≤ 900) (t : R3) (k o n : ByteArray) (hk : k = ba t.1) (ho : o = ba t.2.1) (hn : n = ba t.2.2) :
    Calls Tryd.prog 42 #[v, .agg #[.string k, .string o, .string n]] w fun e w' => ∃ v', e = .returned v' ∧ OutR w1 w' v' (ts ++ [t]) := by
  subst hk ho hn
  refine (put_any v _ (mk3 t) w (row_of_own h.own).1 (by rw [putR_len]; omega)).mono ?_
  rintro e w' ⟨v', rfl, hown, hb⟩
  refine ⟨v', rfl, ?_, h.bel.trans (hb.mono h.bel.size)⟩
  rw [putR_snoc]
  exact own_base hown h.bel.size

/-- The rules before row k. -/
def pre3 (k : Nat) : List R3 := (tabL.take k).flatMap row3
theorem pre3_succ {k : Nat} (h : k < 25) : pre3 (k + 1) = pre3 k ++ row3 (tabR k) := by
  unfold pre3
  rw [List.take_add_one, List.flatMap_append, List.getElem?_eq_getElem (by rw [tab_len]; exact h)]
  unfold tabR
  rw [List.getD_eq_getElem?_getD, List.getElem?_eq_getElem (by rw [tab_len]; exact h)]
  simp
theorem pre3_all : pre3 25 = tabL.flatMap row3 := by unfold pre3; rw [List.take_of_length_le (by rw [tab_len]; exact Nat.le_refl _)]
theorem row3_len (r : List UInt8 × List (List UInt8)) : (row3 r).length ≤ 8 := by
  unfold row3
  rw [List.length_append]
  have := vow3_len r.1 r.2 5
  split
  · simp [con3]; omega
  · simp; omega
theorem pre3_len : ∀ k, k ≤ 25 → (pre3 k).length ≤ 8 * k := by
  intro k
  induction k with
  | zero => intro _; simp [pre3]
  | succ k ih => intro h; rw [pre3_succ (by omega), List.length_append]; have := ih (by omega); have := row3_len (tabR k); omega

set_option maxHeartbeats 16000000 in
theorem rdefault_any (w : World) :
    Calls Tryd.prog 25 #[] w fun e w' => ∃ v', e = .returned v' ∧ w'.ownsRow w.heap.size 43 3 v' defL.length (rc defL) ∧ Below w.heap.size w w' := by
  have HT := Lib.hid table_any
  go_enter Tryd.func25, Tryd.ntmps25
  go_wp2_with (go_at_call 41; (refine (HT.out _).mono ?_); rintro e w1 ⟨cs, t, rfl, hw1, hcs⟩; have HW1 := Lib.hid hw1; clear hw1)
  have hw1 := HW1.out
  clear HW1
  have h0 : Below w.heap.size w w1 := by rw [hw1]; exact ((Below.refl _ _).alloc (Nat.le_refl _) _).alloc (by simp) _
  have hsz : w1.heap.size = w.heap.size + 1 + 1 := by rw [hw1]; simp
  have hv : ∀ j, j < 5 → w1.cell? ⟨w.heap.size, j, none⟩ = some (.string (ba [vw.getD j 0])) := by
    intro j hj
    rw [cell_of_row w1 w.heap.size j _ _ (0, 0) (by rw [hw1]; exact keeps_alloc (heap_alloc_new w _))]
    match j, hj with
    | 0, _ => rfl
    | 1, _ => rfl
    | 2, _ => rfl
    | 3, _ => rfl
    | 4, _ => rfl
  have hc : ∀ j x, tabC[j]? = some x → w1.cell? ⟨w.heap.size + 1, j, none⟩ = some x := by
    intro j x hx
    rw [cell_of_row w1 (w.heap.size + 1) j cs t (0, 0) (by rw [hw1]; exact heap_new_at _ _ _ (by simp)), ← Array.getElem?_toList, hcs]
    exact hx
  clear hw1 hcs
  have HV := Lib.hid hv
  have HC := Lib.hid hc
  have H0 := Lib.hid h0
  clear hv hc h0
  obtain ⟨g, hg⟩ : ∃ g, w.heap.size = g := ⟨_, rfl⟩
  rw [hg] at HV HC hsz
  rw [hg]
  go_loopw [4, 2] (fun i v wr => ∃ k : Nat, i = .int .i64 k ∧ k ≤ 25 ∧ OutR w1 wr v (pre3 k)) (fun i _ _ => 25 - (intOf i).toNat)
  case atStart => exact ⟨0, rfl, by omega, ⟨World.ownsRow_nil _ _ _ _, Below.refl _ _⟩⟩
  case round =>
    obtain ⟨k, rfl, hk, hout⟩ := hrel
    by_cases hkl : k < 25
    · have HTL := Lib.hid (tabR_len hkl)
      have HTC := Lib.hid (tabC_at hkl)
      have HPS := Lib.hid (pre3_succ hkl)
      have hpl := pre3_len k hk
      obtain ⟨L, hL⟩ : ∃ L, (tabR k).1 = L := ⟨_, rfl⟩
      obtain ⟨K, hK⟩ : ∃ K, (tabR k).2 = K := ⟨_, rfl⟩
      have HRW : Hid (row3 (tabR k) = vow3 L K 5 ++ if L ∈ conL then con3 L (K.getD 1 []) else []) := by rw [← hL, ← hK]; exact rfl
      rw [hL, hK] at HTC HTL
      clear hL hK
      have hl0 : (ba L).size ≤ 3 := by rw [ba_size]; exact HTL.out.1
      have k0 : (0 : Int) ≤ k := by omega
      have k1 : (k : Int) < 25 := by omega
      go_wp2
      go_loopw [5, 2] (fun j v wq => ∃ m : Nat, j = .int .i64 m ∧ m ≤ 5 ∧ OutR w1 wq v (pre3 k ++ vow3 L K m)) (fun j _ _ => 5 - (intOf j).toNat)
      case atStart => exact ⟨0, rfl, by omega, by simpa [vow3] using hout⟩
      case round =>
        obtain ⟨m, rfl, hm, ho⟩ := hrel
        clear hout
        have hws := ho.bel.size
        by_cases hm5 : m < 5
        · have z0 : wr.cell? ⟨g + 1, k * 6, none⟩ = some (.string (ba L)) := (ho.bel.cell (p := ⟨g + 1, _, none⟩) (by show g + 1 < _; omega)).trans (HC.out _ _ HTC.out.1)
          have z1 : wr.cell? ⟨g + 1, k * 6 + 1 + m, none⟩ = some (.string (ba (K.getD m []))) := (ho.bel.cell (p := ⟨g + 1, _, none⟩) (by show g + 1 < _; omega)).trans (HC.out _ _ (HTC.out.2 m hm5))
          have z2 : wr.cell? ⟨g, m, none⟩ = some (.string (ba [vw.getD m 0])) := (ho.bel.cell (p := ⟨g, _, none⟩) (by show g < _; omega)).trans (HV.out m hm5)
          have hl1 : (ba (K.getD m [])).size ≤ 6 := by rw [ba_size]; exact HTL.out.2 m hm5
          have hl2 : (ba [vw.getD m 0]).size ≤ 1 := by rw [ba_size]; exact Nat.le_refl _
          have m0 : (0 : Int) ≤ m := by omega
          have m1 : (m : Int) < 5 := by omega
          have hvl := vow3_len L K m
          by_cases hkn : K.getD m [] = []
          · have hne : (ba (K.getD m [])).toList.isEmpty = true := by rw [hkn, empty_str, decide_eq_true]; rw [ba_size]; rfl
            have HF := Lib.hid (vow3_none (L := L) hkn)
            generalize K.getD m [] = kn at *
            clear hkn
            go_wp2
            go_roundw
            case rel => exact ⟨m + 1, by go_num, by omega, by rw [HF.out]; exact ho⟩
            case measure => simp [intOf]; omega
          · have hne : (ba (K.getD m [])).toList.isEmpty = false := by rw [empty_str, decide_eq_false]; rw [ba_size]; intro e; exact hkn (List.eq_nil_of_length_eq_zero e)
            have HF := Lib.hid (vow3_some (L := L) hkn)
            generalize K.getD m [] = kn at *
            generalize vw.getD m 0 = vv at *
            clear hkn
            have HZ : Hid (∀ W, Below w1.heap.size w1 W → W.cell? ⟨g + 1, k * 6, none⟩ = some (.string (ba L)) ∧ W.cell? ⟨g + 1, k * 6 + 1 + m, none⟩ = some (.string (ba kn)) ∧ W.cell? ⟨g, m, none⟩ = some (.string (ba [vv]))) :=
              Lib.hid (fun W hb => ⟨(hb.cell (p := ⟨g + 1, _, none⟩) (by show g + 1 < _; omega)).trans ((ho.bel.cell (p := ⟨g + 1, _, none⟩) (by show g + 1 < _; omega)).symm.trans z0), (hb.cell (p := ⟨g + 1, _, none⟩) (by show g + 1 < _; omega)).trans ((ho.bel.cell (p := ⟨g + 1, _, none⟩) (by show g + 1 < _; omega)).symm.trans z1), (hb.cell (p := ⟨g, _, none⟩) (by show g < _; omega)).trans ((ho.bel.cell (p := ⟨g, _, none⟩) (by show g < _; omega)).symm.trans z2)⟩)
            have HLN : Hid ((pre3 k ++ vow3 L K m).length ≤ 900) := Lib.hid (by rw [List.length_append]; omega)
            have HO := Lib.hid ho
            have hs1 : ¬ 9223372036854775807 < (ba L).size + (ba [vv]).size := by omega
            have hs2 : ¬ (9223372036854775807 : Int) < ((ba L).size : Int) + ((ba [vv]).size : Int) := by omega
            clear ho hvl hpl
            go_wp2
            go_region_held3 (fun W => W.cell? ⟨g + 1, k * 6, none⟩ = some (.string (ba L)) ∧ W.cell? ⟨g + 1, k * 6 + 1 + m, none⟩ = some (.string (ba kn)) ∧ W.cell? ⟨g, m, none⟩ = some (.string (ba [vv])))
              (first
                | exact HZ.out _ ho2.bel
                | go_keep)
              ((go_at_call 42; (refine (put_out HO.out.drew HLN.out (L ++ [vv], kn, []) _ _ _ (by rw [ba_app]) rfl rfl).mono ?_); rintro e w2 ⟨v2, rfl, ho2⟩))
            go_wp2
            go_roundw
            case rel => exact ⟨m + 1, by go_num, by omega, by rw [HF.out, ← List.append_assoc]; exact ho2⟩
            case measure => simp [intOf]; omega
        · have e5 : m = 5 := by omega
          subst e5
          have z0 : wr.cell? ⟨g + 1, k * 6, none⟩ = some (.string (ba L)) := (ho.bel.cell (p := ⟨g + 1, _, none⟩) (by show g + 1 < _; omega)).trans (HC.out _ _ HTC.out.1)
          have z1 : wr.cell? ⟨g + 1, k * 6 + 1 + 1, none⟩ = some (.string (ba (K.getD 1 []))) := (ho.bel.cell (p := ⟨g + 1, _, none⟩) (by show g + 1 < _; omega)).trans (HC.out _ _ (HTC.out.2 1 (by omega)))
          have hl1 : (ba (K.getD 1 [])).size ≤ 6 := by rw [ba_size]; exact HTL.out.2 1 (by omega)
          have hpl2 : (pre3 k ++ vow3 L K 5).length ≤ 300 := by rw [List.length_append]; have := vow3_len L K 5; omega
          have HO := Lib.hid ho
          have HQ : Hid (∀ W, Below w1.heap.size w1 W → W.cell? ⟨g + 1, k * 6 + 1 + 1, none⟩ = some (.string (ba (K.getD 1 [])))) :=
            Lib.hid (fun W hb => (hb.cell (p := ⟨g + 1, _, none⟩) (by show g + 1 < _; omega)).trans (HC.out _ _ (HTC.out.2 1 (by omega))))
          generalize K.getD 1 [] = K1 at *
          have KF := Lib.hid (pre3_succ hkl)
          rw [HRW.out] at KF
          clear ho hpl
          by_cases hc : L ∈ conL
          · rw [if_pos hc] at KF
            unfold conL at hc
            simp only [List.mem_cons, List.not_mem_nil, or_false] at hc
            have TL := toList_ba L
            have HL1 : Hid (∀ a : R3, ((pre3 k ++ vow3 L K 5) ++ [a]).length ≤ 900) := Lib.hid (fun a => by simp only [List.length_append, List.length_cons, List.length_nil] at hpl2 ⊢; omega)
            have HL2 : Hid (∀ a b : R3, (((pre3 k ++ vow3 L K 5) ++ [a]) ++ [b]).length ≤ 900) := Lib.hid (fun a b => by simp only [List.length_append, List.length_cons, List.length_nil] at hpl2 ⊢; omega)
            rcases hc with rfl | rfl | rfl | rfl | rfl | rfl | rfl | rfl | rfl | rfl | rfl | rfl
            all_goals
              go_wp2_with (first
                | (go_at_call 42; (refine (put_out HO.out (by omega) (_ ++ [121, 97], K1 ++ [227, 130, 131], []) _ _ _ (app_lit _ _ _ rfl) (app_lit _ _ _ rfl) rfl).mono ?_); rintro e w2 ⟨v2, rfl, ho2⟩; have q2 := HQ.out _ ho2.bel; have HO2 := Lib.hid ho2; clear ho2 HO)
                | (go_at_call 42; (refine (put_out HO2.out (HL1.out _) (_ ++ [121, 117], K1 ++ [227, 130, 133], []) _ _ _ (app_lit _ _ _ rfl) (app_lit _ _ _ rfl) rfl).mono ?_); rintro e w3 ⟨v3, rfl, ho3⟩; have q3 := HQ.out _ ho3.bel; have HO3 := Lib.hid ho3; clear ho3 HO2)
                | (go_at_call 42; (refine (put_out HO3.out (HL2.out _ _) (_ ++ [121, 111], K1 ++ [227, 130, 135], []) _ _ _ (app_lit _ _ _ rfl) (app_lit _ _ _ rfl) rfl).mono ?_); rintro e w4 ⟨v4, rfl, ho4⟩; have q4 := HQ.out _ ho4.bel; have HO4 := Lib.hid ho4; clear ho4 HO3))
              go_roundw
              case rel => exact ⟨k + 1, by go_num, by omega, by rw [KF.out, ← List.append_assoc]; unfold con3; have h := HO4.out; rw [List.append_assoc, List.append_assoc] at h; exact h⟩
              case measure => simp [intOf]; omega
          · rw [if_neg hc, List.append_nil] at KF
            have hno : ∀ b, [b] ∈ conL → ((ba L).toList == [b]) = false := fun b hb => by
              rw [toList_ba]
              rw [beq_eq_false_iff_ne]
              intro e
              rw [e] at hc
              exact hc hb
            have n1 := hno 107 (by decide)
            have n2 := hno 115 (by decide)
            have n3 := hno 116 (by decide)
            have n4 := hno 110 (by decide)
            have n5 := hno 104 (by decide)
            have n6 := hno 109 (by decide)
            have n7 := hno 114 (by decide)
            have n8 := hno 103 (by decide)
            have n9 := hno 122 (by decide)
            have n10 := hno 100 (by decide)
            have n11 := hno 98 (by decide)
            have n12 := hno 112 (by decide)
            clear hno hc
            go_wp2
            go_roundw
            case rel => exact ⟨k + 1, by go_num, by omega, by rw [KF.out]; exact HO.out⟩
            case measure => simp [intOf]; omega
    · have e25 : k = 25 := by omega
      subst e25
      have hpl := pre3_len 25 (Nat.le_refl _)
      have HD := Lib.hid pre3_all
      generalize pre3 25 = T3 at *
      have H0' := H0
      have H0 := Lib.hid hout
      clear hout
      go_wp2_with (first
        | (go_at_call 42; (refine (put_out H0.out (by first | omega | (simp only [List.length_append, List.length_cons, List.length_nil]; omega)) ([110], [227, 130, 147], []) _ _ _ rfl rfl rfl).mono ?_); rintro e z0 ⟨v0, rfl, h0⟩; have H1 := Lib.hid h0; clear h0 H0)
        | (go_at_call 42; (refine (put_out H1.out (by first | omega | (simp only [List.length_append, List.length_cons, List.length_nil]; omega)) ([110, 110], [227, 130, 147], []) _ _ _ rfl rfl rfl).mono ?_); rintro e z1 ⟨v1, rfl, h1⟩; have H2 := Lib.hid h1; clear h1 H1)
        | (go_at_call 42; (refine (put_out H2.out (by first | omega | (simp only [List.length_append, List.length_cons, List.length_nil]; omega)) ([110, 39], [227, 130, 147], []) _ _ _ rfl rfl rfl).mono ?_); rintro e z2 ⟨v2, rfl, h2⟩; have H3 := Lib.hid h2; clear h2 H2)
        | (go_at_call 42; (refine (put_out H3.out (by first | omega | (simp only [List.length_append, List.length_cons, List.length_nil]; omega)) ([45], [227, 131, 188], []) _ _ _ rfl rfl rfl).mono ?_); rintro e z3 ⟨v3, rfl, h3⟩; have H4 := Lib.hid h3; clear h3 H3)
        | (go_at_call 42; (refine (put_out H4.out (by first | omega | (simp only [List.length_append, List.length_cons, List.length_nil]; omega)) ([44], [227, 128, 129], []) _ _ _ rfl rfl rfl).mono ?_); rintro e z4 ⟨v4, rfl, h4⟩; have H5 := Lib.hid h4; clear h4 H4)
        | (go_at_call 42; (refine (put_out H5.out (by first | omega | (simp only [List.length_append, List.length_cons, List.length_nil]; omega)) ([46], [227, 128, 130], []) _ _ _ rfl rfl rfl).mono ?_); rintro e z5 ⟨v5, rfl, h5⟩; have H6 := Lib.hid h5; clear h5 H5)
        | (go_at_call 42; (refine (put_out H6.out (by first | omega | (simp only [List.length_append, List.length_cons, List.length_nil]; omega)) ([116, 99], [227, 129, 163], [99]) _ _ _ rfl rfl rfl).mono ?_); rintro e z6 ⟨v6, rfl, h6⟩; have H7 := Lib.hid h6; clear h6 H6))
      go_loopw [8, 2] (fun i v wq => ∃ m : Nat, i = .int .i64 m ∧ m ≤ 17 ∧ OutR w1 wq v (((((((T3 ++ [([110], [227, 130, 147], [])]) ++ [([110, 110], [227, 130, 147], [])]) ++ [([110, 39], [227, 130, 147], [])]) ++ [([45], [227, 131, 188], [])]) ++ [([44], [227, 128, 129], [])]) ++ [([46], [227, 128, 130], [])]) ++ [([116, 99], [227, 129, 163], [99])] ++ (dblB.take m).map dbl3)) (fun i _ _ => 17 - (intOf i).toNat)
      case atStart => exact ⟨0, rfl, by omega, by simpa using H7.out⟩
      case round =>
        obtain ⟨m, rfl, hm, ho⟩ := hrel
        by_cases hm5 : m < 17
        · have m0 : (0 : Int) ≤ m := by omega
          have m1 : (m : Int) + 1 ≤ 17 := by omega
          have EX : Hid (({ data := #[98, 99, 100, 102, 103, 104, 106, 107, 109, 112, 114, 115, 116, 118, 119, 121, 122] } : ByteArray).extract m (m + 1) = ba [dblB.getD m 0]) := Lib.hid (ba_cut dblB m hm5)
          have HF := Lib.hid (dbl_succ hm5)
          generalize dblB.getD m 0 = c at *
          have HO := Lib.hid ho
          clear ho
          go_wp2_with (go_at_call 42; (refine (put_out HO.out (by simp only [List.length_append, List.length_cons, List.length_nil, List.length_map, List.length_take]; omega) (dbl3 c) _ _ _ (by rw [EX.out, ba_app]; rfl) rfl EX.out).mono ?_); rintro e w2 ⟨v2, rfl, ho2⟩)
          go_roundw
          case rel => exact ⟨m + 1, by go_num, by omega, by rw [HF.out, ← List.append_assoc]; exact ho2⟩
          case measure => simp [intOf]; omega
        · have e5 : m = 17 := by omega
          subst e5
          have HE := Lib.hid ho
          clear ho
          go_wp2
          go_ret
          refine ⟨_, rfl, ?_, H0'.out.trans (HE.out.bel.mono (by omega))⟩
          have e : putR (((((((T3 ++ [([110], [227, 130, 147], [])]) ++ [([110, 110], [227, 130, 147], [])]) ++ [([110, 39], [227, 130, 147], [])]) ++ [([45], [227, 131, 188], [])]) ++ [([44], [227, 128, 129], [])]) ++ [([46], [227, 128, 130], [])]) ++ [([116, 99], [227, 129, 163], [99])] ++ (dblB.take 17).map dbl3) = defL := by
            rw [HD.out]
            exact Eq.trans (congrArg putR (by unfold ref3 n3 m3 tc3; simp [dblB])) ref_put
          have h := HE.out.own
          rw [e] at h
          exact own_base h (by omega)

end Go.Proofs.YtpaeppklkicngaaDoor.Rom
