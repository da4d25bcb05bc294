/-
  Joined texts: CalRp.
-/
import Derived.Test.YteelmjmiankflaaGreatDoorM15
import Derived.Test.YteelmjmiankflaaGreatDoorM11
import Derived.Test.YteelmjmiankflaaGreatDoorM13
import Derived.Deep.RegionHeld3
set_option linter.unusedVariables false
set_option linter.unusedSimpArgs false
namespace Go.Proofs.YteelmjmiankflaaGreatDoor.Cal
open Go Go.RowKit Go.Proofs.YteelmjmiankflaaGreatDoor.Kit Go.Proofs.YteelmjmiankflaaGreatDoor.Utf
open Go.Proofs.YteelmjmiankflaaGreatDoor.Num

set_option maxRecDepth 100000 in
set_option maxHeartbeats 8000000 in
theorem rparse_at (s : ByteArray) (hs : s.size ≤ 1048576) (w : World) (hL : GLaid w) : Calls Tryz.prog 7 #[.string s] w (ParsePost s w) := by
  have HC := Lib.hid (rcut_at s { data := #[40] } hs (by decide))
  rw [← tx40] at HC
  have hT0 := ctA_size s (tx [40])
  obtain ⟨T0, e0⟩ : ∃ t, ctA s (tx [40]) = t := ⟨_, rfl⟩
  obtain ⟨T1, e1⟩ : ∃ t, ctR s (tx [40]) = t := ⟨_, rfl⟩
  obtain ⟨T2, e2⟩ : ∃ t, ctK s (tx [40]) = t := ⟨_, rfl⟩
  rw [e0, e1, e2] at HC
  rw [e0] at hT0
  have hTs : T0.size ≤ 1048576 := by omega
  have HX := Lib.hid (fun (X R : ByteArray) (z : Int) (hX : X = trim T0) (hR : cutN 5 (bs X) = (bs R, z)) (day : Int) (h : IsForm s day) => hit_of (s := s) (by rw [e0]; exact hX) hR h)
  have HXs := Lib.hid (trim_size T0)
  have HLW := Lib.hid (fun W (h : Below w.heap.size w W) => hL.next h)
  rw [tx40] at HC
  clear e0 e1 e2 hs hT0 hL
  by_cases h3 : 3 ≤ T0.size
  · have g3 : (3 : Int) ≤ T0.size := by omega
    have hs1 := slice_from T0 h3
    have hs2 := slice_to T0 h3
    obtain ⟨last, el⟩ : ∃ t, T0.extract (T0.size - 3) T0.size = t := ⟨_, rfl⟩
    rw [el] at hs1
    cases hq0 : (last.toList == [230, 151, 165]) with
    | true =>
      have hX := trim_yes h3 (by rw [el]; exact hq0)
      obtain ⟨X, eX⟩ : ∃ X, T0.extract 0 (T0.size - 3) = X := ⟨_, rfl⟩
      rw [eX] at hs2 hX
      have HHit := Lib.hid (fun R z hR day h => HX.out X R z hX hR day h)
      have hXs : X.size ≤ 1048576 := by have := HXs.out; rw [← hX] at this; omega
      clear HX hX HXs el eX
      go_enter Tryz.func7, Tryz.ntmps7
      go_wp2_with (go_at_call 16; (with_reducible refine (HC.out _).mono ?_); rintro e w1 ⟨rfl, hb1⟩)
      change Code.wp _ _ _ _ (rW2 w1)
      have hb2 := hb1.trans ((rW2_below w1).mono hb1.size)
      have HN := Lib.hid (rW2_n w1)
      have HY := Lib.hid (rW2_y w1)
      have hsz := rW2_size w1
      obtain ⟨W, hW⟩ : ∃ W, rW2 w1 = W := ⟨_, rfl⟩
      rw [hW] at HN HY hsz hb2 ⊢
      clear hW HC hb1 hs1 hs2 hq0
      go_loopw [4, 7, 10] (fun tv zv iv wr => ∃ (R : ByteArray) (z : Int) (k : Nat), tv = .string R ∧ zv = .int .i64 z ∧ iv = .int .i64 k ∧ k ≤ 5 ∧ Hid (cutN k (bs X) = (bs R, z)) ∧ R.size ≤ 1048576 ∧ 0 ≤ z ∧ z ≤ 3000 ∧ Below W.heap.size W wr) (fun _ _ iv _ => 6 - (intOf iv).toNat)
      case atStart => exact ⟨X, 0, 0, rfl, rfl, rfl, by omega, Lib.hid rfl, hXs, by omega, by omega, Below.refl _ _⟩
      case round =>
        obtain ⟨R, z, k, rfl, rfl, rfl, hk, hcut, hR, hz0, hz1, hb⟩ := hrel
        by_cases hlt : k < 5
        · have cN := (hb.cell (p := ⟨w1.heap.size, k, none⟩) (show w1.heap.size < W.heap.size by omega)).trans (HN.out k hlt)
          have cY := (hb.cell (p := ⟨w1.heap.size + 1, k, none⟩) (show w1.heap.size + 1 < W.heap.size by omega)).trans (HY.out k hlt)
          have k0 : (0 : Int) ≤ k := by omega
          have k1 : (k : Int) < 5 := by omega
          have k2 : k < 5 := hlt
          have yb := eY_bounds k hlt
          have hstep := era_step R z k hlt
          have HCB := Lib.hid (fun (r : List UInt8 × Int) (h : cutB k (bs R, z) = r) => show cutN (k + 1) (bs X) = r by
            show cutB k (cutN k (bs X)) = r
            rw [hcut.out, h])
          obtain ⟨N, eN0⟩ : ∃ N, tx (eN k) = N := ⟨_, rfl⟩
          obtain ⟨y, eY0⟩ : ∃ y, eY k = y := ⟨_, rfl⟩
          rw [eN0] at cN hstep
          rw [eY0] at cY hstep yb
          clear eN0 eY0 hcut HN HY HLW HHit
          rcases hstep with ⟨h6, hc⟩ | ⟨h6, hq, hc⟩ | ⟨h6, hq, hc⟩
          · have HN1 := Lib.hid (HCB.out _ hc)
            have n6 : decide ((6 : Int) ≤ (R.size : Int)) = false := decide_eq_false (by omega)
            clear hc HCB
            go_wp2
            go_quiet (fail)
            go_wp2
            go_roundw
            case rel => exact ⟨R, z, k + 1, rfl, rfl, by go_num, by omega, HN1, hR, hz0, hz1, by first | exact below_drews hb _ | exact below_drewN hb (by omega)⟩
            case measure => simp [intOf]; omega
          · have HN1 := Lib.hid (HCB.out _ hc)
            have n6 : (6 : Int) ≤ R.size := by omega
            clear hc HCB
            go_wp2
            go_quiet (fail)
            go_wp2
            go_roundw
            case rel => exact ⟨R, z, k + 1, rfl, rfl, by go_num, by omega, HN1, hR, hz0, hz1, below_drews hb _⟩
            case measure => simp [intOf]; omega
          · have HN1 := Lib.hid (HCB.out _ hc)
            have n6 : (6 : Int) ≤ R.size := by omega
            have hr6 : (R.extract 6 R.size).size ≤ 1048576 := by rw [ByteArray.size_extract]; omega
            have hs6 := fun (W : World) => run_slice_string_from_if (P := Tryz.prog) W 9 R .i64 6 Tryz.underlying9
            clear hc HCB
            go_wp2
            go_quiet (fail)
            go_wp2
            go_roundw
            case rel => exact ⟨R.extract 6 R.size, y - 1, k + 1, rfl, rfl, by go_num, by omega, HN1, hr6, by omega, by omega, by first | exact below_drews hb _ | exact below_drews (below_drews hb _) _⟩
            case measure => simp [intOf]; omega
        · obtain rfl : k = 5 := by omega
          have HF := Lib.hid (fun day h => HHit.out R z hcut.out day h)
          have HT := Lib.hid (fun k (hk : k < 3) => three_at R (tx [sA k]) (tx [sB k]) hR (sep_size k hk).1 (sep_size k hk).2)
          have hwr := hb2.trans (hb.mono hb2.size)
          clear hcut hR HHit HN HY hXs hb hb2 hsz
          go_wp2
          change Code.wp _ _ _ _ (rQ wr)
          have hV := hwr.trans ((rQ_below wr).mono hwr.size)
          have HO := Lib.hid (rQ_o wr)
          have HA := Lib.hid (rQ_a wr)
          have hsz := rQ_size wr
          obtain ⟨V, eV⟩ : ∃ V, rQ wr = V := ⟨_, rfl⟩
          rw [eV] at HO HA hsz hV ⊢
          obtain ⟨n, en⟩ : ∃ n, wr.heap.size = n := ⟨_, rfl⟩
          rw [en] at HO HA hsz ⊢
          clear eV en hwr
          go_loopw [12] (fun iv wq => ∃ k : Nat, iv = .int .i64 k ∧ k ≤ 3 ∧ Hid (∀ j, j < k → ¬ Hit s R z j) ∧ Below V.heap.size V wq) (fun iv _ => 4 - (intOf iv).toNat)
          case atStart => exact ⟨0, rfl, by omega, Lib.hid (fun j hj => by omega), Below.refl _ _⟩
          case round =>
            obtain ⟨k, rfl, hk, hno, hb⟩ := hrel
            by_cases hlt : k < 3
            · have cO := (hb.cell (p := ⟨n + 1 + 1 + 1, k, none⟩) (show n + 1 + 1 + 1 < V.heap.size by omega)).trans (HO.out k hlt)
              have cA := (hb.cell (p := ⟨n + k, 0, none⟩) (show n + k < V.heap.size by omega)).trans (HA.out k hlt).1
              have cB := (hb.cell (p := ⟨n + k, 1, none⟩) (show n + k < V.heap.size by omega)).trans (HA.out k hlt).2
              have k0 : (0 : Int) ≤ k := by omega
              have k1 : (k : Int) < 3 := by omega
              have k2 : k < 3 := hlt
              have H3 := Lib.hid (HT.out k hlt)
              have HHk : Hid (Hit s R z k → ∃ day, IsForm s day ∧ tk R (tx [sA k]) (tx [sB k]) = true ∧ IsDate day (t1 R (tx [sA k]) (tx [sB k]) + z) (t2 R (tx [sA k]) (tx [sB k])) (t3 R (tx [sA k]) (tx [sB k]))) := Lib.hid (fun h => h)
              have HNO := Lib.hid (fun (h : ¬ Hit s R z k) (j : Nat) (hj : j < k + 1) => show ¬ Hit s R z j by
                by_cases e : j = k
                · rw [e]; exact h
                · exact hno.out j (by omega))
              obtain ⟨a, ea⟩ : ∃ a, tx [sA k] = a := ⟨_, rfl⟩
              obtain ⟨b, eb⟩ : ∃ b, tx [sB k] = b := ⟨_, rfl⟩
              rw [ea, eb] at H3 HHk
              rw [ea] at cA
              rw [eb] at cB
              have b1 : 0 ≤ t1 R a b ∧ t1 R a b ≤ 99999 := vl_le _
              have b2 : 0 ≤ t2 R a b ∧ t2 R a b ≤ 99999 := vl_le _
              have b3 : 0 ≤ t3 R a b ∧ t3 R a b ≤ 99999 := vl_le _
              obtain ⟨v1, f1⟩ : ∃ v, t1 R a b = v := ⟨_, rfl⟩
              obtain ⟨v2, f2⟩ : ∃ v, t2 R a b = v := ⟨_, rfl⟩
              obtain ⟨v3, f3⟩ : ∃ v, t3 R a b = v := ⟨_, rfl⟩
              obtain ⟨q, fq⟩ : ∃ v, tk R a b = v := ⟨_, rfl⟩
              rw [f1, f2, f3, fq] at H3 HHk
              rw [f1] at b1
              rw [f2] at b2
              rw [f3] at b3
              have HST := Lib.hid (show ∀ W W', (W.cell? ⟨n + 1 + 1 + 1, k, none⟩ = some (.slice (some ⟨n + k, 0, none⟩) 2 2) ∧ W.cell? ⟨n + k, 0, none⟩ = some (.string a) ∧ W.cell? ⟨n + k, 1, none⟩ = some (.string b) ∧ Below V.heap.size V W) → Below W.heap.size W W' → (W'.cell? ⟨n + 1 + 1 + 1, k, none⟩ = some (.slice (some ⟨n + k, 0, none⟩) 2 2) ∧ W'.cell? ⟨n + k, 0, none⟩ = some (.string a) ∧ W'.cell? ⟨n + k, 1, none⟩ = some (.string b) ∧ Below V.heap.size V W') from fun W W' h hb => by
                have h2 := h.2.2.2.size
                refine ⟨(hb.cell (p := ⟨n + 1 + 1 + 1, k, none⟩) (show n + 1 + 1 + 1 < W.heap.size by omega)).trans h.1, (hb.cell (p := ⟨n + k, 0, none⟩) (show n + k < W.heap.size by omega)).trans h.2.1, (hb.cell (p := ⟨n + k, 1, none⟩) (show n + k < W.heap.size by omega)).trans h.2.2.1, h.2.2.2.trans (hb.mono h2)⟩)
              have HLS := Lib.hid (show ∀ W, Below V.heap.size V W → GLaid W from fun W h => HLW.out W (hV.trans (h.mono hV.size)))
              have hS0 := show (fun W : World => W.cell? ⟨n + 1 + 1 + 1, k, none⟩ = some (.slice (some ⟨n + k, 0, none⟩) 2 2) ∧ W.cell? ⟨n + k, 0, none⟩ = some (.string a) ∧ W.cell? ⟨n + k, 1, none⟩ = some (.string b) ∧ Below V.heap.size V W) wr.drew from ⟨cO, cA, cB, hb.drew⟩
              simp only [] at hS0
              clear ea eb f1 f2 f3 HO HA HT cO cA cB hb
              go_wp2
              go_region_held3 (fun W => W.cell? ⟨n + 1 + 1 + 1, k, none⟩ = some (.slice (some ⟨n + k, 0, none⟩) 2 2) ∧ W.cell? ⟨n + k, 0, none⟩ = some (.string a) ∧ W.cell? ⟨n + k, 1, none⟩ = some (.string b) ∧ Below V.heap.size V W) (first | assumption | exact hS0)
                (first
                | (go_at_call 17; (with_reducible refine (H3.out _ ?_).mono ?_); exact (HLS.out _ (by exact (‹_ ∧ _ ∧ _ ∧ Below V.heap.size V _›).2.2.2)).f.num; rintro e w3 ⟨rfl, hbA⟩
                   have hS3 := HST.out _ _ (by assumption) hbA
                   clear hbA))
              have hb3 := hS3.2.2.2
              clear hS3 hS0
              cases q with
              | false =>
                have HE := Lib.hid (HNO.out (fun h => by obtain ⟨_, _, h, _⟩ := HHk.out h; cases h))
                clear HNO HHk
                go_wp2
                (refine ⟨?_, ?measure⟩
                 (repeat apply Exists.intro)
                 refine ⟨?rel, rfl⟩)
                case rel => exact ⟨k + 1, by go_num, by omega, HE, hb3⟩
                case measure => simp [intOf]; omega
              | true =>
                by_cases hv : Valid (v1 + z) v2 v3
                · obtain ⟨y, m, d, ey, em, ed⟩ := valid_nat3 hv
                  have hdt : IsDate (num (v1 + z) v2 v3) (v1 + z) v2 v3 := ⟨hv, rfl⟩
                  have hrg := hv.range
                  have HD := Lib.hid (rday_is (v1 + z) v2 v3 hv)
                  obtain ⟨day, eday⟩ : ∃ t, num (v1 + z) v2 v3 = t := ⟨_, rfl⟩
                  rw [eday] at hdt hrg HD
                  have hdt' : IsDate day y m d := by rw [← ey, ← em, ← ed]; exact hdt
                  have HI := Lib.hid (isForm_iff (s := s) hdt')
                  have HS := Lib.hid (ris_at s day y m d hdt' (by omega))
                  have HE0 := Lib.hid (fun (hn : ¬ IsForm s day) => HNO.out (fun h => by
                    obtain ⟨day', g1, _, g2⟩ := HHk.out h
                    have : day' = day := by rw [g2.2, hdt.2]
                    rw [this] at g1; exact hn g1))
                  clear hv hdt hdt' HNO HHk ey em ed eday
                  cases hB : isB s (yearForms day y m d) with
                  | true =>
                    rw [hB] at HI HS
                    have HG := Lib.hid (HI.out.2 rfl)
                    clear HI HE0 hB
                    go_wp2_with (first
                      | (go_at_call 18; (with_reducible refine (HD.out _).mono ?_); rintro e w4 ⟨rfl, hw4⟩; obtain rfl := hw4.symm)
                      | (go_at_call 19; (with_reducible refine (HS.out _ (HLS.out _ hb3).f).mono ?_); rintro e w5 ⟨rfl, hb5⟩; have hb6 := hb3.trans (hb5.mono hb3.size); clear hb5))
                    go_ret2
                    exact ⟨.inl ⟨day, HG.out, rfl⟩, hV.trans (hb6.mono hV.size)⟩
                  | false =>
                    rw [hB] at HI HS
                    have HE := Lib.hid (HE0.out (fun h => by have := HI.out.1 h; cases this))
                    clear HI HE0 hB
                    go_wp2_with (first
                      | (go_at_call 18; (with_reducible refine (HD.out _).mono ?_); rintro e w4 ⟨rfl, hw4⟩; obtain rfl := hw4.symm)
                      | (go_at_call 19; (with_reducible refine (HS.out _ (HLS.out _ hb3).f).mono ?_); rintro e w5 ⟨rfl, hb5⟩; have hb6 := hb3.trans (hb5.mono hb3.size); clear hb5))
                    (refine ⟨?_, ?measure⟩
                     (repeat apply Exists.intro)
                     refine ⟨?rel, rfl⟩)
                    case rel => exact ⟨k + 1, by go_num, by omega, HE, hb6⟩
                    case measure => simp [intOf]; omega
                · have HD := Lib.hid (rday_not (v1 + z) v2 v3 hv)
                  have HE := Lib.hid (HNO.out (fun h => by obtain ⟨_, _, _, h⟩ := HHk.out h; exact hv h.1))
                  clear hv HNO HHk
                  go_wp2_with (go_at_call 18; (with_reducible refine (HD.out _).mono ?_); rintro e w4 ⟨rfl, hw4⟩; obtain rfl := hw4.symm)
                  (refine ⟨?_, ?measure⟩
                   (repeat apply Exists.intro)
                   refine ⟨?rel, rfl⟩)
                  case rel => exact ⟨k + 1, by go_num, by omega, HE, hb3⟩
                  case measure => simp [intOf]; omega
            · obtain rfl : k = 3 := by omega
              have HEnd : Hid (∀ day, ¬ IsForm s day) := Lib.hid (fun day h => by
                obtain ⟨k, hk3, hh⟩ := HF.out day h
                exact hno.out k hk3 hh)
              clear hno HF HT HO HA
              go_wp2
              go_ret2
              exact ⟨.inr ⟨HEnd.out, rfl⟩, hV.trans (hb.mono hV.size)⟩
    | false =>
      have hX := trim_else h3 (by rw [el]; exact hq0)
      have HHit := Lib.hid (fun R z hR day h => HX.out T0 R z hX hR day h)
      have hXs : T0.size ≤ 1048576 := by have := HXs.out; rw [← hX] at this; omega
      clear HX hX HXs el
      go_enter Tryz.func7, Tryz.ntmps7
      go_wp2_with (go_at_call 16; (with_reducible refine (HC.out _).mono ?_); rintro e w1 ⟨rfl, hb1⟩)
      change Code.wp _ _ _ _ (rW2 w1)
      have hb2 := hb1.trans ((rW2_below w1).mono hb1.size)
      have HN := Lib.hid (rW2_n w1)
      have HY := Lib.hid (rW2_y w1)
      have hsz := rW2_size w1
      obtain ⟨W, hW⟩ : ∃ W, rW2 w1 = W := ⟨_, rfl⟩
      rw [hW] at HN HY hsz hb2 ⊢
      clear hW HC hb1 hs1 hs2 hq0
      go_loopw [4, 7, 10] (fun tv zv iv wr => ∃ (R : ByteArray) (z : Int) (k : Nat), tv = .string R ∧ zv = .int .i64 z ∧ iv = .int .i64 k ∧ k ≤ 5 ∧ Hid (cutN k (bs T0) = (bs R, z)) ∧ R.size ≤ 1048576 ∧ 0 ≤ z ∧ z ≤ 3000 ∧ Below W.heap.size W wr) (fun _ _ iv _ => 6 - (intOf iv).toNat)
      case atStart => exact ⟨T0, 0, 0, rfl, rfl, rfl, by omega, Lib.hid rfl, hXs, by omega, by omega, Below.refl _ _⟩
      case round =>
        obtain ⟨R, z, k, rfl, rfl, rfl, hk, hcut, hR, hz0, hz1, hb⟩ := hrel
        by_cases hlt : k < 5
        · have cN := (hb.cell (p := ⟨w1.heap.size, k, none⟩) (show w1.heap.size < W.heap.size by omega)).trans (HN.out k hlt)
          have cY := (hb.cell (p := ⟨w1.heap.size + 1, k, none⟩) (show w1.heap.size + 1 < W.heap.size by omega)).trans (HY.out k hlt)
          have k0 : (0 : Int) ≤ k := by omega
          have k1 : (k : Int) < 5 := by omega
          have k2 : k < 5 := hlt
          have yb := eY_bounds k hlt
          have hstep := era_step R z k hlt
          have HCB := Lib.hid (fun (r : List UInt8 × Int) (h : cutB k (bs R, z) = r) => show cutN (k + 1) (bs T0) = r by
            show cutB k (cutN k (bs T0)) = r
            rw [hcut.out, h])
          obtain ⟨N, eN0⟩ : ∃ N, tx (eN k) = N := ⟨_, rfl⟩
          obtain ⟨y, eY0⟩ : ∃ y, eY k = y := ⟨_, rfl⟩
          rw [eN0] at cN hstep
          rw [eY0] at cY hstep yb
          clear eN0 eY0 hcut HN HY HLW HHit
          rcases hstep with ⟨h6, hc⟩ | ⟨h6, hq, hc⟩ | ⟨h6, hq, hc⟩
          · have HN1 := Lib.hid (HCB.out _ hc)
            have n6 : decide ((6 : Int) ≤ (R.size : Int)) = false := decide_eq_false (by omega)
            clear hc HCB
            go_wp2
            go_quiet (fail)
            go_wp2
            go_roundw
            case rel => exact ⟨R, z, k + 1, rfl, rfl, by go_num, by omega, HN1, hR, hz0, hz1, by first | exact below_drews hb _ | exact below_drewN hb (by omega)⟩
            case measure => simp [intOf]; omega
          · have HN1 := Lib.hid (HCB.out _ hc)
            have n6 : (6 : Int) ≤ R.size := by omega
            clear hc HCB
            go_wp2
            go_quiet (fail)
            go_wp2
            go_roundw
            case rel => exact ⟨R, z, k + 1, rfl, rfl, by go_num, by omega, HN1, hR, hz0, hz1, below_drews hb _⟩
            case measure => simp [intOf]; omega
          · have HN1 := Lib.hid (HCB.out _ hc)
            have n6 : (6 : Int) ≤ R.size := by omega
            have hr6 : (R.extract 6 R.size).size ≤ 1048576 := by rw [ByteArray.size_extract]; omega
            have hs6 := fun (W : World) => run_slice_string_from_if (P := Tryz.prog) W 9 R .i64 6 Tryz.underlying9
            clear hc HCB
            go_wp2
            go_quiet (fail)
            go_wp2
            go_roundw
            case rel => exact ⟨R.extract 6 R.size, y - 1, k + 1, rfl, rfl, by go_num, by omega, HN1, hr6, by omega, by omega, by first | exact below_drews hb _ | exact below_drews (below_drews hb _) _⟩
            case measure => simp [intOf]; omega
        · obtain rfl : k = 5 := by omega
          have HF := Lib.hid (fun day h => HHit.out R z hcut.out day h)
          have HT := Lib.hid (fun k (hk : k < 3) => three_at R (tx [sA k]) (tx [sB k]) hR (sep_size k hk).1 (sep_size k hk).2)
          have hwr := hb2.trans (hb.mono hb2.size)
          clear hcut hR HHit HN HY hXs hb hb2 hsz
          go_wp2
          change Code.wp _ _ _ _ (rQ wr)
          have hV := hwr.trans ((rQ_below wr).mono hwr.size)
          have HO := Lib.hid (rQ_o wr)
          have HA := Lib.hid (rQ_a wr)
          have hsz := rQ_size wr
          obtain ⟨V, eV⟩ : ∃ V, rQ wr = V := ⟨_, rfl⟩
          rw [eV] at HO HA hsz hV ⊢
          obtain ⟨n, en⟩ : ∃ n, wr.heap.size = n := ⟨_, rfl⟩
          rw [en] at HO HA hsz ⊢
          clear eV en hwr
          go_loopw [12] (fun iv wq => ∃ k : Nat, iv = .int .i64 k ∧ k ≤ 3 ∧ Hid (∀ j, j < k → ¬ Hit s R z j) ∧ Below V.heap.size V wq) (fun iv _ => 4 - (intOf iv).toNat)
          case atStart => exact ⟨0, rfl, by omega, Lib.hid (fun j hj => by omega), Below.refl _ _⟩
          case round =>
            obtain ⟨k, rfl, hk, hno, hb⟩ := hrel
            by_cases hlt : k < 3
            · have cO := (hb.cell (p := ⟨n + 1 + 1 + 1, k, none⟩) (show n + 1 + 1 + 1 < V.heap.size by omega)).trans (HO.out k hlt)
              have cA := (hb.cell (p := ⟨n + k, 0, none⟩) (show n + k < V.heap.size by omega)).trans (HA.out k hlt).1
              have cB := (hb.cell (p := ⟨n + k, 1, none⟩) (show n + k < V.heap.size by omega)).trans (HA.out k hlt).2
              have k0 : (0 : Int) ≤ k := by omega
              have k1 : (k : Int) < 3 := by omega
              have k2 : k < 3 := hlt
              have H3 := Lib.hid (HT.out k hlt)
              have HHk : Hid (Hit s R z k → ∃ day, IsForm s day ∧ tk R (tx [sA k]) (tx [sB k]) = true ∧ IsDate day (t1 R (tx [sA k]) (tx [sB k]) + z) (t2 R (tx [sA k]) (tx [sB k])) (t3 R (tx [sA k]) (tx [sB k]))) := Lib.hid (fun h => h)
              have HNO := Lib.hid (fun (h : ¬ Hit s R z k) (j : Nat) (hj : j < k + 1) => show ¬ Hit s R z j by
                by_cases e : j = k
                · rw [e]; exact h
                · exact hno.out j (by omega))
              obtain ⟨a, ea⟩ : ∃ a, tx [sA k] = a := ⟨_, rfl⟩
              obtain ⟨b, eb⟩ : ∃ b, tx [sB k] = b := ⟨_, rfl⟩
              rw [ea, eb] at H3 HHk
              rw [ea] at cA
              rw [eb] at cB
              have b1 : 0 ≤ t1 R a b ∧ t1 R a b ≤ 99999 := vl_le _
              have b2 : 0 ≤ t2 R a b ∧ t2 R a b ≤ 99999 := vl_le _
              have b3 : 0 ≤ t3 R a b ∧ t3 R a b ≤ 99999 := vl_le _
              obtain ⟨v1, f1⟩ : ∃ v, t1 R a b = v := ⟨_, rfl⟩
              obtain ⟨v2, f2⟩ : ∃ v, t2 R a b = v := ⟨_, rfl⟩
              obtain ⟨v3, f3⟩ : ∃ v, t3 R a b = v := ⟨_, rfl⟩
              obtain ⟨q, fq⟩ : ∃ v, tk R a b = v := ⟨_, rfl⟩
              rw [f1, f2, f3, fq] at H3 HHk
              rw [f1] at b1
              rw [f2] at b2
              rw [f3] at b3
              have HST := Lib.hid (show ∀ W W', (W.cell? ⟨n + 1 + 1 + 1, k, none⟩ = some (.slice (some ⟨n + k, 0, none⟩) 2 2) ∧ W.cell? ⟨n + k, 0, none⟩ = some (.string a) ∧ W.cell? ⟨n + k, 1, none⟩ = some (.string b) ∧ Below V.heap.size V W) → Below W.heap.size W W' → (W'.cell? ⟨n + 1 + 1 + 1, k, none⟩ = some (.slice (some ⟨n + k, 0, none⟩) 2 2) ∧ W'.cell? ⟨n + k, 0, none⟩ = some (.string a) ∧ W'.cell? ⟨n + k, 1, none⟩ = some (.string b) ∧ Below V.heap.size V W') from fun W W' h hb => by
                have h2 := h.2.2.2.size
                refine ⟨(hb.cell (p := ⟨n + 1 + 1 + 1, k, none⟩) (show n + 1 + 1 + 1 < W.heap.size by omega)).trans h.1, (hb.cell (p := ⟨n + k, 0, none⟩) (show n + k < W.heap.size by omega)).trans h.2.1, (hb.cell (p := ⟨n + k, 1, none⟩) (show n + k < W.heap.size by omega)).trans h.2.2.1, h.2.2.2.trans (hb.mono h2)⟩)
              have HLS := Lib.hid (show ∀ W, Below V.heap.size V W → GLaid W from fun W h => HLW.out W (hV.trans (h.mono hV.size)))
              have hS0 := show (fun W : World => W.cell? ⟨n + 1 + 1 + 1, k, none⟩ = some (.slice (some ⟨n + k, 0, none⟩) 2 2) ∧ W.cell? ⟨n + k, 0, none⟩ = some (.string a) ∧ W.cell? ⟨n + k, 1, none⟩ = some (.string b) ∧ Below V.heap.size V W) wr.drew from ⟨cO, cA, cB, hb.drew⟩
              simp only [] at hS0
              clear ea eb f1 f2 f3 HO HA HT cO cA cB hb
              go_wp2
              go_region_held3 (fun W => W.cell? ⟨n + 1 + 1 + 1, k, none⟩ = some (.slice (some ⟨n + k, 0, none⟩) 2 2) ∧ W.cell? ⟨n + k, 0, none⟩ = some (.string a) ∧ W.cell? ⟨n + k, 1, none⟩ = some (.string b) ∧ Below V.heap.size V W) (first | assumption | exact hS0)
                (first
                | (go_at_call 17; (with_reducible refine (H3.out _ ?_).mono ?_); exact (HLS.out _ (by exact (‹_ ∧ _ ∧ _ ∧ Below V.heap.size V _›).2.2.2)).f.num; rintro e w3 ⟨rfl, hbA⟩
                   have hS3 := HST.out _ _ (by assumption) hbA
                   clear hbA))
              have hb3 := hS3.2.2.2
              clear hS3 hS0
              cases q with
              | false =>
                have HE := Lib.hid (HNO.out (fun h => by obtain ⟨_, _, h, _⟩ := HHk.out h; cases h))
                clear HNO HHk
                go_wp2
                (refine ⟨?_, ?measure⟩
                 (repeat apply Exists.intro)
                 refine ⟨?rel, rfl⟩)
                case rel => exact ⟨k + 1, by go_num, by omega, HE, hb3⟩
                case measure => simp [intOf]; omega
              | true =>
                by_cases hv : Valid (v1 + z) v2 v3
                · obtain ⟨y, m, d, ey, em, ed⟩ := valid_nat3 hv
                  have hdt : IsDate (num (v1 + z) v2 v3) (v1 + z) v2 v3 := ⟨hv, rfl⟩
                  have hrg := hv.range
                  have HD := Lib.hid (rday_is (v1 + z) v2 v3 hv)
                  obtain ⟨day, eday⟩ : ∃ t, num (v1 + z) v2 v3 = t := ⟨_, rfl⟩
                  rw [eday] at hdt hrg HD
                  have hdt' : IsDate day y m d := by rw [← ey, ← em, ← ed]; exact hdt
                  have HI := Lib.hid (isForm_iff (s := s) hdt')
                  have HS := Lib.hid (ris_at s day y m d hdt' (by omega))
                  have HE0 := Lib.hid (fun (hn : ¬ IsForm s day) => HNO.out (fun h => by
                    obtain ⟨day', g1, _, g2⟩ := HHk.out h
                    have : day' = day := by rw [g2.2, hdt.2]
                    rw [this] at g1; exact hn g1))
                  clear hv hdt hdt' HNO HHk ey em ed eday
                  cases hB : isB s (yearForms day y m d) with
                  | true =>
                    rw [hB] at HI HS
                    have HG := Lib.hid (HI.out.2 rfl)
                    clear HI HE0 hB
                    go_wp2_with (first
                      | (go_at_call 18; (with_reducible refine (HD.out _).mono ?_); rintro e w4 ⟨rfl, hw4⟩; obtain rfl := hw4.symm)
                      | (go_at_call 19; (with_reducible refine (HS.out _ (HLS.out _ hb3).f).mono ?_); rintro e w5 ⟨rfl, hb5⟩; have hb6 := hb3.trans (hb5.mono hb3.size); clear hb5))
                    go_ret2
                    exact ⟨.inl ⟨day, HG.out, rfl⟩, hV.trans (hb6.mono hV.size)⟩
                  | false =>
                    rw [hB] at HI HS
                    have HE := Lib.hid (HE0.out (fun h => by have := HI.out.1 h; cases this))
                    clear HI HE0 hB
                    go_wp2_with (first
                      | (go_at_call 18; (with_reducible refine (HD.out _).mono ?_); rintro e w4 ⟨rfl, hw4⟩; obtain rfl := hw4.symm)
                      | (go_at_call 19; (with_reducible refine (HS.out _ (HLS.out _ hb3).f).mono ?_); rintro e w5 ⟨rfl, hb5⟩; have hb6 := hb3.trans (hb5.mono hb3.size); clear hb5))
                    (refine ⟨?_, ?measure⟩
                     (repeat apply Exists.intro)
                     refine ⟨?rel, rfl⟩)
                    case rel => exact ⟨k + 1, by go_num, by omega, HE, hb6⟩
                    case measure => simp [intOf]; omega
                · have HD := Lib.hid (rday_not (v1 + z) v2 v3 hv)
                  have HE := Lib.hid (HNO.out (fun h => by obtain ⟨_, _, _, h⟩ := HHk.out h; exact hv h.1))
                  clear hv HNO HHk
                  go_wp2_with (go_at_call 18; (with_reducible refine (HD.out _).mono ?_); rintro e w4 ⟨rfl, hw4⟩; obtain rfl := hw4.symm)
                  (refine ⟨?_, ?measure⟩
                   (repeat apply Exists.intro)
                   refine ⟨?rel, rfl⟩)
                  case rel => exact ⟨k + 1, by go_num, by omega, HE, hb3⟩
                  case measure => simp [intOf]; omega
            · obtain rfl : k = 3 := by omega
              have HEnd : Hid (∀ day, ¬ IsForm s day) := Lib.hid (fun day h => by
                obtain ⟨k, hk3, hh⟩ := HF.out day h
                exact hno.out k hk3 hh)
              clear hno HF HT HO HA
              go_wp2
              go_ret2
              exact ⟨.inr ⟨HEnd.out, rfl⟩, hV.trans (hb.mono hV.size)⟩
  · have g3 : ¬ (3 : Int) ≤ T0.size := by omega
    have hX := trim_short h3
    have HHit := Lib.hid (fun R z hR day h => HX.out T0 R z hX hR day h)
    have hXs : T0.size ≤ 1048576 := by have := HXs.out; rw [← hX] at this; omega
    clear HX hX HXs h3
    go_enter Tryz.func7, Tryz.ntmps7
    go_wp2_with (go_at_call 16; (with_reducible refine (HC.out _).mono ?_); rintro e w1 ⟨rfl, hb1⟩)
    change Code.wp _ _ _ _ (rW2 w1)
    have hb2 := hb1.trans ((rW2_below w1).mono hb1.size)
    have HN := Lib.hid (rW2_n w1)
    have HY := Lib.hid (rW2_y w1)
    have hsz := rW2_size w1
    obtain ⟨W, hW⟩ : ∃ W, rW2 w1 = W := ⟨_, rfl⟩
    rw [hW] at HN HY hsz hb2 ⊢
    clear hW HC hb1 
    go_loopw [4, 7, 10] (fun tv zv iv wr => ∃ (R : ByteArray) (z : Int) (k : Nat), tv = .string R ∧ zv = .int .i64 z ∧ iv = .int .i64 k ∧ k ≤ 5 ∧ Hid (cutN k (bs T0) = (bs R, z)) ∧ R.size ≤ 1048576 ∧ 0 ≤ z ∧ z ≤ 3000 ∧ Below W.heap.size W wr) (fun _ _ iv _ => 6 - (intOf iv).toNat)
    case atStart => exact ⟨T0, 0, 0, rfl, rfl, rfl, by omega, Lib.hid rfl, hXs, by omega, by omega, Below.refl _ _⟩
    case round =>
      obtain ⟨R, z, k, rfl, rfl, rfl, hk, hcut, hR, hz0, hz1, hb⟩ := hrel
      by_cases hlt : k < 5
      · have cN := (hb.cell (p := ⟨w1.heap.size, k, none⟩) (show w1.heap.size < W.heap.size by omega)).trans (HN.out k hlt)
        have cY := (hb.cell (p := ⟨w1.heap.size + 1, k, none⟩) (show w1.heap.size + 1 < W.heap.size by omega)).trans (HY.out k hlt)
        have k0 : (0 : Int) ≤ k := by omega
        have k1 : (k : Int) < 5 := by omega
        have k2 : k < 5 := hlt
        have yb := eY_bounds k hlt
        have hstep := era_step R z k hlt
        have HCB := Lib.hid (fun (r : List UInt8 × Int) (h : cutB k (bs R, z) = r) => show cutN (k + 1) (bs T0) = r by
          show cutB k (cutN k (bs T0)) = r
          rw [hcut.out, h])
        obtain ⟨N, eN0⟩ : ∃ N, tx (eN k) = N := ⟨_, rfl⟩
        obtain ⟨y, eY0⟩ : ∃ y, eY k = y := ⟨_, rfl⟩
        rw [eN0] at cN hstep
        rw [eY0] at cY hstep yb
        clear eN0 eY0 hcut HN HY HLW HHit
        rcases hstep with ⟨h6, hc⟩ | ⟨h6, hq, hc⟩ | ⟨h6, hq, hc⟩
        · have HN1 := Lib.hid (HCB.out _ hc)
          have n6 : decide ((6 : Int) ≤ (R.size : Int)) = false := decide_eq_false (by omega)
          clear hc HCB
          go_wp2
          go_quiet (fail)
          go_wp2
          go_roundw
          case rel => exact ⟨R, z, k + 1, rfl, rfl, by go_num, by omega, HN1, hR, hz0, hz1, by first | exact below_drews hb _ | exact below_drewN hb (by omega)⟩
          case measure => simp [intOf]; omega
        · have HN1 := Lib.hid (HCB.out _ hc)
          have n6 : (6 : Int) ≤ R.size := by omega
          clear hc HCB
          go_wp2
          go_quiet (fail)
          go_wp2
          go_roundw
          case rel => exact ⟨R, z, k + 1, rfl, rfl, by go_num, by omega, HN1, hR, hz0, hz1, below_drews hb _⟩
          case measure => simp [intOf]; omega
        · have HN1 := Lib.hid (HCB.out _ hc)
          have n6 : (6 : Int) ≤ R.size := by omega
          have hr6 : (R.extract 6 R.size).size ≤ 1048576 := by rw [ByteArray.size_extract]; omega
          have hs6 := fun (W : World) => run_slice_string_from_if (P := Tryz.prog) W 9 R .i64 6 Tryz.underlying9
          clear hc HCB
          go_wp2
          go_quiet (fail)
          go_wp2
          go_roundw
          case rel => exact ⟨R.extract 6 R.size, y - 1, k + 1, rfl, rfl, by go_num, by omega, HN1, hr6, by omega, by omega, by first | exact below_drews hb _ | exact below_drews (below_drews hb _) _⟩
          case measure => simp [intOf]; omega
      · obtain rfl : k = 5 := by omega
        have HF := Lib.hid (fun day h => HHit.out R z hcut.out day h)
        have HT := Lib.hid (fun k (hk : k < 3) => three_at R (tx [sA k]) (tx [sB k]) hR (sep_size k hk).1 (sep_size k hk).2)
        have hwr := hb2.trans (hb.mono hb2.size)
        clear hcut hR HHit HN HY hXs hb hb2 hsz
        go_wp2
        change Code.wp _ _ _ _ (rQ wr)
        have hV := hwr.trans ((rQ_below wr).mono hwr.size)
        have HO := Lib.hid (rQ_o wr)
        have HA := Lib.hid (rQ_a wr)
        have hsz := rQ_size wr
        obtain ⟨V, eV⟩ : ∃ V, rQ wr = V := ⟨_, rfl⟩
        rw [eV] at HO HA hsz hV ⊢
        obtain ⟨n, en⟩ : ∃ n, wr.heap.size = n := ⟨_, rfl⟩
        rw [en] at HO HA hsz ⊢
        clear eV en hwr
        go_loopw [12] (fun iv wq => ∃ k : Nat, iv = .int .i64 k ∧ k ≤ 3 ∧ Hid (∀ j, j < k → ¬ Hit s R z j) ∧ Below V.heap.size V wq) (fun iv _ => 4 - (intOf iv).toNat)
        case atStart => exact ⟨0, rfl, by omega, Lib.hid (fun j hj => by omega), Below.refl _ _⟩
        case round =>
          obtain ⟨k, rfl, hk, hno, hb⟩ := hrel
          by_cases hlt : k < 3
          · have cO := (hb.cell (p := ⟨n + 1 + 1 + 1, k, none⟩) (show n + 1 + 1 + 1 < V.heap.size by omega)).trans (HO.out k hlt)
            have cA := (hb.cell (p := ⟨n + k, 0, none⟩) (show n + k < V.heap.size by omega)).trans (HA.out k hlt).1
            have cB := (hb.cell (p := ⟨n + k, 1, none⟩) (show n + k < V.heap.size by omega)).trans (HA.out k hlt).2
            have k0 : (0 : Int) ≤ k := by omega
            have k1 : (k : Int) < 3 := by omega
            have k2 : k < 3 := hlt
            have H3 := Lib.hid (HT.out k hlt)
            have HHk : Hid (Hit s R z k → ∃ day, IsForm s day ∧ tk R (tx [sA k]) (tx [sB k]) = true ∧ IsDate day (t1 R (tx [sA k]) (tx [sB k]) + z) (t2 R (tx [sA k]) (tx [sB k])) (t3 R (tx [sA k]) (tx [sB k]))) := Lib.hid (fun h => h)
            have HNO := Lib.hid (fun (h : ¬ Hit s R z k) (j : Nat) (hj : j < k + 1) => show ¬ Hit s R z j by
              by_cases e : j = k
              · rw [e]; exact h
              · exact hno.out j (by omega))
            obtain ⟨a, ea⟩ : ∃ a, tx [sA k] = a := ⟨_, rfl⟩
            obtain ⟨b, eb⟩ : ∃ b, tx [sB k] = b := ⟨_, rfl⟩
            rw [ea, eb] at H3 HHk
            rw [ea] at cA
            rw [eb] at cB
            have b1 : 0 ≤ t1 R a b ∧ t1 R a b ≤ 99999 := vl_le _
            have b2 : 0 ≤ t2 R a b ∧ t2 R a b ≤ 99999 := vl_le _
            have b3 : 0 ≤ t3 R a b ∧ t3 R a b ≤ 99999 := vl_le _
            obtain ⟨v1, f1⟩ : ∃ v, t1 R a b = v := ⟨_, rfl⟩
            obtain ⟨v2, f2⟩ : ∃ v, t2 R a b = v := ⟨_, rfl⟩
            obtain ⟨v3, f3⟩ : ∃ v, t3 R a b = v := ⟨_, rfl⟩
            obtain ⟨q, fq⟩ : ∃ v, tk R a b = v := ⟨_, rfl⟩
            rw [f1, f2, f3, fq] at H3 HHk
            rw [f1] at b1
            rw [f2] at b2
            rw [f3] at b3
            have HST := Lib.hid (show ∀ W W', (W.cell? ⟨n + 1 + 1 + 1, k, none⟩ = some (.slice (some ⟨n + k, 0, none⟩) 2 2) ∧ W.cell? ⟨n + k, 0, none⟩ = some (.string a) ∧ W.cell? ⟨n + k, 1, none⟩ = some (.string b) ∧ Below V.heap.size V W) → Below W.heap.size W W' → (W'.cell? ⟨n + 1 + 1 + 1, k, none⟩ = some (.slice (some ⟨n + k, 0, none⟩) 2 2) ∧ W'.cell? ⟨n + k, 0, none⟩ = some (.string a) ∧ W'.cell? ⟨n + k, 1, none⟩ = some (.string b) ∧ Below V.heap.size V W') from fun W W' h hb => by
              have h2 := h.2.2.2.size
              refine ⟨(hb.cell (p := ⟨n + 1 + 1 + 1, k, none⟩) (show n + 1 + 1 + 1 < W.heap.size by omega)).trans h.1, (hb.cell (p := ⟨n + k, 0, none⟩) (show n + k < W.heap.size by omega)).trans h.2.1, (hb.cell (p := ⟨n + k, 1, none⟩) (show n + k < W.heap.size by omega)).trans h.2.2.1, h.2.2.2.trans (hb.mono h2)⟩)
            have HLS := Lib.hid (show ∀ W, Below V.heap.size V W → GLaid W from fun W h => HLW.out W (hV.trans (h.mono hV.size)))
            have hS0 := show (fun W : World => W.cell? ⟨n + 1 + 1 + 1, k, none⟩ = some (.slice (some ⟨n + k, 0, none⟩) 2 2) ∧ W.cell? ⟨n + k, 0, none⟩ = some (.string a) ∧ W.cell? ⟨n + k, 1, none⟩ = some (.string b) ∧ Below V.heap.size V W) wr.drew from ⟨cO, cA, cB, hb.drew⟩
            simp only [] at hS0
            clear ea eb f1 f2 f3 HO HA HT cO cA cB hb
            go_wp2
            go_region_held3 (fun W => W.cell? ⟨n + 1 + 1 + 1, k, none⟩ = some (.slice (some ⟨n + k, 0, none⟩) 2 2) ∧ W.cell? ⟨n + k, 0, none⟩ = some (.string a) ∧ W.cell? ⟨n + k, 1, none⟩ = some (.string b) ∧ Below V.heap.size V W) (first | assumption | exact hS0)
              (first
              | (go_at_call 17; (with_reducible refine (H3.out _ ?_).mono ?_); exact (HLS.out _ (by exact (‹_ ∧ _ ∧ _ ∧ Below V.heap.size V _›).2.2.2)).f.num; rintro e w3 ⟨rfl, hbA⟩
                 have hS3 := HST.out _ _ (by assumption) hbA
                 clear hbA))
            have hb3 := hS3.2.2.2
            clear hS3 hS0
            cases q with
            | false =>
              have HE := Lib.hid (HNO.out (fun h => by obtain ⟨_, _, h, _⟩ := HHk.out h; cases h))
              clear HNO HHk
              go_wp2
              (refine ⟨?_, ?measure⟩
               (repeat apply Exists.intro)
               refine ⟨?rel, rfl⟩)
              case rel => exact ⟨k + 1, by go_num, by omega, HE, hb3⟩
              case measure => simp [intOf]; omega
            | true =>
              by_cases hv : Valid (v1 + z) v2 v3
              · obtain ⟨y, m, d, ey, em, ed⟩ := valid_nat3 hv
                have hdt : IsDate (num (v1 + z) v2 v3) (v1 + z) v2 v3 := ⟨hv, rfl⟩
                have hrg := hv.range
                have HD := Lib.hid (rday_is (v1 + z) v2 v3 hv)
                obtain ⟨day, eday⟩ : ∃ t, num (v1 + z) v2 v3 = t := ⟨_, rfl⟩
                rw [eday] at hdt hrg HD
                have hdt' : IsDate day y m d := by rw [← ey, ← em, ← ed]; exact hdt
                have HI := Lib.hid (isForm_iff (s := s) hdt')
                have HS := Lib.hid (ris_at s day y m d hdt' (by omega))
                have HE0 := Lib.hid (fun (hn : ¬ IsForm s day) => HNO.out (fun h => by
                  obtain ⟨day', g1, _, g2⟩ := HHk.out h
                  have : day' = day := by rw [g2.2, hdt.2]
                  rw [this] at g1; exact hn g1))
                clear hv hdt hdt' HNO HHk ey em ed eday
                cases hB : isB s (yearForms day y m d) with
                | true =>
                  rw [hB] at HI HS
                  have HG := Lib.hid (HI.out.2 rfl)
                  clear HI HE0 hB
                  go_wp2_with (first
                    | (go_at_call 18; (with_reducible refine (HD.out _).mono ?_); rintro e w4 ⟨rfl, hw4⟩; obtain rfl := hw4.symm)
                    | (go_at_call 19; (with_reducible refine (HS.out _ (HLS.out _ hb3).f).mono ?_); rintro e w5 ⟨rfl, hb5⟩; have hb6 := hb3.trans (hb5.mono hb3.size); clear hb5))
                  go_ret2
                  exact ⟨.inl ⟨day, HG.out, rfl⟩, hV.trans (hb6.mono hV.size)⟩
                | false =>
                  rw [hB] at HI HS
                  have HE := Lib.hid (HE0.out (fun h => by have := HI.out.1 h; cases this))
                  clear HI HE0 hB
                  go_wp2_with (first
                    | (go_at_call 18; (with_reducible refine (HD.out _).mono ?_); rintro e w4 ⟨rfl, hw4⟩; obtain rfl := hw4.symm)
                    | (go_at_call 19; (with_reducible refine (HS.out _ (HLS.out _ hb3).f).mono ?_); rintro e w5 ⟨rfl, hb5⟩; have hb6 := hb3.trans (hb5.mono hb3.size); clear hb5))
                  (refine ⟨?_, ?measure⟩
                   (repeat apply Exists.intro)
                   refine ⟨?rel, rfl⟩)
                  case rel => exact ⟨k + 1, by go_num, by omega, HE, hb6⟩
                  case measure => simp [intOf]; omega
              · have HD := Lib.hid (rday_not (v1 + z) v2 v3 hv)
                have HE := Lib.hid (HNO.out (fun h => by obtain ⟨_, _, _, h⟩ := HHk.out h; exact hv h.1))
                clear hv HNO HHk
                go_wp2_with (go_at_call 18; (with_reducible refine (HD.out _).mono ?_); rintro e w4 ⟨rfl, hw4⟩; obtain rfl := hw4.symm)
                (refine ⟨?_, ?measure⟩
                 (repeat apply Exists.intro)
                 refine ⟨?rel, rfl⟩)
                case rel => exact ⟨k + 1, by go_num, by omega, HE, hb3⟩
                case measure => simp [intOf]; omega
          · obtain rfl : k = 3 := by omega
            have HEnd : Hid (∀ day, ¬ IsForm s day) := Lib.hid (fun day h => by
              obtain ⟨k, hk3, hh⟩ := HF.out day h
              exact hno.out k hk3 hh)
            clear hno HF HT HO HA
            go_wp2
            go_ret2
            exact ⟨.inr ⟨HEnd.out, rfl⟩, hV.trans (hb.mono hV.size)⟩

end Go.Proofs.YteelmjmiankflaaGreatDoor.Cal
