/-
  Joined: LoR, LoS, LoT, LoU, LoV, LoW, LoX, LoY, LoFr.
-/
import Derived.Test.YtffljcfpofhkgaaM1
import Derived.Deep.RegionLaw
import Derived.BigQuiet
import Derived.Laws.CopyOwn
import Derived.Test.YtffljcfpofhkgaaBvFr
import Derived.Deep.Strs
import Derived.SizedLaws
set_option linter.unusedVariables false
set_option linter.unusedSimpArgs false
set_option maxRecDepth 100000
namespace Go.Proofs.Ytffljcfpofhkgaa.Lo
open Go Go.RowKit Go.Proofs.Ytffljcfpofhkgaa.Kit Go.Proofs.Ytffljcfpofhkgaa.Bv Go.Proofs.Ytffljcfpofhkgaa.Pk

set_option maxHeartbeats 4000000 in
theorem rcount_any (L : List Str) (a : Option Addr) (cap : Nat) (w : World) (hR : Reads w (.slice a L.length cap) (strs L)) (hm : L.length ≤ 20000) (hok : OkTo L L.length) :
    Calls Try.prog 40 #[.slice a L.length cap] w fun e w' => e = .returned (.int .i64 (cntN L L.length : Nat)) ∧ Below w.heap.size w w' := by
  have hlen := hR.len.2
  unfold maxLen at hlen
  have HR := Lib.hid (fun V (hV : Below w.heap.size w V) i (hi : i < L.length) => show ∃ b off, a = some ⟨b, off, none⟩ ∧ V.cell? ⟨b, off + i, none⟩ = some (.string (ba (sg L i))) by
    obtain ⟨b, off, e1, hb, hc⟩ := Reads.cell hR (strs_get hi)
    exact ⟨b, off, e1, by rw [hV.cell (p := ⟨b, off + i, none⟩) hb]; exact hc⟩)
  have HOK := Lib.hid hok
  obtain ⟨m, hmm⟩ : ∃ m, L.length = m := ⟨_, rfl⟩
  have HM := Lib.hid hmm
  rw [hmm] at HR hlen hm HOK ⊢
  clear hR hmm hok
  go_enter Try.func40, Try.ntmps40
  go_wp2
  go_loopw [3, 4] (fun x z wr => ∃ i : Nat, i ≤ m ∧ z = .int .i64 (i : Int) ∧ x = .int .i64 (cntN L i : Nat) ∧ Below w.heap.size w wr) (fun _ z _ => m - (intOf z).toNat)
  case atStart => exact ⟨0, Nat.zero_le _, rfl, rfl, Below.refl _ _⟩
  case round =>
    obtain ⟨i, hi, rfl, rfl, hb⟩ := hrel
    have hcn := cntN_le i (fun j hj => HOK.out j (by omega))
    by_cases hlt : i < m
    · obtain ⟨b, off, rfl, hcell⟩ := HR.out _ hb i hlt
      have hls := ba_size (sg L i)
      have hl256 := (HOK.out i hlt).2.1
      have hlc := lc0_le L i
      have HCN := cntN_succ L i
      have him : (i : Int) < (m : Int) := by omega
      have hi0 : (0 : Int) ≤ (i : Int) := by omega
      have hbs := hb.size
      by_cases h0 : 0 < i
      · obtain ⟨b', off', e1, hcell2⟩ := HR.out _ hb (i - 1) (by omega)
        cases e1
        have hl2 := (HOK.out (i - 1) (by omega)).2.1
        have hlc0 : lc0 L i = lcp (sg L (i - 1)) (sg L i) := by unfold lc0 lc; rw [if_neg (by omega)]
        have HCO := fun V => common_any (sg L (i - 1)) (sg L i) V (by unfold ln at hl2; omega) (by unfold ln at hl256; omega)
        rw [← hlc0] at HCO
        obtain ⟨S, hS⟩ : ∃ S, ba (sg L i) = S := ⟨_, rfl⟩
        obtain ⟨P, hP⟩ : ∃ P, ba (sg L (i - 1)) = P := ⟨_, rfl⟩
        simp only [hS, hP] at hcell hls hcell2 HCO
        unfold ln at hl256 hlc HCN
        rw [← hls] at hl256 hlc HCN
        obtain ⟨K, hK⟩ : ∃ K, lc0 L i = K := ⟨_, rfl⟩
        obtain ⟨C, hC⟩ : ∃ C, cntN L i = C := ⟨_, rfl⟩
        simp only [hK] at HCO HCN hlc
        rw [hC] at HCN hcn ⊢
        have HCN := Lib.hid HCN
        have HCO := Lib.hid HCO
        obtain ⟨j, hj⟩ : ∃ j, i - 1 = j := ⟨_, rfl⟩
        rw [hj] at hcell2
        have hji : (i : Int) - 1 = (j : Int) := by omega
        have hj0 : (0 : Int) ≤ (j : Int) := by omega
        have hjm : (j : Int) < (m : Int) := by omega
        have h0z : (0 : Int) < (i : Int) := by omega
        have hwj : IntKind.i64.wrap (j : Int) = (j : Int) := by rw [IntKind.wrap_i64]; omega
        clear hS hP hK hC hls hlc0 hj hl2 h0
        go_wp2
        go_region_law (go_simp; go_at_call 67; (with_reducible refine (HCO.out _).mono ?_); rintro e w1 ⟨rfl, hb1⟩; have hb2 : Below wr.heap.size wr w1 := (by first | exact hb1 | exact (Below.refl _ _).drew.trans hb1))
        all_goals go_wp2
        all_goals
          go_roundw
          case rel => exact ⟨i + 1, by omega, by go_num, by rw [HCN.out]; go_num, by first | exact hb.trans (hb2.mono hbs) | exact (hb.trans (hb2.mono hbs)).drew⟩
          case measure => simp [intOf]; omega
      · have hK : lc0 L i = 0 := by unfold lc0; rw [if_pos (by omega)]
        obtain ⟨S, hS⟩ : ∃ S, ba (sg L i) = S := ⟨_, rfl⟩
        simp only [hS] at hcell hls
        unfold ln at hl256 HCN
        rw [← hls] at hl256 HCN
        obtain ⟨C, hC⟩ : ∃ C, cntN L i = C := ⟨_, rfl⟩
        rw [hK] at HCN
        rw [hC] at HCN hcn ⊢
        have HCN := Lib.hid HCN
        have h0z : ¬ (0 : Int) < (i : Int) := by omega
        clear hS hK hC hls h0
        go_wp2
        go_roundw
        case rel => exact ⟨i + 1, by omega, by go_num, by rw [HCN.out]; go_num, hb⟩
        case measure => simp [intOf]; omega
    · obtain rfl : i = m := by omega
      go_wp2
      go_ret
      exact ⟨rfl, hb⟩
end Go.Proofs.Ytffljcfpofhkgaa.Lo

set_option linter.unusedVariables false
set_option linter.unusedSimpArgs false
set_option maxRecDepth 100000
namespace Go.Proofs.Ytffljcfpofhkgaa.Lo
open Go Go.RowKit Go.Proofs.Ytffljcfpofhkgaa.Kit Go.Proofs.Ytffljcfpofhkgaa.Bv Go.Proofs.Ytffljcfpofhkgaa.Pk

theorem below_drewN {n : Nat} (w : World) (k : Nat) (h : n ≤ w.heap.size) : Below n w (w.drewN k) := ⟨rfl, rfl, rfl, Nat.le_refl _, fun _ _ => rfl⟩
/-- What the reference's Check leaves. -/
def ChkP (L : List Str) (w : World) (e : Ending) (w' : World) : Prop :=
  Below w.heap.size w w' ∧
    ((e = .returned (.int .i64 2) ∧ (20000 < L.length ∨ (L.length ≤ 20000 ∧ Ok L ∧ 524287 < cntN L L.length))) ∨
     (e = .returned (.int .i64 1) ∧ L.length ≤ 20000 ∧ ¬ Ok L) ∨
     (e = .returned (.int .i64 0) ∧ L.length ≤ 20000 ∧ Ok L ∧ cntN L L.length ≤ 524287))

set_option maxHeartbeats 4000000 in
theorem rcheck_any (L : List Str) (a : Option Addr) (cap : Nat) (w : World) (hR : Reads w (.slice a L.length cap) (strs L)) (hsz : ∀ i, i < L.length → ln L i ≤ 281474976710656) :
    Calls Try.prog 17 #[.slice a L.length cap] w (ChkP L w) := by
  have hlen := hR.len.2
  unfold maxLen at hlen
  by_cases h20 : 20000 < L.length
  · have HP : Hid (ChkP L w (.returned (.int .i64 2)) w) := Lib.hid ⟨Below.refl _ _, .inl ⟨rfl, .inl h20⟩⟩
    have hz : (20000 : Int) < (L.length : Int) := by omega
    clear h20 hR
    go_enter Try.func17, Try.ntmps17
    go_wp2
    go_ret
    exact HP.out
  · have HR := Lib.hid (fun V (hV : Below w.heap.size w V) i (hi : i < L.length) => show ∃ b off, a = some ⟨b, off, none⟩ ∧ V.cell? ⟨b, off + i, none⟩ = some (.string (ba (sg L i))) by
      obtain ⟨b, off, e1, hb, hc⟩ := Reads.cell hR (strs_get hi)
      exact ⟨b, off, e1, by rw [hV.cell (p := ⟨b, off + i, none⟩) hb]; exact hc⟩)
    have HC : Hid (Ok L → ∀ V, Below w.heap.size w V → Calls Try.prog 40 #[.slice a L.length cap] V fun e w' => e = .returned (.int .i64 (cntN L L.length : Nat)) ∧ Below V.heap.size V w') := Lib.hid (fun hok V hV => rcount_any L a cap V (hR.later hV) (by omega) (okTo_all.2 hok))
    have HSZ := Lib.hid hsz
    obtain ⟨m, hmm⟩ : ∃ m, L.length = m := ⟨_, rfl⟩
    have HM := Lib.hid hmm
    rw [hmm] at HR HC hlen h20 HSZ ⊢
    have h20z : ¬ (20000 : Int) < (m : Int) := by omega
    have hm2 : m ≤ 20000 := by omega
    clear hR hmm hsz h20
    go_enter Try.func17, Try.ntmps17
    go_wp2
    go_loopw [3] (fun z wr => ∃ i : Nat, i ≤ m ∧ z = .int .i64 (i : Int) ∧ Hid (OkTo L i) ∧ Below w.heap.size w wr) (fun z _ => m - (intOf z).toNat)
    case atStart => exact ⟨0, Nat.zero_le _, rfl, Lib.hid (fun j h => by omega), Below.refl _ _⟩
    case round =>
      obtain ⟨i, hi, rfl, hok, hb⟩ := hrel
      by_cases hlt : i < m
      · obtain ⟨b, off, rfl, hcell⟩ := HR.out _ hb i hlt
        have hls := ba_size (sg L i)
        have hbig := HSZ.out i hlt
        have him : (i : Int) < (m : Int) := by omega
        have hi0 : (0 : Int) ≤ (i : Int) := by omega
        have HNO : Hid (¬ (1 ≤ ln L i ∧ ln L i ≤ 256 ∧ prevS L i < sg L i) → ∀ W, Below w.heap.size wr W → ChkP L w (.returned (.int .i64 1)) W) := Lib.hid (fun h W hW => ⟨hb.trans hW, .inr (.inl ⟨rfl, by rw [HM.out]; exact hm2, fun ho => h ⟨(ho.1 i (by rw [HM.out]; exact hlt)).1, okTo_of ho (by rw [HM.out]; exact hlt)⟩⟩)⟩)
        have HYES : Hid (ln L i ≤ 256 → prevS L i < sg L i → OkTo L (i + 1)) := Lib.hid (fun h1 h2 => okTo_step hok.out h1 h2)
        by_cases h1 : 1 ≤ ln L i
        · by_cases h2 : ln L i ≤ 256
          · by_cases h0 : 0 < i
            · have HT1 : (ba (sg L i)).toList = sg L i := by rw [ByteArray.toList_eq]; exact ba_list _
              have HT2 : (ba (sg L (i - 1))).toList = sg L (i - 1) := by rw [ByteArray.toList_eq]; exact ba_list _
              have hle := le_bool (sg L i) (sg L (i - 1))
              rw [← HT1, ← HT2] at hle
              have hp : prevS L i = sg L (i - 1) := by unfold prevS; rw [if_neg (by omega)]
              rw [hp, ← HT1, ← HT2] at HNO HYES
              obtain ⟨b', off', e1, hcell2⟩ := HR.out _ hb (i - 1) (by omega)
              cases e1
              unfold ln at h1 h2 HNO HYES
              rw [← hls] at h1 h2 HNO HYES
              obtain ⟨S, hS⟩ : ∃ S, ba (sg L i) = S := ⟨_, rfl⟩
              obtain ⟨P, hP⟩ : ∃ P, ba (sg L (i - 1)) = P := ⟨_, rfl⟩
              simp only [hS, hP] at hcell hls h1 h2 HNO HYES hcell2 hle
              obtain ⟨j, hj⟩ : ∃ j, i - 1 = j := ⟨_, rfl⟩
              rw [hj] at hcell2
              have hji : (i : Int) - 1 = (j : Int) := by omega
              have hj0 : (0 : Int) ≤ (j : Int) := by omega
              have hjm : (j : Int) < (m : Int) := by omega
              have h0z : (0 : Int) < (i : Int) := by omega
              have hwj : IntKind.i64.wrap (j : Int) = (j : Int) := by rw [IntKind.wrap_i64]; omega
              have d1 : decide ((S.size : Int) < 1) = false := decide_eq_false (by omega)
              have d2 : decide ((256 : Int) < (S.size : Int)) = false := decide_eq_false (by omega)
              have d3 : decide (0 < i) = true := decide_eq_true h0
              by_cases hpr : P.toList < S.toList
              · have HY := Lib.hid (HYES.out h2 hpr)
                rw [decide_eq_true hpr] at hle
                have hle : (Op.bytesLess S.toList P.toList || S.toList == P.toList) = false := hle
                clear HNO HYES hS hP hls h1 h2 h0 hj hpr HT1 HT2 hp hbig
                go_wp2
                go_quiet (fail)
                all_goals go_wp2
                go_roundw
                case rel => exact ⟨i + 1, by omega, by go_num, HY, hb.trans (below_drewN _ _ hb.size)⟩
                case measure => simp [intOf]; omega
              · have HN := Lib.hid (HNO.out (fun h => hpr h.2.2))
                rw [decide_eq_false hpr] at hle
                have hle : (Op.bytesLess S.toList P.toList || S.toList == P.toList) = true := hle
                clear HNO HYES hS hP hls h1 h2 h0 hj hpr HT1 HT2 hp hbig
                go_wp2
                go_quiet (fail)
                all_goals go_wp2
                go_ret
                exact HN.out _ (below_drewN _ _ hb.size)
            · have d3 : decide (0 < i) = false := decide_eq_false h0
              have HY := Lib.hid (HYES.out h2 (by
                unfold prevS; rw [if_pos (by omega)]
                cases hs : sg L i with
                | nil => unfold ln at h1; rw [hs] at h1; simp at h1
                | cons x y => exact List.nil_lt_cons x y))
              unfold ln at h1 h2
              rw [← hls] at h1 h2
              obtain ⟨S, hS⟩ : ∃ S, ba (sg L i) = S := ⟨_, rfl⟩
              simp only [hS] at hcell hls h1 h2
              have d1 : decide ((S.size : Int) < 1) = false := decide_eq_false (by omega)
              have d2 : decide ((256 : Int) < (S.size : Int)) = false := decide_eq_false (by omega)
              clear HNO HYES hS hls h0 hbig
              go_wp2
              go_quiet (fail)
              all_goals go_wp2
              go_roundw
              case rel => exact ⟨i + 1, by omega, by go_num, HY, hb.trans (below_drewN _ _ hb.size)⟩
              case measure => simp [intOf]; omega
          · have HN := Lib.hid (HNO.out (fun h => h2 h.2.1))
            unfold ln at h1 h2
            rw [← hls] at h1 h2
            obtain ⟨S, hS⟩ : ∃ S, ba (sg L i) = S := ⟨_, rfl⟩
            simp only [hS] at hcell hls h1 h2
            have d1 : decide ((S.size : Int) < 1) = false := decide_eq_false (by omega)
            have d2 : decide ((256 : Int) < (S.size : Int)) = true := decide_eq_true (by omega)
            clear HNO HYES hS hls h2 hbig
            go_wp2
            go_quiet (fail)
            all_goals go_wp2
            go_ret
            exact HN.out _ (below_drewN _ _ hb.size)
        · have HN := Lib.hid (HNO.out (fun h => h1 h.1))
          unfold ln at h1
          rw [← hls] at h1
          obtain ⟨S, hS⟩ : ∃ S, ba (sg L i) = S := ⟨_, rfl⟩
          simp only [hS] at hcell hls h1
          have d1 : decide ((S.size : Int) < 1) = true := decide_eq_true (by omega)
          clear HNO HYES hS hls h1 hbig
          go_wp2
          go_quiet (fail)
          all_goals go_wp2
          go_ret
          exact HN.out _ (below_drewN _ _ hb.size)
      · obtain rfl : i = m := by omega
        have HO : Ok L := okTo_all.1 (by rw [HM.out]; exact hok.out)
        have HC2 := Lib.hid (HC.out HO _ hb)
        have HP1 : Hid (524287 < cntN L L.length → ∀ w1, Below w.heap.size wr w1 → ChkP L w (.returned (.int .i64 2)) w1) := Lib.hid (fun h w1 hb2 => ⟨hb.trans hb2, .inl ⟨rfl, .inr ⟨by rw [HM.out]; exact hm2, HO, h⟩⟩⟩)
        have HP2 : Hid (cntN L L.length ≤ 524287 → ∀ w1, Below w.heap.size wr w1 → ChkP L w (.returned (.int .i64 0)) w1) := Lib.hid (fun h w1 hb2 => ⟨hb.trans hb2, .inr (.inr ⟨rfl, by rw [HM.out]; exact hm2, HO, h⟩)⟩)
        have hcn := cntN_le i hok.out
        rw [HM.out] at HP1 HP2
        have hbs := hb.size
        obtain ⟨C, hC⟩ : ∃ C, cntN L i = C := ⟨_, rfl⟩
        rw [hC] at HC2 HP1 HP2 hcn
        clear HO hok hC HC
        by_cases h : 524287 < C
        · have hz : (524287 : Int) < (C : Int) := by omega
          go_wp2_with (go_at_call 40; (with_reducible refine HC2.out.mono ?_); rintro e w1 ⟨rfl, hb1⟩)
          go_ret
          exact HP1.out h _ (hb1.mono hbs)
        · have hz : ¬ (524287 : Int) < (C : Int) := by omega
          go_wp2_with (go_at_call 40; (with_reducible refine HC2.out.mono ?_); rintro e w1 ⟨rfl, hb1⟩)
          go_ret
          exact HP2.out (by omega) _ (hb1.mono hbs)
end Go.Proofs.Ytffljcfpofhkgaa.Lo

set_option linter.unusedVariables false
set_option linter.unusedSimpArgs false
set_option maxRecDepth 100000
namespace Go.Proofs.Ytffljcfpofhkgaa.Lo
open Go Go.RowKit Go.Proofs.Ytffljcfpofhkgaa.Kit Go.Proofs.Ytffljcfpofhkgaa.Bv Go.Proofs.Ytffljcfpofhkgaa.Pk

theorem ba_take (s : Str) (n : Nat) : (ba s).extract 0 n = ba (s.take n) := by
  apply ByteArray.ext
  rw [ByteArray.data_extract]
  unfold ba
  simp
theorem ba_to (s : Str) : (ba s).toList = s := by rw [ByteArray.toList_eq]; exact ba_list _
theorem ba_beq (s p : Str) : ((ba s).toList == (ba p).toList) = decide (s = p) := by
  rw [ba_to, ba_to]
  by_cases h : s = p <;> simp [h]
theorem begins_any (f : Nat) (s p : Str) (w : World) (hf : f = 46 ∨ f = 33) (hs : s.length ≤ 281474976710656) (hp : p.length ≤ 281474976710656) :
    Calls Try.prog f #[.string (ba s), .string (ba p)] w fun e w' => e = .returned (.bool (beg s p)) ∧ Below w.heap.size w w' := by
  have hs1 := ba_size s
  have hp1 := ba_size p
  rcases hf with rfl | rfl
  all_goals
    by_cases h : p.length ≤ s.length
    · have HB := ba_beq (s.take p.length) p
      have HQ : Hid (beg s p = decide (s.take p.length = p)) := Lib.hid (by unfold beg; simp [h])
      rw [← HQ.out, ← ba_take, ← hp1] at HB
      rw [← hp1, ← hs1] at h
      rw [← hp1] at hp
      rw [← hs1] at hs
      obtain ⟨S, hS⟩ : ∃ S, ba s = S := ⟨_, rfl⟩
      obtain ⟨P, hP⟩ : ∃ P, ba p = P := ⟨_, rfl⟩
      obtain ⟨B, hB⟩ : ∃ B, beg s p = B := ⟨_, rfl⟩
      simp only [hS, hP] at HB h hs hp ⊢
      rw [hB] at HB ⊢
      clear hS hP hs1 hp1 HQ hB
      have hz : (P.size : Int) ≤ (S.size : Int) := by omega
      first
      | go_enter Try.func46, Try.ntmps46
      | go_enter Try.func33, Try.ntmps33
      go_wp2
      go_ret
      exact ⟨rfl, by first | exact Below.refl _ _ | exact (Below.refl _ _).drew⟩
    · have HQ : Hid (beg s p = false) := Lib.hid (by unfold beg; simp [h])
      rw [HQ.out]
      rw [← hp1, ← hs1] at h
      rw [← hp1] at hp
      rw [← hs1] at hs
      obtain ⟨S, hS⟩ : ∃ S, ba s = S := ⟨_, rfl⟩
      obtain ⟨P, hP⟩ : ∃ P, ba p = P := ⟨_, rfl⟩
      simp only [hS, hP] at h hs hp ⊢
      clear hS hP hs1 hp1 HQ
      have hz : ¬ (P.size : Int) ≤ (S.size : Int) := by omega
      first
      | go_enter Try.func46, Try.ntmps46
      | go_enter Try.func33, Try.ntmps33
      go_wp2
      go_ret
      exact ⟨rfl, by first | exact Below.refl _ _ | exact (Below.refl _ _).drew⟩

/-- A number, or -1. -/
def ixV (o : Option Nat) : Value := match o with | some i => .int .i64 (i : Int) | none => .int .i64 (-1)
end Go.Proofs.Ytffljcfpofhkgaa.Lo

set_option linter.unusedVariables false
set_option linter.unusedSimpArgs false
set_option maxRecDepth 100000
namespace Go.Proofs.Ytffljcfpofhkgaa.Lo
open Go Go.RowKit Go.Proofs.Ytffljcfpofhkgaa.Kit Go.Proofs.Ytffljcfpofhkgaa.Bv Go.Proofs.Ytffljcfpofhkgaa.Pk

/-- The numbers below i that the reference's Under has found. -/
def undI (L : List Str) (p : Str) (most : Int) (i : Nat) : List Nat := ((List.range i).filter fun j => beg (sg L j) p).take most.toNat
theorem undI_all (L : List Str) (p : Str) (most : Int) : undI L p most L.length = underK L p most := rfl
theorem undI_len (L : List Str) (p : Str) (most : Int) (i : Nat) : (undI L p most i).length ≤ i := by
  unfold undI
  rw [List.length_take]
  have := List.length_filter_le (fun j => beg (sg L j) p) (List.range i)
  rw [List.length_range] at this
  omega
theorem undI_yes {L : List Str} {p : Str} {most : Int} {i : Nat} (h1 : ((undI L p most i).length : Int) < most) (h2 : beg (sg L i) p = true) : undI L p most (i + 1) = undI L p most i ++ [i] := by
  unfold undI at *
  rw [List.range_succ, List.filter_append]
  rw [List.length_take] at h1
  have e : [i].filter (fun j => beg (sg L j) p) = [i] := by simp [h2]
  rw [e, List.take_of_length_le (by rw [List.length_append]; simp; omega), List.take_of_length_le (by omega)]
theorem undI_beg {L : List Str} {p : Str} {most : Int} {i : Nat} (h2 : beg (sg L i) p = false) : undI L p most (i + 1) = undI L p most i := by
  unfold undI
  rw [List.range_succ, List.filter_append]
  have e : [i].filter (fun j => beg (sg L j) p) = [] := by simp [h2]
  rw [e, List.append_nil]
theorem undI_full {L : List Str} {p : Str} {most : Int} {i : Nat} (h1 : ¬ ((undI L p most i).length : Int) < most) : undI L p most (i + 1) = undI L p most i := by
  unfold undI at *
  rw [List.length_take] at h1
  rw [List.range_succ, List.filter_append, List.take_append_of_le_length (by omega)]

set_option maxHeartbeats 4000000 in
theorem runder_any (L : List Str) (a : Option Addr) (cap : Nat) (w : World) (hR : Reads w (.slice a L.length cap) (strs L)) (hsz : ∀ i, i < L.length → ln L i ≤ 281474976710656) (hm : L.length ≤ 1048576) (p : Str) (hp : p.length ≤ 281474976710656) (most : Int) :
    Calls Try.prog 26 #[.slice a L.length cap, .string (ba p), .int .i64 most] w (UnP (underK L p most) w) := by
  have HR := Lib.hid (fun V (hV : Below w.heap.size w V) i (hi : i < L.length) => show ∃ b off, a = some ⟨b, off, none⟩ ∧ V.cell? ⟨b, off + i, none⟩ = some (.string (ba (sg L i))) by
    obtain ⟨b, off, e1, hb, hc⟩ := Reads.cell hR (strs_get hi)
    exact ⟨b, off, e1, by rw [hV.cell (p := ⟨b, off + i, none⟩) hb]; exact hc⟩)
  have HB := Lib.hid (fun V i (hi : i < L.length) => begins_any 46 (sg L i) p V (.inl rfl) (hsz i hi) hp)
  have hlen := hR.len.2
  unfold maxLen at hlen
  obtain ⟨i0, hi, hz0, hz1, hz2⟩ := info_parts info_int
  have hn0 := own_nil w w.heap.size 3 1
  rw [← undI_all]
  obtain ⟨m, hmm⟩ : ∃ m, L.length = m := ⟨_, rfl⟩
  obtain ⟨T, hT⟩ : ∃ T, ba p = T := ⟨_, rfl⟩
  rw [hmm] at HR HB hm hlen ⊢
  rw [hT] at HB ⊢
  clear hR hmm hT hsz hp
  go_enter Try.func26, Try.ntmps26
  go_wp2
  go_loopw [7, 8] (fun v y wr => ∃ i : Nat, i ≤ m ∧ y = .int .i64 (i : Int) ∧ wr.ownsRow w.heap.size 3 1 v (undI L p most i).length (i64s (undI L p most i)) ∧ Below w.heap.size w wr) (fun _ y _ => m - (intOf y).toNat)
  case atStart => exact ⟨0, Nat.zero_le _, rfl, by rw [show undI L p most 0 = [] by unfold undI; simp]; exact own_nil _ _ _ _, Below.refl _ _⟩
  case round =>
    clear hn0
    obtain ⟨i, hi, rfl, hown, hb⟩ := hrel
    have hul := undI_len L p most i
    by_cases hlt : i < m
    · obtain ⟨b, off, rfl, hcell⟩ := HR.out _ hb i hlt
      have HBG := Lib.hid (fun V => HB.out V i hlt)
      have hi0 : (0 : Int) ≤ (i : Int) := by omega
      have him : (i : Int) < (m : Int) := by omega
      have hbs := hb.size
      by_cases h1 : ((undI L p most i).length : Int) < most
      · cases h2 : beg (sg L i) p with
        | true =>
          have HU := Lib.hid (undI_yes h1 h2)
          rw [h2] at HBG
          obtain ⟨U, hU⟩ : ∃ U, undI L p most i = U := ⟨_, rfl⟩
          rw [hU] at HU hown h1 hul
          obtain ⟨j, hj⟩ : ∃ j, U.length = j := ⟨_, rfl⟩
          have HJ := Lib.hid hj
          rw [hj] at hown h1 hul
          obtain ⟨S, hS⟩ : ∃ S, ba (sg L i) = S := ⟨_, rfl⟩
          rw [hS] at HBG hcell
          obtain ⟨av, cv, rfl⟩ := own_is hown
          have HOWN := Lib.hid hown
          clear hU hj h2 hown hS hlt
          go_wp2_with (first
            | (go_at_call 46; (with_reducible refine (HBG.out _).mono ?_); rintro e w1 ⟨rfl, hb1⟩; have hb2 := hb.trans (hb1.mono hbs); have HO1 := Lib.hid (own_later HOWN.out hb1); have hbs2 := hb2.size)
            | (at_builtin; refine wpList_append_own _ rfl _ _ _ rfl w.heap.size 3 i0 (.int .i64 0) 1 8 Try.underlying44 ‹_› hz0 hz1 hz2 rfl (by decide) _ j (i64s U) rfl (HO1.out.alloc _) ⟨_, 0, none⟩ 1 1 [.int .i64 (i : Int)] rfl rfl (cell_one_new _ _ _) ?c2 ?c3 ?c4 ?c5 ?_))
          case c2 => simp [Value.oneCell']
          case c3 => unfold maxLen; omega
          case c4 => omega
          case c5 => simp; omega
          intro v' w5 hown5 hg5 _
          have hb5 := below_own (hb2.alloc hb2.size _) (HO1.out.alloc _) (Nat.le_refl _) (by simp; omega) hg5
          have HO5 : Hid (w5.ownsRow w.heap.size 3 1 v' (undI L p most (i + 1)).length (i64s (undI L p most (i + 1)))) := Lib.hid (by rw [HU.out, i64s_append, List.length_append, HJ.out]; exact hown5)
          clear hown5 hg5
          go_wp2
          go_roundw
          case rel => exact ⟨i + 1, by omega, by go_num, HO5.out, hb5⟩
          case measure => simp [intOf]; omega
        | false =>
          have HU := Lib.hid (undI_beg (most := most) h2)
          rw [h2] at HBG
          obtain ⟨U, hU⟩ : ∃ U, undI L p most i = U := ⟨_, rfl⟩
          rw [hU] at HU hown h1 hul
          obtain ⟨S, hS⟩ : ∃ S, ba (sg L i) = S := ⟨_, rfl⟩
          rw [hS] at HBG hcell
          obtain ⟨av, cv, rfl⟩ := own_is hown
          have HOWN := Lib.hid hown
          clear hU h2 hown hS hlt
          go_wp2_with (go_at_call 46; (with_reducible refine (HBG.out _).mono ?_); rintro e w1 ⟨rfl, hb1⟩; have hb2 := hb.trans (hb1.mono hbs); have HO1 := Lib.hid (own_later HOWN.out hb1))
          go_roundw
          case rel => exact ⟨i + 1, by omega, by go_num, by rw [HU.out]; exact HO1.out, hb2⟩
          case measure => simp [intOf]; omega
      · have HU := Lib.hid (undI_full (p := p) h1)
        obtain ⟨U, hU⟩ : ∃ U, undI L p most i = U := ⟨_, rfl⟩
        rw [hU] at HU hown h1 hul
        obtain ⟨av, cv, rfl⟩ := own_is hown
        have HOWN := Lib.hid hown
        clear hU hown hlt HBG
        go_wp2
        go_roundw
        case rel => exact ⟨i + 1, by omega, by go_num, by rw [HU.out]; exact HOWN.out, hb⟩
        case measure => simp [intOf]; omega
    · obtain rfl : i = m := by omega
      obtain ⟨av, cv, rfl⟩ := own_is hown
      have HP : Hid (UnP (undI L p most i) w (.returned (.slice av (undI L p most i).length cv)) wr) := Lib.hid ⟨av, cv, rfl, hown, hb⟩
      clear hown
      go_wp2
      go_ret
      exact HP.out

/-- The hits below n that the reference's Prefixes has found. -/
def hitI (L : List Str) (s : Str) (n : Nat) : List (Nat × Nat) := (List.range n).filterMap fun j => (ixOf L (s.take j)).map fun i => (i, j)
theorem hitI_len (L : List Str) (s : Str) (n : Nat) : (hitI L s n).length ≤ n := by
  unfold hitI
  have := List.length_filterMap_le (fun j => (ixOf L (s.take j)).map fun i => (i, j)) (List.range n)
  rwa [List.length_range] at this
theorem hitI_succ (L : List Str) (s : Str) (n : Nat) : hitI L s (n + 1) = hitI L s n ++ (match ixOf L (s.take n) with | some i => [(i, n)] | none => []) := by
  unfold hitI
  rw [List.range_succ, List.filterMap_append]
  cases h : ixOf L (s.take n) <;> simp [h]
theorem hitI_all {L : List Str} (hL : Ok L) (s : Str) (n : Nat) (h : n = s.length + 1 ∨ (n = 257 ∧ 257 ≤ s.length)) : hitI L s n = hits L s := by
  rcases h with rfl | ⟨rfl, h⟩
  · rfl
  · have : ∀ k, hitI L s (257 + k) = hitI L s 257 ∨ s.length + 1 < 257 + k := by
      intro k
      induction k with
      | zero => exact .inl rfl
      | succ k ih =>
        by_cases hk : s.length + 1 < 257 + (k + 1)
        · exact .inr hk
        · left
          rcases ih with ih | ih
          · rw [show 257 + (k + 1) = (257 + k) + 1 by omega, hitI_succ, ih]
            have : ixOf L (s.take (257 + k)) = none := by
              rw [ixOf_none]
              intro i hi e
              have h2 := (hL.1 i hi).2
              unfold ln at h2
              rw [e, List.length_take] at h2
              omega
            rw [this, List.append_nil]
          · omega
    rcases this (s.length + 1 - 257) with h1 | h1
    · rw [← h1, show 257 + (s.length + 1 - 257) = s.length + 1 by omega]; rfl
    · omega
theorem hitI_one {L : List Str} (hL : Ok L) (s : Str) : hitI L s 1 = [] := by
  rw [hitI_succ]
  have : ixOf L (s.take 0) = none := by
    rw [ixOf_none]
    intro i hi e
    have h2 := (hL.1 i hi).1
    unfold ln at h2
    rw [e] at h2
    simp at h2
  rw [this, List.append_nil]; rfl
theorem info_rhit : (Try.prog.info? 41).map (fun i => (i.zero, i.size, i.bytes)) = some (some (.agg #[.int .i64 0, .int .i64 0]), 2, 16) := by kernel_rfl
/-- What the reference's Prefixes leaves. -/
def RxP (hs : List (Nat × Nat)) (w : World) (e : Ending) (w' : World) : Prop := ∃ v, e = .returned v ∧ w'.ownsRow w.heap.size 41 2 v hs.length (hcs hs) ∧ Below w.heap.size w w'

end Go.Proofs.Ytffljcfpofhkgaa.Lo

set_option linter.unusedVariables false
set_option linter.unusedSimpArgs false
set_option maxRecDepth 100000
namespace Go.Proofs.Ytffljcfpofhkgaa.Lo
open Go Go.RowKit Go.Proofs.Ytffljcfpofhkgaa.Kit Go.Proofs.Ytffljcfpofhkgaa.Bv Go.Proofs.Ytffljcfpofhkgaa.Pk

/-- A set that fits. -/
structure Fits (L : List Str) : Prop where
  ok : Ok L
  few : L.length ≤ 20000
  cnt : cntN L L.length ≤ 524287
theorem Fits.gs {L : List Str} (h : Fits L) : (Gs L).length ≤ 524287 := by rw [Gs_len h.ok]; exact h.cnt
theorem Fits.size {L : List Str} (h : Fits L) (i : Nat) (hi : i < L.length) : ln L i ≤ 281474976710656 := by have := (h.ok.1 i hi).2; omega
/-- A trie of a set. -/
def Tr (w : World) (p : Nat) (L : List Str) (w' : World) : Prop := Below w.heap.size w w' ∧ TrieAt w.heap.size w'.heap.size w' p L
theorem Tr.later {w w1 w2 : World} {p : Nat} {L : List Str} (h : Tr w p L w1) (hb : Below w1.heap.size w1 w2) : Tr w p L w2 :=
  ⟨h.1.trans (hb.mono h.1.size), (h.2.below hb (Nat.le_refl _)).wide (Nat.le_refl _) hb.size⟩
theorem Tr.back {v w w1 : World} {p : Nat} {L : List Str} (hb : Below v.heap.size v w) (h : Tr w p L w1) : Tr v p L w1 :=
  ⟨hb.trans (h.1.mono hb.size), h.2.wide hb.size (Nat.le_refl _)⟩
theorem Tr.find {w w1 : World} {p : Nat} {L : List Str} (h : Tr w p L w1) (hf : Fits L) (s : Str) (hs : s.length ≤ 281474976710656) :
    Calls Try.prog 20 #[.pointer (some ⟨p, 0, none⟩), .string (ba s)] w1 fun e w' => e = .returned (ndV (ixOf L s)) ∧ Below w1.heap.size w1 w' :=
  find_any h.2 hf.ok hf.gs (by have := hf.few; omega) (Nat.le_refl _) s hs
theorem Tr.prefixes {w w1 : World} {p : Nat} {L : List Str} (h : Tr w p L w1) (hf : Fits L) (s : Str) (hs : s.length ≤ 281474976710656) :
    Calls Try.prog 22 #[.pointer (some ⟨p, 0, none⟩), .string (ba s)] w1 (PxP (hits L s) w1) :=
  prefixes_any h.2 hf.ok hf.gs (by have := hf.few; omega) (Nat.le_refl _) s hs
theorem Tr.under {w w1 : World} {p : Nat} {L : List Str} (h : Tr w p L w1) (hf : Fits L) (s : Str) (hs : s.length ≤ 281474976710656) (most : Int) :
    Calls Try.prog 25 #[.pointer (some ⟨p, 0, none⟩), .string (ba s), .int .i64 most] w1 (UnP (underK L s most) w1) :=
  under_any h.2 hf.ok hf.gs (by have := hf.few; omega) (Nat.le_refl _) s hs most
theorem Tr.text {w w1 : World} {p : Nat} {L : List Str} (h : Tr w p L w1) (hf : Fits L) {i : Nat} (hi : i < L.length) :
    Calls Try.prog 27 #[.pointer (some ⟨p, 0, none⟩), .int .i64 (i : Int)] w1 fun e w' => e = .returned (.tuple #[.string (ba (sg L i)), .bool true]) ∧ Below w1.heap.size w1 w' :=
  text_in h.2 hf.ok hf.gs (by have := hf.few; omega) (Nat.le_refl _) hi
theorem Tr.out {w w1 : World} {p : Nat} {L : List Str} (h : Tr w p L w1) (hf : Fits L) {i : Int} (hi : i < 0 ∨ (L.length : Int) ≤ i) :
    Calls Try.prog 27 #[.pointer (some ⟨p, 0, none⟩), .int .i64 i] w1 fun e w' => e = .returned (.tuple #[.string (ba []), .bool false]) ∧ Below w1.heap.size w1 w' :=
  text_out h.2 hf.ok hf.gs (Nat.le_refl _) hi
theorem Tr.len {w w1 : World} {p : Nat} {L : List Str} (h : Tr w p L w1) (hf : Fits L) :
    Calls Try.prog 35 #[.pointer (some ⟨p, 0, none⟩)] w1 fun e w' => e = .returned (.int .i64 (L.length : Nat)) ∧ w1 = w' :=
  tlen_any h.2 hf.ok
/-- Build of a set that fits. -/
def BlP (L : List Str) (w : World) (e : Ending) (w' : World) : Prop := ∃ p, e = .returned (.tuple #[.pointer (some ⟨p, 0, none⟩), .int .i64 0]) ∧ Tr w p L w'
theorem bld_fits {L : List Str} (hf : Fits L) (a : Option Addr) (cap : Nat) (w : World) (hR : Reads w (.slice a L.length cap) (strs L)) :
    Calls Try.prog 16 #[.slice a L.length cap] w (BlP L w) := by
  refine (bld_any L a cap w hR hf.size).mono ?_
  rintro e w' ⟨hb, ⟨_, h⟩ | ⟨_, _, h⟩ | ⟨_, _, _, p, rfl, h⟩⟩
  · rcases h with h | ⟨_, _, h⟩
    · have := hf.few; omega
    · have := hf.cnt; omega
  · exact absurd hf.ok h
  · exact ⟨p, rfl, hb, h⟩
/-- What the laws' build leaves. -/
def LbP (L : List Str) (w : World) (e : Ending) (w' : World) : Prop := ∃ p, e = .returned (.pointer (some ⟨p, 0, none⟩)) ∧ Tr w p L w'
set_option maxHeartbeats 2000000 in
theorem lbuild_any {L : List Str} (hf : Fits L) (a : Option Addr) (cap : Nat) (w : World) (hR : Reads w (.slice a L.length cap) (strs L)) :
    Calls Try.prog 18 #[.slice a L.length cap] w (LbP L w) := by
  have HB := Lib.hid (bld_fits hf a cap w hR)
  have HL := Lib.hid (fun p w1 (h : Tr w p L w1) => Tr.len h hf)
  have HP : Hid (∀ p w1, Tr w p L w1 → LbP L w (.returned (.pointer (some ⟨p, 0, none⟩))) w1) := Lib.hid fun p w1 h => ⟨p, rfl, h⟩
  obtain ⟨m, hmm⟩ : ∃ m, L.length = m := ⟨_, rfl⟩
  rw [hmm] at HB HL ⊢
  clear hR hmm
  go_enter Try.func18, Try.ntmps18
  go_wp2_with (first
    | (go_at_call 16; (with_reducible refine HB.out.mono ?_); rintro e w1 ⟨p, rfl, ht⟩; have HT := Lib.hid ht; have HL1 := Lib.hid (HL.out _ _ ht); clear ht)
    | (go_at_call 35; (with_reducible refine HL1.out.mono ?_); rintro e w2 ⟨rfl, rfl⟩))
  go_ret
  exact HP.out _ _ HT.out

set_option maxHeartbeats 2000000 in
theorem sameInts_any (xs ys : List Nat) (a1 a2 : Option Addr) (c1 c2 : Nat) (w : World) (h1 : Reads w (.slice a1 xs.length c1) (i64s xs)) (h2 : Reads w (.slice a2 ys.length c2) (i64s ys)) :
    Calls Try.prog 24 #[.slice a1 xs.length c1, .slice a2 ys.length c2] w fun e w' => e = .returned (.bool (decide (xs = ys))) ∧ Below w.heap.size w w' := by
  have hl1 := h1.len.2
  have hl2 := h2.len.2
  unfold maxLen at hl1 hl2
  by_cases hl : xs.length = ys.length
  · have HR1 := Lib.hid (fun V (hV : Below w.heap.size w V) i (hi : i < xs.length) => show ∃ b off, a1 = some ⟨b, off, none⟩ ∧ V.cell? ⟨b, off + i, none⟩ = some (.int .i64 ((xs[i]?.getD 0 : Nat) : Int)) by
      obtain ⟨b, off, e1, hb, hc⟩ := Reads.cell h1 (i := i) (x := .int .i64 ((xs[i]?.getD 0 : Nat) : Int)) (by unfold i64s; rw [List.getElem?_map, List.getElem?_eq_getElem hi]; rfl)
      exact ⟨b, off, e1, by rw [hV.cell (p := ⟨b, off + i, none⟩) hb]; exact hc⟩)
    have HR2 := Lib.hid (fun V (hV : Below w.heap.size w V) i (hi : i < xs.length) => show ∃ b off, a2 = some ⟨b, off, none⟩ ∧ V.cell? ⟨b, off + i, none⟩ = some (.int .i64 ((ys[i]?.getD 0 : Nat) : Int)) by
      obtain ⟨b, off, e1, hb, hc⟩ := Reads.cell h2 (i := i) (x := .int .i64 ((ys[i]?.getD 0 : Nat) : Int)) (by unfold i64s; rw [List.getElem?_map, List.getElem?_eq_getElem (by omega)]; rfl)
      exact ⟨b, off, e1, by rw [hV.cell (p := ⟨b, off + i, none⟩) hb]; exact hc⟩)
    have HD : Hid (∀ i, i < xs.length → ¬ xs[i]?.getD 0 = ys[i]?.getD 0 → decide (xs = ys) = false) := Lib.hid (fun i hi h => decide_eq_false (fun e => h (by rw [e])))
    have HE : Hid ((∀ i, i < xs.length → xs[i]?.getD 0 = ys[i]?.getD 0) → decide (xs = ys) = true) := Lib.hid (fun h => decide_eq_true (by
      apply List.ext_getElem? 
      intro i
      by_cases hi : i < xs.length
      · have := h i hi
        rw [List.getElem?_eq_getElem hi, List.getElem?_eq_getElem (by omega)] at this ⊢
        exact congrArg some this
      · rw [List.getElem?_eq_none (by omega), List.getElem?_eq_none (by omega)]))
    obtain ⟨m, hm⟩ : ∃ m, ys.length = m := ⟨_, rfl⟩
    rw [hm] at hl hl2 ⊢
    rw [hl] at HR1 HR2 HD HE hl1 ⊢
    obtain ⟨D, hD⟩ : ∃ D, decide (xs = ys) = D := ⟨_, rfl⟩
    rw [hD] at HD HE ⊢
    clear h1 h2 hm hl hD
    go_enter Try.func24, Try.ntmps24
    go_wp2
    go_loopw [13] (fun z wr => ∃ i : Nat, i ≤ m ∧ z = .int .i64 (i : Int) ∧ Hid (∀ j, j < i → xs[j]?.getD 0 = ys[j]?.getD 0) ∧ Below w.heap.size w wr) (fun z _ => m - (intOf z).toNat)
    case atStart => exact ⟨0, Nat.zero_le _, rfl, Lib.hid (fun j h => by omega), Below.refl _ _⟩
    case round =>
      obtain ⟨i, hi, rfl, hno, hb⟩ := hrel
      by_cases hlt : i < m
      · obtain ⟨b, off, rfl, hcell⟩ := HR1.out _ hb i hlt
        obtain ⟨b2, off2, rfl, hcell2⟩ := HR2.out _ hb i hlt
        have hi0 : (0 : Int) ≤ (i : Int) := by omega
        have him : (i : Int) < (m : Int) := by omega
        have hbs := hb.size
        by_cases he : xs[i]?.getD 0 = ys[i]?.getD 0
        · have HH : Hid (∀ j, j < i + 1 → xs[j]?.getD 0 = ys[j]?.getD 0) := Lib.hid (fun j hj => by
            by_cases h : j = i
            · subst h; exact he
            · exact hno.out j (by omega))
          rw [← he] at hcell2
          obtain ⟨x, hx⟩ : ∃ x, xs[i]?.getD 0 = x := ⟨_, rfl⟩
          rw [hx] at hcell hcell2
          clear he hx
          go_wp2
          go_quiet (fail)
          go_wp2
          go_roundw
          case rel => exact ⟨i + 1, by omega, by go_num, HH, hb.trans (below_drewN _ _ hbs)⟩
          case measure => simp [intOf]; omega
        · have HV := Lib.hid (HD.out i hlt he)
          obtain ⟨x, hx⟩ : ∃ x, xs[i]?.getD 0 = x := ⟨_, rfl⟩
          obtain ⟨y, hy⟩ : ∃ y, ys[i]?.getD 0 = y := ⟨_, rfl⟩
          rw [hx] at hcell he
          rw [hy] at hcell2 he
          have hq : ((x : Int) != (y : Int)) = true := by rw [bne_iff_ne]; omega
          have hq2 : ¬ (x : Int) = (y : Int) := by omega
          clear hx hy
          go_wp2
          go_quiet (fail)
          go_wp2
          go_ret
          exact ⟨by rw [HV.out]; rfl, hb.trans (below_drewN _ _ hbs)⟩
      · obtain rfl : i = m := by omega
        have HV := Lib.hid (HE.out hno.out)
        go_wp2
        go_ret
        exact ⟨by rw [HV.out]; rfl, hb⟩
  · have HV : Hid (decide (xs = ys) = false) := Lib.hid (decide_eq_false (fun e => hl (by rw [e])))
    rw [HV.out]
    obtain ⟨m, hm⟩ : ∃ m, ys.length = m := ⟨_, rfl⟩
    obtain ⟨n, hn⟩ : ∃ n, xs.length = n := ⟨_, rfl⟩
    rw [hm] at hl hl2 ⊢
    rw [hn] at hl hl1 ⊢
    have hq : ((n : Int) != (m : Int)) = true := by rw [bne_iff_ne]; omega
    have hq2 : ¬ (n : Int) = (m : Int) := by omega
    clear h1 h2
    go_enter Try.func24, Try.ntmps24
    go_wp2
    go_ret
    exact ⟨rfl, Below.refl _ _⟩

set_option maxHeartbeats 4000000 in
theorem has_any {w0 w : World} {p : Nat} {L : List Str} (h : Tr w0 p L w) (hf : Fits L) (a : Option Addr) (cap : Nat) (hR : Reads w (.slice a L.length cap) (strs L)) :
    Calls Try.prog 32 #[.pointer (some ⟨p, 0, none⟩), .slice a L.length cap] w fun e w' => e = .returned (.bool true) ∧ Below w.heap.size w w' := by
  have HR := Lib.hid (fun V (hV : Below w.heap.size w V) i (hi : i < L.length) => show ∃ b off, a = some ⟨b, off, none⟩ ∧ V.cell? ⟨b, off + i, none⟩ = some (.string (ba (sg L i))) by
    obtain ⟨b, off, e1, hb, hc⟩ := Reads.cell hR (strs_get hi)
    exact ⟨b, off, e1, by rw [hV.cell (p := ⟨b, off + i, none⟩) hb]; exact hc⟩)
  have HL := Lib.hid (Tr.len h hf)
  have HT := Lib.hid (fun V (hV : Below w.heap.size w V) i (hi : i < L.length) => Tr.text (h.later hV) hf hi)
  have HF := Lib.hid (fun V (hV : Below w.heap.size w V) i (hi : i < L.length) => show Calls Try.prog 20 #[.pointer (some ⟨p, 0, none⟩), .string (ba (sg L i))] V fun e w' => e = .returned (.tuple #[.int .i64 (i : Int), .bool true]) ∧ Below V.heap.size V w' by
    have := Tr.find (h.later hV) hf (sg L i) (hf.size i hi)
    rw [(ixOf_some hf.ok).2 ⟨hi, rfl⟩] at this
    exact this)
  have hlen := hR.len.2
  unfold maxLen at hlen
  obtain ⟨m, hmm⟩ : ∃ m, L.length = m := ⟨_, rfl⟩
  rw [hmm] at HR HL HT HF hlen ⊢
  clear hR hmm h hf
  go_enter Try.func32, Try.ntmps32
  go_wp2_with (go_at_call 35; (with_reducible refine HL.out.mono ?_); rintro e w2 ⟨rfl, rfl⟩)
  go_loopw [21] (fun z wr => ∃ i : Nat, i ≤ m ∧ z = .int .i64 (i : Int) ∧ Below w.heap.size w wr) (fun z _ => m - (intOf z).toNat)
  case atStart => exact ⟨0, Nat.zero_le _, rfl, Below.refl _ _⟩
  case round =>
    obtain ⟨i, hi, rfl, hb⟩ := hrel
    by_cases hlt : i < m
    · have HC := Lib.hid (fun V hV => HR.out V hV i hlt)
      obtain ⟨b, off, rfl, hcell⟩ := HR.out _ hb i hlt
      have HTI := Lib.hid (HT.out _ hb i hlt)
      have HFI := Lib.hid (fun V hV => HF.out V hV i hlt)
      obtain ⟨S, hS⟩ : ∃ S, ba (sg L i) = S := ⟨_, rfl⟩
      rw [hS] at hcell HTI
      simp only [hS] at HC HFI
      have hi0 : (0 : Int) ≤ (i : Int) := by omega
      have him : (i : Int) < (m : Int) := by omega
      have hbs := hb.size
      clear hS hlt
      go_wp2_with (first
        | (go_at_call 27; (with_reducible refine HTI.out.mono ?_); rintro e w1 ⟨rfl, hb1⟩; have hb2 := hb.trans (hb1.mono hbs); have HF1 := Lib.hid (HFI.out _ hb2); obtain ⟨b2, off2, e2, hcell2⟩ := HC.out _ hb2; cases e2; have hbs2 := hb2.size)
        | (go_at_call 20; (with_reducible refine HF1.out.mono ?_); rintro e w3 ⟨rfl, hb3⟩; have hb4 := hb2.trans (hb3.mono hbs2); obtain ⟨b4, off4, e4, hcell4⟩ := HC.out _ hb4; cases e4))
      go_roundw
      case rel => exact ⟨i + 1, by omega, by go_num, hb4⟩
      case measure => simp [intOf]; omega
    · obtain rfl : i = m := by omega
      go_wp2
      go_ret
      exact ⟨rfl, hb⟩
end Go.Proofs.Ytffljcfpofhkgaa.Lo

set_option linter.unusedVariables false
set_option linter.unusedSimpArgs false
set_option maxRecDepth 100000
namespace Go.Proofs.Ytffljcfpofhkgaa.Lo
open Go Go.RowKit Go.Proofs.Ytffljcfpofhkgaa.Kit Go.Proofs.Ytffljcfpofhkgaa.Bv Go.Proofs.Ytffljcfpofhkgaa.Pk

/-- The chapter's set. -/
def L0 : List Str := [[97], [97, 98], [98]]
theorem ok0 : Ok L0 := by
  refine ⟨fun i hi => ?_, fun i hi => ?_⟩
  · match i, hi with
    | 0, _ => decide
    | 1, _ => decide
    | 2, _ => decide
    | i + 3, h => exact absurd h (by simp [L0])
  · match i, hi with
    | 0, _ => decide
    | 1, _ => decide
    | i + 2, h => exact absurd h (by simp [L0])
theorem fits0 : Fits L0 := ⟨ok0, by decide, by decide⟩
theorem lit1 : ba [97] = ⟨#[97]⟩ := rfl
theorem two_rows {w : World} {base : Nat} {e : TypeId} {v : Value} (h : w.ownsRow base e 2 v 2 (hcs [(0, 1), (1, 2)])) : ∃ g cap, v = .slice (some ⟨g, 0, none⟩) 2 cap ∧ g < w.heap.size ∧ ∀ V, Below w.heap.size w V →
    V.cell? ⟨g, 0, none⟩ = some (.int .i64 0) ∧ V.cell? ⟨g, 1, none⟩ = some (.int .i64 1) ∧ V.cell? ⟨g, 2, none⟩ = some (.int .i64 1) ∧ V.cell? ⟨g, 3, none⟩ = some (.int .i64 2) := by
  obtain ⟨a, c, rfl⟩ := own_slice h
  obtain ⟨g, rfl, _, hg, hc, _⟩ := own_cellsN h (by decide)
  refine ⟨g, c, rfl, hg, fun V hV => ⟨?_, ?_, ?_, ?_⟩⟩
  · rw [hV.cell (p := ⟨g, 0, none⟩) hg]; exact hc 0 _ rfl
  · rw [hV.cell (p := ⟨g, 1, none⟩) hg]; exact hc 1 _ rfl
  · rw [hV.cell (p := ⟨g, 2, none⟩) hg]; exact hc 2 _ rfl
  · rw [hV.cell (p := ⟨g, 3, none⟩) hg]; exact hc 3 _ rfl

set_option maxHeartbeats 4000000 in
theorem works_lo (w : World) : Calls Try.prog 15 #[] w fun e w' => e = .returned (.bool true) ∧ Below w.heap.size w w' := by
  obtain ⟨W1, hW1⟩ : ∃ W1, w.alloc (.cells #[.string { data := #[97] }, .string { data := #[97, 98] }, .string { data := #[98] }] 9) = W1 := ⟨_, rfl⟩
  have hs1 : W1.heap.size = w.heap.size + 1 := by rw [← hW1]; simp
  have hb1 : Below w.heap.size w W1 := by rw [← hW1]; exact (Below.refl _ w).alloc (Nat.le_refl _) _
  have hr1 : Reads W1 (.slice (some ⟨w.heap.size, 0, none⟩) 3 3) (strs L0) := by
    rw [← hW1]; exact reads_lit w #[.string { data := #[97] }, .string { data := #[97, 98] }, .string { data := #[98] }] 9 w.heap.size 3 rfl rfl (by simp [maxLen])
  have H1 := Lib.hid (bld_fits fits0 (some ⟨w.heap.size, 0, none⟩) 3 W1 hr1)
  have HW1 := Lib.hid hW1
  have HB1 := Lib.hid hb1
  have HS1 := Lib.hid hs1
  have HL := Lib.hid (fun p V (h : Tr W1 p L0 V) => show Calls Try.prog 35 #[.pointer (some ⟨p, 0, none⟩)] V fun e w' => e = .returned (.int .i64 3) ∧ V = w' from Tr.len h fits0)
  have HF := Lib.hid (fun p V (h : Tr W1 p L0 V) => show Calls Try.prog 20 #[.pointer (some ⟨p, 0, none⟩), .string { data := #[98] }] V fun e w' => e = .returned (.tuple #[.int .i64 2, .bool true]) ∧ Below V.heap.size V w' from Tr.find h fits0 [98] (by simp))
  have HT := Lib.hid (fun p V (h : Tr W1 p L0 V) => show Calls Try.prog 27 #[.pointer (some ⟨p, 0, none⟩), .int .i64 1] V fun e w' => e = .returned (.tuple #[.string { data := #[97, 98] }, .bool true]) ∧ Below V.heap.size V w' from Tr.text (i := 1) h fits0 (by decide))
  have HP := Lib.hid (fun p V (h : Tr W1 p L0 V) => show Calls Try.prog 22 #[.pointer (some ⟨p, 0, none⟩), .string { data := #[97, 98, 99] }] V (PxP [(0, 1), (1, 2)] V) from Tr.prefixes h fits0 [97, 98, 99] (by simp))
  have HU1 := Lib.hid (fun p V (h : Tr W1 p L0 V) => show Calls Try.prog 25 #[.pointer (some ⟨p, 0, none⟩), .string { data := #[97] }, .int .i64 5] V (UnP [0, 1] V) from Tr.under h fits0 [97] (by simp) 5)
  have HU2 := Lib.hid (fun p V (h : Tr W1 p L0 V) => show Calls Try.prog 25 #[.pointer (some ⟨p, 0, none⟩), .string { data := #[] }, .int .i64 1] V (UnP [0] V) from Tr.under h fits0 [] (by simp) 1)
  clear hW1 hb1 hs1 hr1
  go_enter Try.func15, Try.ntmps15
  go_wp2_with fail
  rw [HW1.out]
  refine H1.out.mono ?_
  rintro e W2 ⟨p, rfl, hT2⟩
  have hbw : Below w.heap.size w W2 := HB1.out.trans (hT2.1.mono (by have := HS1.out; omega))
  have HL2 := Lib.hid (HL.out p W2 hT2)
  have HF2 := Lib.hid (HF.out p W2 hT2)
  have HT2 := Lib.hid hT2
  have HBW := Lib.hid hbw
  clear hbw hT2 H1 HW1 HB1 HS1
  go_wp2_with (first
    | (go_at_call 35; (with_reducible refine HL2.out.mono ?_); rintro e w1 ⟨rfl, rfl⟩)
    | (go_at_call 20; (with_reducible refine HF2.out.mono ?_); rintro e w3 ⟨rfl, hb3⟩; have HT3 := Lib.hid (HT2.out.later hb3); have HB3 := Lib.hid (HBW.out.trans (hb3.mono HBW.out.size)); clear hb3 HT2 HBW)
    | (go_at_call 27; (with_reducible refine (HT.out p _ HT3.out).mono ?_); rintro e w4 ⟨rfl, hb4⟩; have HT4 := Lib.hid (HT3.out.later hb4); have HB4 := Lib.hid (HB3.out.trans (hb4.mono HB3.out.size)); clear hb4 HT3 HB3)
    | (go_at_call 22; (with_reducible refine (HP.out p _ HT4.out).mono ?_); rintro e w5 ⟨v, rfl, ho, hb5⟩; have HT5 := Lib.hid (HT4.out.later hb5); have HB5 := Lib.hid (HB4.out.trans (hb5.mono HB4.out.size)); clear hb5 HT4 HB4; obtain ⟨g, cap, rfl, hg, hcc⟩ := two_rows ho; clear ho; obtain ⟨x0, x1, x2, x3⟩ := hcc _ (Below.refl _ _))
    | (go_at_call 25; (with_reducible refine (HU1.out p _ HT5.out).mono ?_); rintro e w6 ⟨av, cv, rfl, ho6, hb6⟩; have HT6 := Lib.hid (HT5.out.later hb6); have HB6 := Lib.hid (HB5.out.trans (hb6.mono HB5.out.size)); have HO6 := Lib.hid ho6; clear hb6 ho6 HT5 HB5)
    | (go_at_call 24; refine (sameInts_any [0, 1] [0, 1] _ _ _ _ _ (own_reads (HO6.out.alloc _)) (reads_lit w6 #[.int .i64 0, .int .i64 1] 3 w6.heap.size 2 rfl rfl (by simp [maxLen]))).mono ?_; rintro e w7 ⟨rfl, hb7⟩; have hb8 := ((Below.refl w6.heap.size w6).alloc (Nat.le_refl _) _).trans (hb7.mono (by simp)); have HT8 := Lib.hid (HT6.out.later hb8); have HB8 := Lib.hid (HB6.out.trans (hb8.mono HB6.out.size)); clear hb7 hb8 HO6 HT6 HB6)
    | (go_at_call 25; (with_reducible refine (HU2.out p _ HT8.out).mono ?_); rintro e w9 ⟨av9, cv9, rfl, ho9, hb9⟩; have HB9 := Lib.hid (HB8.out.trans (hb9.mono HB8.out.size)); have HO9 := Lib.hid ho9; clear hb9 ho9 HT8 HB8)
    | (go_at_call 24; refine (sameInts_any [0] [0] _ _ _ _ _ (own_reads (HO9.out.alloc _)) (reads_lit w9 #[.int .i64 0] 3 w9.heap.size 1 rfl rfl (by simp [maxLen]))).mono ?_; rintro e wA ⟨rfl, hbA⟩; have hbB := ((Below.refl w9.heap.size w9).alloc (Nat.le_refl _) _).trans (hbA.mono (by simp)); have HBB := Lib.hid (HB9.out.trans (hbB.mono HB9.out.size)); clear hbA hbB HO9 HB9))
  go_ret
  exact ⟨rfl, HBB.out⟩
end Go.Proofs.Ytffljcfpofhkgaa.Lo

set_option linter.unusedVariables false
set_option linter.unusedSimpArgs false
set_option maxRecDepth 100000
namespace Go.Proofs.Ytffljcfpofhkgaa.Lo
open Go Go.RowKit Go.Proofs.Ytffljcfpofhkgaa.Kit Go.Proofs.Ytffljcfpofhkgaa.Bv Go.Proofs.Ytffljcfpofhkgaa.Pk

/-- The error of a list that does not fit. -/
def Err (L : List Str) (c : Int) : Prop := (c = 2 ∧ (20000 < L.length ∨ (L.length ≤ 20000 ∧ Ok L ∧ 524287 < cntN L L.length))) ∨ (c = 1 ∧ L.length ≤ 20000 ∧ ¬ Ok L)
theorem err_or (L : List Str) : Fits L ∨ ∃ c, Err L c := by
  by_cases h1 : 20000 < L.length
  · exact .inr ⟨2, .inl ⟨rfl, .inl h1⟩⟩
  · by_cases h2 : Ok L
    · by_cases h3 : 524287 < cntN L L.length
      · exact .inr ⟨2, .inl ⟨rfl, .inr ⟨by omega, h2, h3⟩⟩⟩
      · exact .inl ⟨h2, by omega, by omega⟩
    · exact .inr ⟨1, .inr ⟨rfl, by omega, h2⟩⟩
theorem Err.nz {L : List Str} {c : Int} (h : Err L c) : ¬ c = 0 := by rcases h with ⟨h, _⟩ | ⟨h, _⟩ <;> omega
theorem bld_err {L : List Str} {c : Int} (hc : Err L c) (a : Option Addr) (cap : Nat) (w : World) (hR : Reads w (.slice a L.length cap) (strs L)) (hsz : ∀ i, i < L.length → ln L i ≤ 281474976710656) :
    Calls Try.prog 16 #[.slice a L.length cap] w fun e w' => e = .returned (.tuple #[.pointer none, .int .i64 c]) ∧ Below w.heap.size w w' := by
  refine (bld_any L a cap w hR hsz).mono ?_
  rintro e w' ⟨hb, ⟨rfl, h⟩ | ⟨rfl, h1, h2⟩ | ⟨h1, h2, h3, p, rfl, _⟩⟩
  · rcases hc with ⟨rfl, _⟩ | ⟨_, k1, k2⟩
    · exact ⟨rfl, hb⟩
    · rcases h with h | ⟨_, h, _⟩
      · omega
      · exact absurd h k2
  · rcases hc with ⟨_, k | ⟨_, k, _⟩⟩ | ⟨rfl, _⟩
    · omega
    · exact absurd k h2
    · exact ⟨rfl, hb⟩
  · rcases hc with ⟨_, k | ⟨_, _, k⟩⟩ | ⟨_, _, k⟩
    · omega
    · omega
    · exact absurd h2 k
theorem rcheck_err {L : List Str} {c : Int} (hc : Err L c) (a : Option Addr) (cap : Nat) (w : World) (hR : Reads w (.slice a L.length cap) (strs L)) (hsz : ∀ i, i < L.length → ln L i ≤ 281474976710656) :
    Calls Try.prog 17 #[.slice a L.length cap] w fun e w' => e = .returned (.int .i64 c) ∧ Below w.heap.size w w' := by
  refine (rcheck_any L a cap w hR hsz).mono ?_
  rintro e w' ⟨hb, ⟨rfl, h⟩ | ⟨rfl, h1, h2⟩ | ⟨rfl, h1, h2, h3⟩⟩
  · rcases hc with ⟨rfl, _⟩ | ⟨_, k1, k2⟩
    · exact ⟨rfl, hb⟩
    · rcases h with h | ⟨_, h, _⟩
      · omega
      · exact absurd h k2
  · rcases hc with ⟨_, k | ⟨_, k, _⟩⟩ | ⟨rfl, _⟩
    · omega
    · exact absurd k h2
    · exact ⟨rfl, hb⟩
  · rcases hc with ⟨_, k | ⟨_, _, k⟩⟩ | ⟨_, _, k⟩
    · omega
    · omega
    · exact absurd h2 k
theorem rcheck_fits {L : List Str} (hf : Fits L) (a : Option Addr) (cap : Nat) (w : World) (hR : Reads w (.slice a L.length cap) (strs L)) :
    Calls Try.prog 17 #[.slice a L.length cap] w fun e w' => e = .returned (.int .i64 0) ∧ Below w.heap.size w w' := by
  refine (rcheck_any L a cap w hR hf.size).mono ?_
  rintro e w' ⟨hb, ⟨_, h⟩ | ⟨_, _, h⟩ | ⟨rfl, _, _, _⟩⟩
  · rcases h with h | ⟨_, _, h⟩
    · have := hf.few; omega
    · have := hf.cnt; omega
  · exact absurd hf.ok h
  · exact ⟨rfl, hb⟩
end Go.Proofs.Ytffljcfpofhkgaa.Lo

set_option linter.unusedVariables false
set_option linter.unusedSimpArgs false
set_option maxRecDepth 100000
namespace Go.Proofs.Ytffljcfpofhkgaa.Lo
open Go Go.RowKit Go.Proofs.Ytffljcfpofhkgaa.Kit Go.Proofs.Ytffljcfpofhkgaa.Bv Go.Proofs.Ytffljcfpofhkgaa.Pk

theorem sg_ins {L : List Str} {j : Nat} {s : Str} (hj : j ≤ L.length) (i : Nat) : sg (L.take j ++ s :: L.drop j) i = if i < j then sg L i else if i = j then s else sg L (i - 1) := by
  unfold sg
  rw [List.getD_eq_getElem?_getD, List.getElem?_append, List.length_take, Nat.min_eq_left hj]
  by_cases h : i < j
  · rw [if_pos h, if_pos h, List.getElem?_take, if_pos h, List.getD_eq_getElem?_getD]
  · rw [if_neg h, if_neg h]
    by_cases h2 : i = j
    · subst h2; rw [if_pos rfl, Nat.sub_self]; rfl
    · rw [if_neg h2, show i - j = (i - j - 1) + 1 by omega, List.getElem?_cons_succ, List.getElem?_drop, List.getD_eq_getElem?_getD]
      congr 2; omega
theorem ok_ins {L : List Str} (hL : Ok L) {j : Nat} {s : Str} (hj : j ≤ L.length) (h1 : 1 ≤ s.length) (h2 : s.length ≤ 256) (h3 : 0 < j → sg L (j - 1) < s) (h4 : ∀ k, j ≤ k → k < L.length → s < sg L k) : Ok (L.take j ++ s :: L.drop j) := by
  have hl : (L.take j ++ s :: L.drop j).length = L.length + 1 := by simp; omega
  refine ⟨fun i hi => ?_, fun i hi => ?_⟩
  · unfold ln
    rw [sg_ins hj]
    split
    · exact hL.1 i (by omega)
    · split
      · exact ⟨h1, h2⟩
      · exact hL.1 (i - 1) (by omega)
  · rw [sg_ins hj, sg_ins hj]
    rw [hl] at hi
    by_cases a1 : i + 1 < j
    · rw [if_pos (by omega), if_pos a1]; exact hL.2 i (by omega)
    · by_cases a2 : i + 1 = j
      · rw [if_pos (by omega), if_neg a1, if_pos a2]
        have := h3 (by omega)
        rwa [show j - 1 = i by omega] at this
      · by_cases a3 : i = j
        · rw [if_neg (by omega), if_pos a3, if_neg a1, if_neg a2, Nat.add_sub_cancel]
          exact h4 i (by omega) (by omega)
        · rw [if_neg (by omega), if_neg a3, if_neg a1, if_neg a2, Nat.add_sub_cancel]
          have := hL.2 (i - 1) (by omega)
          rwa [show i - 1 + 1 = i by omega] at this
theorem ok_fits {L : List Str} (hL : Ok L) (h : L.length ≤ 300) : Fits L := ⟨hL, by omega, by have := cntN_le L.length (okTo_all.2 hL); omega⟩

theorem own_open {w : World} {base e n cap : Nat} {a : Option Addr} {xs : List Value} (h : w.ownsRow base e 1 (.slice a (n + 1) cap) (n + 1) xs) :
    ∃ (g : Nat) (cur : List Value), a = some ⟨g, 0, none⟩ ∧ base ≤ g ∧ g < w.heap.size ∧ w.heap[g]? = some (.cells cur.toArray e (0, 0)) ∧ n + 1 ≤ cap ∧ cap ≤ maxLen ∧ cur.length = cap ∧ cur.take (n + 1) = xs := by
  rcases h.2 with ⟨e1, h1⟩ | ⟨g, c, cur, e1, hb, hg, hnc, hcm, hcs, htake⟩
  · omega
  · cases e1
    exact ⟨g, cur.toList, rfl, hb, (Array.getElem?_eq_some_iff.1 hg).1, by simpa using hg, hnc, hcm, by simpa using hcs, by simpa using htake⟩
theorem own_shut {w : World} {base e n cap g : Nat} {cur : List Value} (hb : base ≤ g) (hg : w.heap[g]? = some (.cells cur.toArray e (0, 0))) (h1 : n + 1 ≤ cap) (h2 : cap ≤ maxLen) (h3 : cur.length = cap) :
    w.ownsRow base e 1 (.slice (some ⟨g, 0, none⟩) (n + 1) cap) (n + 1) (cur.take (n + 1)) :=
  ⟨by simp; omega, .inr ⟨g, cap, cur.toArray, rfl, hb, hg, h1, h2, by simp [h3], by simp⟩⟩
theorem row_ins {X cur : List Value} {n j : Nat} {e : Value} (s : Value) (hX : X.length = n) (hj : j ≤ n) (hc : cur.take (n + 1) = X ++ [e]) : ((splice cur (j + 1) (X.drop j)).set j s).take (n + 1) = X.take j ++ s :: X.drop j := by
  obtain ⟨R, hR⟩ : ∃ R, cur = X ++ e :: R := ⟨cur.drop (n + 1), by conv => lhs; rw [← List.take_append_drop (n + 1) cur, hc]
                                                                   simp⟩
  obtain ⟨A, B, rfl, hA⟩ : ∃ A B, X = A ++ B ∧ A.length = j := ⟨X.take j, X.drop j, (List.take_append_drop j X).symm, by simp; omega⟩
  subst hA hX hR
  unfold splice
  have e1 : (A ++ B).take A.length = A := List.take_left
  have e2 : (A ++ B).drop A.length = B := List.drop_left
  rw [e1, e2]
  obtain ⟨h, t, ht⟩ : ∃ h t, B ++ e :: R = h :: t := by
    cases B with
    | nil => exact ⟨_, _, rfl⟩
    | cons b B => exact ⟨_, _, rfl⟩
  have e3 : (A ++ B ++ e :: R).take (A.length + 1) = A ++ [h] := by
    rw [List.append_assoc, ht, List.take_append, List.take_of_length_le (by omega), Nat.add_sub_cancel_left]; rfl
  rw [e3, List.append_assoc, List.set_append, if_neg (by omega), Nat.sub_self]
  simp only [List.cons_append, List.nil_append, List.set_cons_zero]
  rw [List.take_append, List.take_of_length_le (by simp; omega)]
  congr 1
  rw [List.length_append, show A.length + B.length + 1 - A.length = B.length + 1 by omega, List.take_succ_cons, List.take_left]
theorem strs_ins (L : List Str) (j : Nat) (s : Str) : strs (L.take j ++ s :: L.drop j) = (strs L).take j ++ .string (ba s) :: (strs L).drop j := by
  unfold strs
  rw [List.map_append, List.map_cons, List.map_take, List.map_drop]
/-- What Set leaves. -/
def SetP (w : World) (e : Ending) (w' : World) : Prop := ∃ (L : List Str) (a : Option Addr) (c : Nat), e = .returned (.slice a L.length c) ∧ Fits L ∧ L.length ≤ 300 ∧ w'.ownsRow w.heap.size 9 1 (.slice a L.length c) L.length (strs L) ∧ Below w.heap.size w w'

theorem less_lt (s p : Str) : Op.bytesLess (ba s).toList (ba p).toList = decide (s < p) := by rw [ba_to, ba_to]; exact bytesLess_lt s p
theorem more_gt (s p : Str) : (!Op.bytesLess (ba p).toList (ba s).toList && !(ba p).toList == (ba s).toList) = decide (s < p) := by
  rw [ba_to, ba_to]
  have := le_bool p s
  rw [← Bool.not_or, this, Bool.not_not]
theorem size_str : (Try.prog.info? 9).map (·.size) = some 1 := by kernel_rfl

theorem copy_to {w w5 : World} {g n j r c5 : Nat} {cur X : List Value} {e : Value} (hgb : w.heap.size ≤ g) (hb5 : Below w.heap.size w w5) (hgc : w5.heap[g]? = some (.cells cur.toArray 9 (0, 0))) (hcl : cur.length = c5) (htk : cur.take (n + 1) = X ++ [e]) (hXl : X.length = n) (hcm : c5 ≤ maxLen) (hj : j ≤ n) (hr : j + 1 = r) (hnc : n + 1 ≤ c5)
    (h1 : ∀ v ∈ X, v.oneCell' = true) :
    (¬ c5 = r → ∃ Y, (Builtin.copy_ #[22, 22] 3 #[.slice (some ⟨g, r, none⟩) (n + 1 - r) (c5 - r), .slice (some ⟨g, j, none⟩) (n + 1 - j) (c5 - j)]).run Try.prog w5.drew = .ok (.int .i64 ((n - j : Nat) : Int)) Y ∧
      Y.heap[g]? = some (.cells (splice cur r (X.drop j)).toArray 9 (0, 0)) ∧ Below w.heap.size w Y) ∧
    (c5 = r → ∃ Y, (Builtin.copy_ #[22, 22] 3 #[.slice (some ⟨g, 0, none⟩) 0 0, .slice (some ⟨g, j, none⟩) (n + 1 - j) (c5 - j)]).run Try.prog w5.drew = .ok (.int .i64 0) Y ∧
      Y.heap[g]? = some (.cells (splice cur r (X.drop j)).toArray 9 (0, 0)) ∧ Below w.heap.size w Y) := by
  have hgc2 : w5.drew.heap[g]? = some (.cells cur.toArray 9 (0, 0)) := hgc
  have hl : (X.drop j).length = n - j := by rw [List.length_drop, hXl]
  constructor
  · intro hne
    have hrun := run_copy_row (P := Try.prog) w5.drew 22 22 3 9 g r (n + 1 - r) (c5 - r) ⟨g, j, none⟩ (n + 1 - j) (c5 - j) cur.toArray 9 (X.drop j)
      Try.underlying22 size_str hgc2 (by rw [hl]; show n - j = min (n + 1 - j) (n + 1 - r); omega)
      (fun k v hk => by
        rw [Addr.add_lit, cell_of_row w5.drew g _ _ _ (0, 0) hgc2]
        rw [List.getElem?_drop] at hk
        have h1 : (X ++ [e])[j + k]? = some v := by
          rw [List.getElem?_append_left (List.getElem?_eq_some_iff.1 hk).1]; exact hk
        rw [← htk, List.getElem?_take] at h1
        split at h1
        · simpa using h1
        · cases h1)
      (by rw [hl]; simp; omega) (fun v hv => h1 v (List.mem_of_mem_drop hv))
    refine ⟨_, by rw [hrun, hl]; rfl, ?_, below_setRow hb5.drew hgb _⟩
    rw [setRow_heap _ g _ _ _ _ hgc2]
    unfold splice
    rw [List.append_assoc, hl]
  · intro he
    have hjn : j = n := by omega
    have hd : X.drop j = [] := List.drop_eq_nil_of_le (by omega)
    refine ⟨_, run_copy_none (P := Try.prog) w5.drew 22 22 3 9 (some ⟨g, 0, none⟩) (some ⟨g, j, none⟩) 0 0 (n + 1 - j) (c5 - j) Try.underlying22 size_str (by simp), ?_, hb5.drew⟩
    rw [hd, hgc2]
    simp [splice]
theorem ins_end {w Y : World} {g n j r c5 : Nat} {cur : List Value} {L : List Str} {s : Str} {e : Value} (hgb : w.heap.size ≤ g) (hX : Y.heap[g]? = some (.cells (splice cur r ((strs L).drop j)).toArray 9 (0, 0))) (hb : Below w.heap.size w Y) (hcl : cur.length = c5) (htk : cur.take (n + 1) = strs L ++ [e]) (hn : L.length = n) (hcm : c5 ≤ maxLen) (hj : j ≤ n) (hr : j + 1 = r) (hnc : n + 1 ≤ c5) :
    (∃ u, Y.cell? ⟨g, j, none⟩ = some u) ∧ Y.frozen? ⟨g, j, none⟩ = false ∧
    (Y.setCell ⟨g, j, none⟩ (.string (ba s))).ownsRow w.heap.size 9 1 (.slice (some ⟨g, 0, none⟩) (n + 1) c5) (L.take j ++ s :: L.drop j).length (strs (L.take j ++ s :: L.drop j)) ∧ Below w.heap.size w (Y.setCell ⟨g, j, none⟩ (.string (ba s))) := by
  subst hr
  have hlen : (L.take j ++ s :: L.drop j).length = n + 1 := by simp; omega
  have hsl : (splice cur (j + 1) ((strs L).drop j)).length = c5 := by rw [length_splice _ _ _ (by rw [List.length_drop, strs_len]; omega)]; exact hcl
  refine ⟨?_, by simp [World.frozen?, hX], ?_, ?_⟩
  · rw [cell_of_row Y g _ _ _ (0, 0) hX]
    exact ⟨_, by simp only [List.getElem?_toArray]; exact List.getElem?_eq_getElem (by omega)⟩
  · have h1 := own_shut (w := Y.setCell ⟨g, j, none⟩ (.string (ba s))) (e := 9) (n := n) (cap := c5) (cur := (splice cur (j + 1) ((strs L).drop j)).set j (.string (ba s))) hgb (by rw [heap_setCell_same Y g j _ _ _ hX]; simp) hnc hcm (by rw [List.length_set]; exact hsl)
    rw [row_ins (.string (ba s)) (by rw [strs_len, hn]) hj htk] at h1
    rw [strs_ins, hlen]
    exact h1
  · exact hb.setCell (p := ⟨g, j, none⟩) hgb _
theorem strs_one (L : List Str) : ∀ v ∈ strs L, v.oneCell' = true := by
  intro v hv
  unfold strs at hv
  obtain ⟨x, _, rfl⟩ := List.mem_map.1 hv
  rfl

set_option maxHeartbeats 8000000 in
theorem set_any (z : List Str) (a : Option Addr) (cap : Nat) (w : World) (hR : Reads w (.slice a z.length cap) (strs z)) (hsz : ∀ i, i < z.length → (sg z i).length ≤ 281474976710656) :
    Calls Try.prog 19 #[.slice a z.length cap] w (SetP w) := by
  have hlen := hR.len.2
  unfold maxLen at hlen
  have HR := Lib.hid (fun V (hV : Below w.heap.size w V) i (hi : i < z.length) => show ∃ b off, a = some ⟨b, off, none⟩ ∧ V.cell? ⟨b, off + i, none⟩ = some (.string (ba (sg z i))) by
    obtain ⟨b, off, e1, hb, hc⟩ := Reads.cell hR (strs_get hi)
    exact ⟨b, off, e1, by rw [hV.cell (p := ⟨b, off + i, none⟩) hb]; exact hc⟩)
  have HSZ := Lib.hid hsz
  obtain ⟨m, hmm⟩ : ∃ m, z.length = m := ⟨_, rfl⟩
  rw [hmm] at HR HSZ hlen ⊢
  obtain ⟨i0, hi0, hz0, hz1, hz2⟩ := info_parts info_str
  clear hR hmm hsz
  go_enter Try.func19, Try.ntmps19
  go_wp2
  go_loopw [3, 4] (fun v y wr => ∃ (i : Nat) (L : List Str), i ≤ m ∧ i ≤ 300 ∧ y = .int .i64 (i : Int) ∧ Hid (Ok L) ∧ L.length ≤ i ∧ wr.ownsRow w.heap.size 9 1 v L.length (strs L) ∧ Below w.heap.size w wr) (fun _ y _ => m - (intOf y).toNat)
  case atStart => exact ⟨0, [], Nat.zero_le _, Nat.zero_le _, rfl, Lib.hid ⟨fun i h => by simp at h, fun i h => by simp at h⟩, Nat.le_refl _, own_nil _ _ _ _, Below.refl _ _⟩
  case round =>
    obtain ⟨i, L, hi, hi3, rfl, hok, hLi, hown, hb⟩ := hrel
    obtain ⟨av, cv, rfl⟩ := own_slice hown
    have hbs := hb.size
    by_cases hlt : i < m
    · by_cases hlt3 : i < 300
      · obtain ⟨b, off, rfl, hcell⟩ := HR.out _ hb i hlt
        have HRI := Lib.hid (fun V hV => HR.out V hV i hlt)
        have hls := ba_size (sg z i)
        have hbig := HSZ.out i hlt
        have hiz : (0 : Int) ≤ (i : Int) := by omega
        have him : (i : Int) < (m : Int) := by omega
        have hi3z : (i : Int) < 300 := by omega
        have HOWN := Lib.hid hown
        clear hown
        by_cases h1 : 1 ≤ (sg z i).length
        · by_cases h2 : (sg z i).length ≤ 256
          · have HLS := Lib.hid (fun j => more_gt (sg z i) (sg L j))
            have HEQ := Lib.hid (fun j => ba_beq (sg L j) (sg z i))
            have HBL := Lib.hid (fun j => less_lt (sg L j) (sg z i))
            have H12 := Lib.hid (And.intro h1 h2)
            obtain ⟨s, hs⟩ : ∃ s, sg z i = s := ⟨_, rfl⟩
            obtain ⟨S, hS⟩ : ∃ S, ba s = S := ⟨_, rfl⟩
            have HSS := Lib.hid hS
            rw [hs] at hcell hls hbig h1 h2 HRI HLS HEQ HBL H12
            simp only [hS] at hcell hls HRI HLS HEQ HBL
            rw [← hls] at h1 h2 hbig
            have h1z : ¬ (S.size : Int) < 1 := by omega
            have h2z : ¬ (256 : Int) < (S.size : Int) := by omega
            clear hs hS hls h1 h2 hbig
            obtain ⟨n, hn⟩ : ∃ n, L.length = n := ⟨_, rfl⟩
            have HN := Lib.hid hn
            rw [hn] at hLi HOWN
            have HRL := Lib.hid (fun V (hV : Below wr.heap.size wr V) j (hj : j < n) => show ∃ b off, av = some ⟨b, off, none⟩ ∧ V.cell? ⟨b, off + j, none⟩ = some (.string (ba (sg L j))) by
              obtain ⟨b, off, e1, hb, hc⟩ := Reads.cell (own_reads (own_later HOWN.out hV)) (strs_get (L := L) (i := j) (by rw [HN.out]; exact hj))
              exact ⟨b, off, e1, hc⟩)
            rw [hn]
            clear hn
            have hnm : n ≤ 300 := by omega
            go_wp2
            go_loopw [5] (fun x W => ∃ j : Nat, j ≤ n ∧ x = .int .i64 (j : Int) ∧ Hid (∀ k, j ≤ k → k < n → s < sg L k) ∧ Below wr.heap.size wr W) (fun x _ => (intOf x).toNat)
            case atStart => exact ⟨n, Nat.le_refl _, rfl, Lib.hid (fun k h1 h2 => by omega), Below.refl _ _⟩
            case round =>
              obtain ⟨j, hj, rfl, hlast, hbW⟩ := hrel
              obtain ⟨b1, off1, e1, hcellW⟩ := HRI.out _ (hb.trans (hbW.mono hbs))
              cases e1
              have hbsW := hbW.size
              by_cases h0 : 0 < j
              · obtain ⟨q, hq⟩ : ∃ q, j - 1 = q := ⟨_, rfl⟩
                have hqn : q < n := by omega
                obtain ⟨b2, off2, rfl, hcell2⟩ := HRL.out _ hbW q hqn
                have hls2 := HLS.out q
                have heq2 := HEQ.out q
                have hji : (j : Int) - 1 = (q : Int) := by omega
                have hq0 : (0 : Int) ≤ (q : Int) := by omega
                have hqz : (q : Int) < (n : Int) := by omega
                have h0z : (0 : Int) < (j : Int) := by omega
                have hwq : IntKind.i64.wrap (q : Int) = (q : Int) := by rw [IntKind.wrap_i64]; omega
                have d3 : decide (0 < j) = true := decide_eq_true h0
                by_cases hless : s < sg L q
                · have HLA : Hid (∀ k, q ≤ k → k < n → s < sg L k) := Lib.hid (fun k k1 k2 => by
                    by_cases e : k = q
                    · subst e; exact hless
                    · exact hlast.out k (by omega) k2)
                  rw [decide_eq_true hless] at hls2
                  obtain ⟨P, hP⟩ : ∃ P, ba (sg L q) = P := ⟨_, rfl⟩
                  rw [hP] at hls2 hcell2
                  clear hP heq2 hless HLS HEQ HBL HRL hcell
                  go_wp2
                  go_quiet (fail)
                  go_wp2
                  go_roundw
                  case rel => exact ⟨q, by omega, by go_num, HLA, hbW.trans (below_drewN _ _ hbsW)⟩
                  case measure => simp [intOf]; omega
                · rw [decide_eq_false hless] at hls2
                  by_cases he : sg L q = s
                  · rw [decide_eq_true he] at heq2
                    obtain ⟨P, hP⟩ : ∃ P, ba (sg L q) = P := ⟨_, rfl⟩
                    rw [hP] at hls2 hcell2 heq2
                    clear hP he hless HLS HEQ HBL HRL hcell
                    have hcellW2 := hcellW
                    have HOW := Lib.hid (fun k => show (wr.drewN k).ownsRow w.heap.size 9 1 (.slice (some ⟨b2, off2, none⟩) n cv) L.length (strs L) from by rw [HN.out]; exact own_later HOWN.out (hbW.trans (below_drewN _ _ hbsW)))
                    have HBW := Lib.hid (fun k => show Below w.heap.size w (wr.drewN k) from hb.trans ((hbW.trans (below_drewN _ _ hbsW)).mono hbs))
                    have HLI : Hid (L.length ≤ i + 1) := Lib.hid (by rw [HN.out]; omega)
                    go_wp2
                    go_quiet (fail)
                    go_wp2
                    go_quiet (fail)
                    go_wp2
                    go_roundw
                    case rel => exact ⟨i + 1, L, by omega, by omega, by go_num, hok, HLI.out, HOW.out _, HBW.out _⟩
                    case measure => simp [intOf]; omega
                  · rw [decide_eq_false he] at heq2
                    have hlo : sg L q < s := by
                      rcases List.le_iff_lt_or_eq.1 (List.not_lt.1 hless) with h | h
                      · exact h
                      · exact absurd h he
                    have hbl := HBL.out q
                    rw [decide_eq_true hlo] at hbl
                    have HINS : Hid (Ok (L.take j ++ s :: L.drop j)) := Lib.hid (by
                      refine ok_ins hok.out (by rw [HN.out]; exact hj) H12.out.1 H12.out.2 (fun _ => ?_) (by rw [HN.out]; exact hlast.out)
                      rw [hq]
                      exact hlo)
                    obtain ⟨P, hP⟩ : ∃ P, ba (sg L q) = P := ⟨_, rfl⟩
                    rw [hP] at hls2 hcell2 heq2 hbl
                    clear hP he hless HLS HEQ HBL HRL hcell hls2 hlo
                    go_wp2
                    go_quiet (fail)
                    go_wp2
                    go_quiet (fail)
                    have HOW := Lib.hid (fun k => show (wr.drewN k).ownsRow w.heap.size 9 1 (.slice (some ⟨b2, off2, none⟩) n cv) n (strs L) from own_later HOWN.out (hbW.trans (below_drewN _ _ hbsW)))
                    have HBW := Lib.hid (fun k o => show Below w.heap.size w ((wr.drewN k).alloc o) from (hb.trans ((hbW.trans (below_drewN _ _ hbsW)).mono hbs)).alloc (Nat.le_trans hbs hbsW) _)
                    have hjz : (0 : Int) ≤ (j : Int) := by omega
                    have hjn : (j : Int) ≤ (n : Int) := by omega
                    go_wp2_with (at_builtin; refine wpList_append_own _ rfl _ _ _ rfl w.heap.size 9 i0 (.string { data := #[] }) 1 16 Try.underlying22 hi0 hz0 hz1 hz2 rfl (by decide) _ n (strs L) rfl ((HOW.out _).alloc _) ⟨_, 0, none⟩ 1 1 [.string { data := #[] }] rfl rfl (cell_one_new _ _ _) ?c2 ?c3 ?c4 ?c5 ?_)
                    case c2 => simp [Value.oneCell']
                    case c3 => unfold maxLen; omega
                    case c4 => omega
                    case c5 => exact (HBW.out _ _).size
                    intro v' w5 hown5 hg5 _
                    have hb5 := below_own (HBW.out _ _) ((HOW.out _).alloc _) (Nat.le_refl _) (HBW.out _ _).size hg5
                    clear hg5
                    obtain ⟨a5, c5, rfl⟩ := own_slice hown5
                    obtain ⟨g, cur, rfl, hgb, hgs, hgc, hnc, hcm, hcl, htk⟩ := own_open hown5
                    unfold maxLen at hcm
                    have HC5 := Lib.hid hgc
                    have HTK := Lib.hid htk
                    have HCL := Lib.hid hcl
                    clear hown5 hgc htk hcl
                    obtain ⟨r, hr⟩ : ∃ r, j + 1 = r := ⟨_, rfl⟩
                    have hjr : (j : Int) + 1 = (r : Int) := by omega
                    have hr0 : (0 : Int) ≤ (r : Int) := by omega
                    have hrn : (r : Int) ≤ (n : Int) + 1 := by omega
                    have hjn2 : (j : Int) ≤ (n : Int) + 1 := by omega
                    have hwr : IntKind.i64.wrap (r : Int) = (r : Int) := by rw [IntKind.wrap_i64]; omega
                    have hjc : ¬ c5 = j := by omega
                    have HSP := Lib.hid (copy_to (w := w) hgb hb5 HC5.out HCL.out HTK.out (by rw [strs_len, HN.out]) (by unfold maxLen; omega) hj hr hnc (strs_one L))
                    have HEND := Lib.hid (fun Y hY hbY => ins_end (s := s) (Y := Y) hgb hY hbY HCL.out HTK.out HN.out (by unfold maxLen; omega) hj hr hnc)
                    have HIL : Hid ((L.take j ++ s :: L.drop j).length ≤ i + 1) := Lib.hid (by simp; have := HN.out; omega)
                    by_cases hrc : c5 = r
                    · have hnr : n + 1 - r = 0 := by omega
                      obtain ⟨X, hcopy, hX, hbX⟩ := HSP.out.2 hrc
                      obtain ⟨⟨u, hcX⟩, hfX, hoX, hbX2⟩ := HEND.out X hX hbX
                      rw [HSS.out] at hoX hbX2
                      have HFIN := Lib.hid (And.intro hoX hbX2)
                      obtain ⟨b6, off6, e6, hcell6⟩ := HRI.out _ hbX
                      cases e6
                      clear hX hbX HSP HEND hoX hbX2 HC5
                      subst hrc
                      go_wp2
                      go_region
                      all_goals go_wp2
                      all_goals
                        go_roundw
                        case rel => exact ⟨i + 1, _, by omega, by omega, by go_num, HINS, HIL.out, HFIN.out.1, HFIN.out.2⟩
                        case measure => simp [intOf]; omega
                    · obtain ⟨X, hcopy, hX, hbX⟩ := HSP.out.1 hrc
                      obtain ⟨⟨u, hcX⟩, hfX, hoX, hbX2⟩ := HEND.out X hX hbX
                      rw [HSS.out] at hoX hbX2
                      have HFIN := Lib.hid (And.intro hoX hbX2)
                      obtain ⟨b6, off6, e6, hcell6⟩ := HRI.out _ hbX
                      cases e6
                      clear hX hbX HSP HEND hoX hbX2 HC5
                      go_wp2
                      go_region
                      all_goals go_wp2
                      all_goals
                        go_roundw
                        case rel => exact ⟨i + 1, _, by omega, by omega, by go_num, HINS, HIL.out, HFIN.out.1, HFIN.out.2⟩
                        case measure => simp [intOf]; omega
              · have d3 : decide (0 < j) = false := decide_eq_false h0
                have HINS : Hid (Ok (L.take j ++ s :: L.drop j)) := Lib.hid (ok_ins hok.out (by rw [HN.out]; exact hj) H12.out.1 H12.out.2 (fun h => absurd h h0) (by rw [HN.out]; exact hlast.out))
                clear HLS HEQ HBL HRL hcell h0
                go_wp2
                go_quiet (fail)
                go_wp2
                go_quiet (fail)
                clear d3
                have HOW := Lib.hid (fun k => show (wr.drewN k).ownsRow w.heap.size 9 1 (.slice av n cv) n (strs L) from own_later HOWN.out (hbW.trans (below_drewN _ _ hbsW)))
                have HBW := Lib.hid (fun k o => show Below w.heap.size w ((wr.drewN k).alloc o) from (hb.trans ((hbW.trans (below_drewN _ _ hbsW)).mono hbs)).alloc (Nat.le_trans hbs hbsW) _)
                have hjz : (0 : Int) ≤ (j : Int) := by omega
                have hjn : (j : Int) ≤ (n : Int) := by omega
                go_wp2_with (at_builtin; refine wpList_append_own _ rfl _ _ _ rfl w.heap.size 9 i0 (.string { data := #[] }) 1 16 Try.underlying22 hi0 hz0 hz1 hz2 rfl (by decide) _ n (strs L) rfl ((HOW.out _).alloc _) ⟨_, 0, none⟩ 1 1 [.string { data := #[] }] rfl rfl (cell_one_new _ _ _) ?c2 ?c3 ?c4 ?c5 ?_)
                case c2 => simp [Value.oneCell']
                case c3 => unfold maxLen; omega
                case c4 => omega
                case c5 => exact (HBW.out _ _).size
                intro v' w5 hown5 hg5 _
                have hb5 := below_own (HBW.out _ _) ((HOW.out _).alloc _) (Nat.le_refl _) (HBW.out _ _).size hg5
                clear hg5
                obtain ⟨a5, c5, rfl⟩ := own_slice hown5
                obtain ⟨g, cur, rfl, hgb, hgs, hgc, hnc, hcm, hcl, htk⟩ := own_open hown5
                unfold maxLen at hcm
                have HC5 := Lib.hid hgc
                have HTK := Lib.hid htk
                have HCL := Lib.hid hcl
                clear hown5 hgc htk hcl
                obtain ⟨r, hr⟩ : ∃ r, j + 1 = r := ⟨_, rfl⟩
                have hjr : (j : Int) + 1 = (r : Int) := by omega
                have hr0 : (0 : Int) ≤ (r : Int) := by omega
                have hrn : (r : Int) ≤ (n : Int) + 1 := by omega
                have hjn2 : (j : Int) ≤ (n : Int) + 1 := by omega
                have hwr : IntKind.i64.wrap (r : Int) = (r : Int) := by rw [IntKind.wrap_i64]; omega
                have hjc : ¬ c5 = j := by omega
                have HSP := Lib.hid (copy_to (w := w) hgb hb5 HC5.out HCL.out HTK.out (by rw [strs_len, HN.out]) (by unfold maxLen; omega) hj hr hnc (strs_one L))
                have HEND := Lib.hid (fun Y hY hbY => ins_end (s := s) (Y := Y) hgb hY hbY HCL.out HTK.out HN.out (by unfold maxLen; omega) hj hr hnc)
                have HIL : Hid ((L.take j ++ s :: L.drop j).length ≤ i + 1) := Lib.hid (by simp; have := HN.out; omega)
                by_cases hrc : c5 = r
                · have hnr : n + 1 - r = 0 := by omega
                  obtain ⟨X, hcopy, hX, hbX⟩ := HSP.out.2 hrc
                  obtain ⟨⟨u, hcX⟩, hfX, hoX, hbX2⟩ := HEND.out X hX hbX
                  rw [HSS.out] at hoX hbX2
                  have HFIN := Lib.hid (And.intro hoX hbX2)
                  obtain ⟨b6, off6, e6, hcell6⟩ := HRI.out _ hbX
                  cases e6
                  clear hX hbX HSP HEND hoX hbX2 HC5
                  subst hrc
                  go_wp2
                  go_region
                  all_goals go_wp2
                  all_goals
                    go_roundw
                    case rel => exact ⟨i + 1, _, by omega, by omega, by go_num, HINS, HIL.out, HFIN.out.1, HFIN.out.2⟩
                    case measure => simp [intOf]; omega
                · obtain ⟨X, hcopy, hX, hbX⟩ := HSP.out.1 hrc
                  obtain ⟨⟨u, hcX⟩, hfX, hoX, hbX2⟩ := HEND.out X hX hbX
                  rw [HSS.out] at hoX hbX2
                  have HFIN := Lib.hid (And.intro hoX hbX2)
                  obtain ⟨b6, off6, e6, hcell6⟩ := HRI.out _ hbX
                  cases e6
                  clear hX hbX HSP HEND hoX hbX2 HC5
                  go_wp2
                  go_region
                  all_goals go_wp2
                  all_goals
                    go_roundw
                    case rel => exact ⟨i + 1, _, by omega, by omega, by go_num, HINS, HIL.out, HFIN.out.1, HFIN.out.2⟩
                    case measure => simp [intOf]; omega
          · have HLI : Hid (L.length ≤ i + 1) := Lib.hid (by omega)
            obtain ⟨S, hS⟩ : ∃ S, ba (sg z i) = S := ⟨_, rfl⟩
            rw [hS] at hcell hls
            rw [← hls] at h1 h2
            have h1z : ¬ (S.size : Int) < 1 := by omega
            have h2z : (256 : Int) < (S.size : Int) := by omega
            have hbz : S.size ≤ 281474976710656 := by omega
            clear hS hls h1 h2 hbig
            go_wp2
            go_roundw
            case rel => exact ⟨i + 1, L, by omega, by omega, by go_num, hok, HLI.out, HOWN.out, hb⟩
            case measure => simp [intOf]; omega
        · have HLI : Hid (L.length ≤ i + 1) := Lib.hid (by omega)
          obtain ⟨S, hS⟩ : ∃ S, ba (sg z i) = S := ⟨_, rfl⟩
          rw [hS] at hcell hls
          rw [← hls] at h1
          have h1z : (S.size : Int) < 1 := by omega
          clear hS hls h1 hbig
          go_wp2
          go_roundw
          case rel => exact ⟨i + 1, L, by omega, by omega, by go_num, hok, HLI.out, HOWN.out, hb⟩
          case measure => simp [intOf]; omega
      · have him : (i : Int) < (m : Int) := by omega
        have hi3z : ¬ (i : Int) < 300 := by omega
        have HP : Hid (SetP w (.returned (.slice av L.length cv)) wr) := Lib.hid ⟨L, av, cv, rfl, ok_fits hok.out (by omega), by omega, hown, hb⟩
        clear hown
        go_wp2
        go_ret
        exact HP.out
    · have him : ¬ (i : Int) < (m : Int) := by omega
      have HP : Hid (SetP w (.returned (.slice av L.length cv)) wr) := Lib.hid ⟨L, av, cv, rfl, ok_fits hok.out (by omega), by omega, hown, hb⟩
      clear hown
      go_wp2
      go_ret
      exact HP.out
end Go.Proofs.Ytffljcfpofhkgaa.Lo

set_option linter.unusedVariables false
set_option linter.unusedSimpArgs false
set_option maxRecDepth 100000
namespace Go.Proofs.Ytffljcfpofhkgaa.Lo
open Go Go.RowKit Go.ChangeShapes Go.WideShapes Go.Proofs.Ytffljcfpofhkgaa.Kit Go.Proofs.Ytffljcfpofhkgaa.Bv

section
variable {H : Type} {enc : TypeId × Value → H} {w : World} {base : Nat} {held : Bool}
/-- The strings that a datum is. -/
def StrsOf (d : DataW H) (z : List Str) : Prop := (d = .nil ∧ z = []) ∨ ∃ sp, d = .slice (z.map fun s => .lit (.string s)) sp
theorem strs_open {a : Option Addr} {len cap : Nat} {fuel : Nat} {x : DataW H × List MemPlace}
    (h : DataW.trod enc Try.prog w base (fun _ => true) held fuel 22 (Value.cells (.slice a len cap)).toList = some x) : ∃ z : List Str, Reads w (.slice a len cap) (Lo.strs z) ∧ z.length = len ∧ StrsOf x.1 z := by
  rcases Go.Deep.open_strs Try.underlying22 Try.underlying9 (by kernel_rfl) h with ⟨hcs, hx⟩ | ⟨y, l, c, m, Sx, hcs, _, hl, hm, hmm, hx, hcell⟩
  · simp [Value.cells] at hcs
    obtain ⟨rfl, rfl, rfl⟩ := hcs
    exact ⟨[], ⟨none, 0, 0, rfl, rfl, Nat.le_refl _, Nat.zero_le _, .inl ⟨rfl, rfl, rfl⟩⟩, rfl, .inl ⟨by rw [hx], rfl⟩⟩
  · simp [Value.cells] at hcs
    obtain ⟨rfl, rfl, rfl⟩ := hcs
    simp only [if_true] at hmm
    subst hmm
    refine ⟨(List.range len).map fun i => (Sx i).data.toList, ⟨some y, len, m, rfl, by simp [Lo.strs], hl, hm, ?_⟩, by simp, .inr ⟨_, by rw [hx, List.map_map]; rfl⟩⟩
    by_cases h0 : len = 0
    · exact .inr (.inl ⟨y, rfl, h0⟩)
    · obtain ⟨b, off, spot⟩ := y
      have h1 := (hcell 0 (by omega)).1
      have hspot : spot = none := by simpa [Addr.add] using World.cell?_spot h1
      subst hspot
      refine .inr (.inr ⟨b, off, rfl, World.block_lt_of_cell? w _ h1, fun i u hi => ?_⟩)
      unfold Lo.strs at hi
      rw [List.getElem?_map, List.getElem?_map] at hi
      by_cases hil : i < len
      · rw [List.getElem?_range hil] at hi
        simp only [Option.map_some, Option.some.injEq] at hi
        have h2 := (hcell i (by omega)).1
        rw [Addr.add_lit] at h2
        rw [h2, ← hi]
        rfl
      · rw [List.getElem?_eq_none (by simp; omega)] at hi
        cases hi
theorem weights_mem {P : Program} {e : TypeId} : ∀ (z : List Str) (s : Str), s ∈ z → s.length ∈ DataW.weightsAll P e (z.map fun s => (.lit (.string s) : DataW H))
  | [], _, h => by cases h
  | t :: z, s, h => by
    simp only [List.map_cons, DataW.weightsAll, DataW.weights, List.mem_append, List.mem_cons]
    rcases List.mem_cons.1 h with rfl | h
    · exact .inl (.inl rfl)
    · exact .inr (weights_mem z s h)
theorem sized_strs {ts : List TypeId} {ds : List (DataW H)} (h : (DataW.weightsEach Try.prog ts ds).all (· ≤ reachBytes) = true) {j : Nat} {d : DataW H} {z : List Str} (ht : ts[j]? = some 22) (hd : ds[j]? = some d) (hz : StrsOf d z) :
    ∀ i, i < z.length → (sg z i).length ≤ 281474976710656 := by
  intro i hi
  rcases hz with ⟨_, rfl⟩ | ⟨sp, rfl⟩
  · simp at hi
  · have h1 : (sg z i) ∈ z := by
      unfold sg
      rw [List.getD_eq_getElem?_getD, List.getElem?_eq_getElem hi]
      exact List.getElem_mem hi
    have := List.all_eq_true.1 h _ (DataW.weights_mem_each ht hd (sg z i).length (by
      simp only [DataW.weights, Try.underlying22, List.mem_cons, List.mem_append]
      exact .inr (.inl (weights_mem z _ h1))))
    have h2 : (sg z i).length ≤ reachBytes := by simpa using this
    unfold reachBytes at h2
    omega
end
end Go.Proofs.Ytffljcfpofhkgaa.Lo
