/-
  Joined texts: AutRf, AutRg, AutRs, CmpRg, CmpRh.
-/
import Derived.Test.YtamdlbefiggkfaaGreatM16
import Derived.Deep.RegionHeld3
import Derived.Test.YtamdlbefiggkfaaGreatM11
import Derived.Deep.RegionLaw
import Derived.Test.YtamdlbefiggkfaaGreatM10
set_option linter.unusedVariables false
set_option linter.unusedSimpArgs false
set_option maxRecDepth 100000
namespace Go.Proofs.YtamdlbefiggkfaaGreat.Aut
open Go Go.RowKit Go.Proofs.YtamdlbefiggkfaaGreat.Kit Go.Proofs.YtamdlbefiggkfaaGreat.Utf Go.Proofs.YtamdlbefiggkfaaGreat.Rom

set_option maxHeartbeats 4000000 in
theorem begin_any (v : Value) (rs : List Rule) (s : ByteArray) (w : World) (hR : RowR w v rs) (hs : s.size ≤ 1000000) :
    Calls Tryz.prog 87 #[v, .string s] w fun e w' => e = .returned (.tuple #[ragg ((best rs (bs s)).getD noRule), .bool (best rs (bs s)).isSome]) ∧ Below w.heap.size w w' := by
  have HR := Lib.hid hR
  have HF := Lib.hid (fun (x : ByteArray) W (h : RowR W v rs) => rfind_any v rs x W h)
  have hbst : bestN rs (bs s) s.size = best rs (bs s) := by unfold best; rw [bs_len]
  obtain ⟨T, hT⟩ : ∃ T, best rs (bs s) = T := ⟨_, rfl⟩
  rw [hT] at hbst ⊢
  clear hT
  clear hR
  go_enter Tryz.func87, Tryz.ntmps87
  go_wp2
  have e0 := heap_alloc_new w (Obj.cells #[.string { data := #[] }, .string { data := #[] }, .string { data := #[] }] 90)
  obtain ⟨W, hW⟩ : ∃ W, w.alloc (Obj.cells #[.string { data := #[] }, .string { data := #[] }, .string { data := #[] }] 90) = W := ⟨_, rfl⟩
  have hb0 : Below w.heap.size w W := by rw [← hW]; exact (Below.refl _ _).alloc (Nat.le_refl _) _
  have hsz : W.heap.size = w.heap.size + 1 := by rw [← hW]; simp
  rw [hW] at e0 ⊢
  have HV := Lib.hid (Var3.of e0)
  have HR2 := Lib.hid (HR.out.later hb0 (Nat.le_refl _))
  clear hW e0
  go_loopw [6] (fun i wr => ∃ n : Nat, i = .int .i64 n ∧ n ≤ s.size ∧ Hid (bestN rs (bs s) s.size = bestN rs (bs s) n) ∧ Below W.heap.size W wr) (fun i _ => (intOf i).toNat)
  case atStart => exact ⟨s.size, rfl, Nat.le_refl _, Lib.hid rfl, Below.refl _ _⟩
  case round =>
    obtain ⟨n, rfl, hn, hbn, hbw⟩ := hrel
    have hws := hbw.size
    have hv := HV.out.later hbw (by omega)
    have v0 := hv.z0
    have v1 := hv.z1
    have v2 := hv.z2
    have v3 := hv.y
    by_cases hn0 : 0 < n
    · have k0 : (0 : Int) < n := by omega
      have k1 : (n : Int) ≤ s.size := by omega
      have HFR := Lib.hid (HF.out (s.extract 0 n) wr (HR2.out.later hbw (Nat.le_refl _)))
      have hstep : bestN rs (bs s) n = if (findL rs (s.extract 0 n)).2 then some (findL rs (s.extract 0 n)).1 else bestN rs (bs s) (n - 1) := by
        obtain ⟨m, rfl⟩ : ∃ m, n = m + 1 := ⟨n - 1, by omega⟩
        conv => lhs; unfold bestN
        rw [← ext_take]
        rfl
      obtain ⟨F, hF⟩ : ∃ F, (findL rs (s.extract 0 n)).1 = F := ⟨_, rfl⟩
      obtain ⟨ok, hok⟩ : ∃ ok, (findL rs (s.extract 0 n)).2 = ok := ⟨_, rfl⟩
      rw [hF, hok] at HFR hstep
      have HST := Lib.hid hstep
      have HB := Lib.hid hbst
      clear hF hok hstep hbst
      cases ok
      · go_wp2_with (go_at_call 105; (with_reducible refine HFR.out.mono ?_); rintro e w3 ⟨rfl, hb3⟩; unfold ragg)
        go_roundw
        case rel => exact ⟨n - 1, by go_num, by omega, Lib.hid (by rw [hbn.out, HST.out]; rfl), (hbw.trans (hb3.mono hws)).alloc (by have := hb3.size; omega) _⟩
        case measure => simp [intOf]; omega
      · obtain rfl : T = some F := by rw [← HB.out, hbn.out, HST.out]; rfl
        go_wp2_with (go_at_call 105; (with_reducible refine HFR.out.mono ?_); rintro e w3 ⟨rfl, hb3⟩; unfold ragg; have hv3 := hv.later hb3 (by omega); have u0 := hv3.z0; have u1 := hv3.z1; have u2 := hv3.z2; have u3 := hv3.y; have hws3 := hb3.size; have hgw : w.heap.size < w3.heap.size := (by omega); have hv4 := hv3.later ((Below.refl w3.heap.size w3).alloc (Nat.le_refl _) (Obj.cells #[.string F.k, .string F.o, .string F.n] 90)) hgw)
        (try simp only [Exit.inBlock, Exit.then])
        obtain ⟨q0, q1, q2⟩ := hv3.set F
        have hbs := below_set3 (hb0.trans ((hbw.trans (hb3.mono hws)).mono hb0.size)) (Nat.le_refl w.heap.size) (.string F.k) (.string F.o) (.string F.n)
        have hzz : w.heap.size < (((w3.setCell ⟨w.heap.size, 0, none⟩ (.string F.k)).setCell ⟨w.heap.size, 1, none⟩ (.string F.o)).setCell ⟨w.heap.size, 2, none⟩ (.string F.n)).heap.size := by simp; exact hgw
        refine bodyPost_ret (v := .tuple #[ragg F, .bool true]) ?_ rfl ⟨rfl, hbs.alloc hbs.size _⟩
        rw [results_cell_tmp rfl]
        generalize (((w3.setCell ⟨w.heap.size, 0, none⟩ (.string F.k)).setCell ⟨w.heap.size, 1, none⟩ (.string F.o)).setCell ⟨w.heap.size, 2, none⟩ (.string F.n)) = V at *
        have hba := (Below.refl V.heap.size V).alloc (Nat.le_refl _) (Obj.cells #[.string F.k, .string F.o, .string F.n] 90)
        show ((loadVar 90 ⟨w.heap.size, 0, none⟩).run Tryz.prog _).andThen _ = _
        erw [load_rrule (r := F) ((hba.cell (p := ⟨w.heap.size, 0, none⟩) hzz).trans q0) ((hba.cell (p := ⟨w.heap.size, 1, none⟩) hzz).trans q1) ((hba.cell (p := ⟨w.heap.size, 2, none⟩) hzz).trans q2)]
        rfl
    · obtain rfl : n = 0 := by omega
      obtain rfl : T = none := by rw [← hbst, hbn.out]; rfl
      go_wp2
      (try simp only [Exit.inBlock, Exit.then])
      refine bodyPost_ret (v := .tuple #[ragg noRule, .bool false]) ?_ rfl ⟨rfl, below_set3 (hb0.trans (hbw.mono hb0.size)) (Nat.le_refl _) _ _ _⟩
      rw [results_cell_tmp rfl]
      obtain ⟨q0, q1, q2⟩ := hv.set noRule
      show ((loadVar 90 ⟨w.heap.size, 0, none⟩).run Tryz.prog _).andThen _ = _
      erw [load_rrule (r := noRule) q0 q1 q2]
      rfl

theorem rapply_any (v : Value) (rs : List Rule) (s : ByteArray) (w : World) (hR : RowR w v rs) (hs : s.size ≤ 1000000) (h0 : 0 < s.size) (hsh : ∀ r ∈ rs, Short r) :
    Calls Tryz.prog 72 #[v, .string s] w fun e w' => e = .returned (.tuple #[.string (ba (appO rs (bs s))), .string (ba (appK rs (bs s)))]) ∧ Below w.heap.size w w' := by
  have HB := Lib.hid (begin_any v rs s w hR hs)
  have k1 : (1 : Int) ≤ s.size := by omega
  cases hb : best rs (bs s) with
  | none =>
    have e1 : ba (appO rs (bs s)) = s.extract 0 1 := by unfold appO; rw [hb, ext_take]
    have e2 : ba (appK rs (bs s)) = s.extract 1 s.size := by unfold appK; rw [hb, ext_drop]
    rw [hb] at HB
    simp only [Option.getD_none, Option.isSome_none] at HB
    rw [e1, e2]
    clear hb e1 e2
    go_enter Tryz.func72, Tryz.ntmps72
    go_wp2_with (go_at_call 87; (with_reducible refine HB.out.mono ?_); rintro e w1 ⟨rfl, hb1⟩; unfold ragg)
    go_region
    go_wp2
    go_ret2
    exact ⟨rfl, (hb1.alloc hb1.size _).drew⟩
  | some r =>
    obtain ⟨hrm, hk1, hk2, hk3⟩ := best_some hb
    rw [bs_len] at hk2
    have hr := hsh r hrm
    have e1 : ba (appO rs (bs s)) = r.o := by unfold appO; rw [hb]; exact ba_bs _
    have e2 : ba (appK rs (bs s)) = r.n ++ s.extract r.k.size s.size := by unfold appK; rw [hb, ext_drop]; exact (ba_app _ _).trans (by rw [ba_bs])
    rw [hb] at HB
    simp only [Option.getD_some, Option.isSome_some] at HB
    rw [e1, e2]
    have hes : (s.extract r.k.size s.size).size ≤ s.size := by rw [ByteArray.size_extract]; omega
    have hsum : ¬ 9223372036854775807 < r.n.size + (s.extract r.k.size s.size).size := by have := hr.2.2; omega
    have n0 : (0 : Int) ≤ r.k.size := by omega
    have n1 : (r.k.size : Int) ≤ s.size := by omega
    clear hb e1 e2 hrm hk3 hr hsh
    go_enter Tryz.func72, Tryz.ntmps72
    go_wp2_with (go_at_call 87; (with_reducible refine HB.out.mono ?_); rintro e w1 ⟨rfl, hb1⟩; unfold ragg)
    go_region
    go_wp2
    go_ret2
    exact ⟨rfl, (hb1.alloc hb1.size _).drew⟩

end Go.Proofs.YtamdlbefiggkfaaGreat.Aut

set_option linter.unusedVariables false
set_option linter.unusedSimpArgs false
set_option maxRecDepth 100000
namespace Go.Proofs.YtamdlbefiggkfaaGreat.Aut
open Go Go.RowKit Go.Proofs.YtamdlbefiggkfaaGreat.Kit Go.Proofs.YtamdlbefiggkfaaGreat.Utf Go.Proofs.YtamdlbefiggkfaaGreat.Rom

theorem feed_meas {p k : Nat} {p' k' : Nat} (h : (p' + k' = p + k ∧ k' < k) ∨ (p' + k' < p + k)) : (p' + k') * (p' + k' + 1) + k' < (p + k) * (p + k + 1) + k := by
  rcases h with ⟨h1, h2⟩ | h
  · rw [h1]; omega
  · have h1 : (p' + k') * (p' + k' + 1) + (p' + k') ≤ (p + k) * (p + k + 1) := by
      obtain ⟨T, hT⟩ : ∃ T, p + k = T + 1 := ⟨p + k - 1, by omega⟩
      have h2 : p' + k' ≤ T := by omega
      have h3 : (p' + k') * (p' + k' + 1) ≤ T * (T + 1) := Nat.mul_le_mul h2 (by omega)
      rw [hT]
      have h4 : (T + 1) * (T + 1 + 1) = T * (T + 1) + (T + 1) + (T + 1) := by
        rw [Nat.add_mul, Nat.one_mul, Nat.mul_add T (T + 1) 1, Nat.mul_one]; omega
      omega
    have h5 : k' ≤ p' + k' := by omega
    by_cases hk : k = 0
    · subst hk
      by_cases hk' : p' + k' = 0
      · have : k' = 0 := by omega
        subst this
        have : p' = 0 := by omega
        subst this
        have : 0 < p := by omega
        simp
        exact this
      · have : k' < p' + k' ∨ p' = 0 := by omega
        rcases this with h6 | h6
        · omega
        · subst h6
          obtain ⟨T, hT⟩ : ∃ T, p + 0 = T + 1 := ⟨p - 1, by omega⟩
          have h2 : 0 + k' ≤ T := by omega
          have h3 : (0 + k') * (0 + k' + 1) ≤ T * (T + 1) := Nat.mul_le_mul h2 (by omega)
          have h4 : (T + 1) * (T + 1 + 1) = T * (T + 1) + (T + 1) + (T + 1) := by
            rw [Nat.add_mul, Nat.one_mul, Nat.mul_add T (T + 1) 1, Nat.mul_one]; omega
          rw [hT]
          omega
    · omega
/-- The measure of feeding, of the slots of pending and keys. -/
def fmeas (a b : Value) : Nat := (strLen a + strLen b) * (strLen a + strLen b + 1) + strLen b

set_option maxHeartbeats 8000000 in
theorem rfeed_any (v : Value) (rs : List Rule) (p ks : ByteArray) (w : World) (hR : RowR w v rs) (hok : okL rs = true) (hsh : ∀ r ∈ rs, Short r) (hs : p.size + ks.size ≤ 60000) :
    Calls Tryz.prog 68 #[v, .string p, .string ks] w fun e w' => e = .returned (.tuple #[.string (ba (fd rs (bs p) (bs ks)).1), .string (ba (fd rs (bs p) (bs ks)).2)]) ∧ Below w.heap.size w w' := by
  have HR := Lib.hid hR
  have HLG : Hid (∀ (x : ByteArray) W, Below w.heap.size w W → x.size ≤ 1048576 → Calls Tryz.prog 85 #[v, .string x] W fun e w' => e = .returned (.bool (longL rs x)) ∧ w' = W) := Lib.hid fun x W hW hx => rlonger_any v rs x W (HR.out.later hW (Nat.le_refl _)) hx hsh
  have HAP : Hid (∀ (x : ByteArray) W, Below w.heap.size w W → x.size ≤ 1000000 → 0 < x.size → Calls Tryz.prog 72 #[v, .string x] W fun e w' => e = .returned (.tuple #[.string (ba (appO rs (bs x))), .string (ba (appK rs (bs x)))]) ∧ Below W.heap.size W w') := Lib.hid fun x W hW hx h0 => rapply_any v rs x W (HR.out.later hW (Nat.le_refl _)) hx h0 hsh
  clear hR hsh
  go_enter Tryz.func68, Tryz.ntmps68
  go_wp2
  go_loopw [1, 2, 8] (fun vp vk vo wr => ∃ q k o : By, vp = .string (ba q) ∧ vk = .string (ba k) ∧ vo = .string (ba o) ∧ o.length + 16 * (q.length + k.length) ≤ 16 * (p.size + ks.size) ∧ Hid (∀ o2 q2, Feeds rs q k o2 q2 → Feeds rs (bs p) (bs ks) (o ++ o2) q2) ∧ Below w.heap.size w wr) (fun vp vk _ _ => fmeas vp vk)
  case atStart => exact ⟨bs p, bs ks, [], by rw [ba_bs], by rw [ba_bs], rfl, by rw [bs_len, bs_len]; simp, Lib.hid (fun o2 q2 h => h), Below.refl _ _⟩
  case round =>
    obtain ⟨q, k, o, rfl, rfl, rfl, hl, hf, hbw⟩ := hrel
    have hws := hbw.size
    cases k with
    | nil =>
      have he : (ba []).toList.isEmpty = true := by rw [Lib.toList_data]; rfl
      have hfin := Lib.hid (hf.out [] q (.nil q)).fd
      rw [List.append_nil] at hfin
      go_wp2
      go_ret2
      exact ⟨by rw [hfin.out]; rfl, hbw⟩
    | cons c k =>
      have he : (ba (c :: k)).toList.isEmpty = false := by rw [Lib.toList_data]; rfl
      rw [List.length_cons] at hl
      have hqs : (ba q).size = q.length := ba_size _
      have hcs : (ba (c :: k)).size = k.length + 1 := by rw [ba_size]; rfl
      have x1 : (ba (c :: k)).extract 0 1 = ba [c] := by rw [ext_take, bs_ba]; rfl
      have x2 : (ba (c :: k)).extract 1 (k.length + 1) = ba k := by rw [← hcs, ext_drop, bs_ba]; rfl
      have hS : ba q ++ (ba (c :: k)).extract 0 1 = ba (q ++ [c]) := by rw [x1, ba_app]
      have hSz : (ba q ++ (ba (c :: k)).extract 0 1).size = q.length + 1 := by rw [hS, ba_size]; simp
      have hez : ((ba (c :: k)).extract 0 1).size = 1 := by rw [x1, ba_size]; rfl
      have hsum : ¬ 9223372036854775807 < (ba q).size + ((ba (c :: k)).extract 0 1).size := by omega
      have n1 : (1 : Int) ≤ (ba (c :: k)).size := by omega
      have HL := Lib.hid (HLG.out (ba q ++ (ba (c :: k)).extract 0 1) wr hbw (by omega))
      have HA := Lib.hid (HAP.out (ba q ++ (ba (c :: k)).extract 0 1) wr hbw (by omega) (by omega))
      rw [hS, bs_ba] at HA
      rw [← hS] at HA
      obtain ⟨lg, hlg⟩ : ∃ lg, longL rs (ba q ++ (ba (c :: k)).extract 0 1) = lg := ⟨_, rfl⟩
      rw [hlg] at HL
      have hlg2 : longL rs (ba (q ++ [c])) = lg := by rw [← hS]; exact hlg
      have HS := Lib.hid hS
      have X2 := Lib.hid x2
      have HG := Lib.hid hlg2
      clear hlg hlg2 hS hSz x1 x2
      cases lg
      · have hao := appO_len hok (rs := rs) (q ++ [c])
        have hak := appK_len hok (rs := rs) (s := q ++ [c]) (by simp)
        rw [List.length_append, List.length_singleton] at hak
        have hos : (ba o).size = o.length := ba_size _
        have has : (ba (appO rs (q ++ [c]))).size = (appO rs (q ++ [c])).length := ba_size _
        have hks : (ba (appK rs (q ++ [c]))).size = (appK rs (q ++ [c])).length := ba_size _
        have hx2s : ((ba (c :: k)).extract 1 (k.length + 1)).size = k.length := by rw [X2.out, ba_size]
        have hsum2 : ¬ 9223372036854775807 < (ba o).size + (ba (appO rs (q ++ [c]))).size := by omega
        have hsum3 : ¬ 9223372036854775807 < (ba (appK rs (q ++ [c]))).size + ((ba (c :: k)).extract 1 (k.length + 1)).size := by omega
        go_wp2_with (first
          | (go_at_call 85; (with_reducible refine HL.out.mono ?_); rintro e w1 ⟨rfl, hw1⟩; obtain rfl := hw1.symm)
          | (go_at_call 72; (with_reducible refine HA.out.mono ?_); rintro e w2 ⟨rfl, hb2⟩))
        go_roundw
        case rel =>
          refine ⟨[], appK rs (q ++ [c]) ++ k, o ++ appO rs (q ++ [c]), rfl, by rw [X2.out, ba_app], by rw [ba_app], ?_, ?_, hbw.trans (hb2.mono hws)⟩
          · simp only [List.length_append, List.length_nil]; omega
          · refine Lib.hid fun o2 q2 h => ?_
            rw [List.append_assoc]
            exact hf.out _ _ (.app HG.out h)
        case measure =>
          unfold fmeas
          rw [strLen_mk, strLen_mk, strLen_mk, strLen_mk]
          refine feed_meas (.inr ?_)
          rw [ByteArray.size_append, hx2s, hks, hqs, hcs]
          show (0 + _ : Nat) < _
          omega
      · go_wp2_with (go_at_call 85; (with_reducible refine HL.out.mono ?_); rintro e w1 ⟨rfl, hw1⟩; obtain rfl := hw1.symm)
        go_roundw
        case rel =>
          refine ⟨q ++ [c], k, o, by rw [HS.out], by rw [X2.out], rfl, ?_, ?_, hbw⟩
          · rw [List.length_append, List.length_singleton]; omega
          · exact Lib.hid fun o2 q2 h => hf.out _ _ (.wait HG.out h)
        case measure =>
          unfold fmeas
          rw [strLen_mk, strLen_mk, strLen_mk, strLen_mk]
          refine feed_meas (.inl ?_)
          rw [HS.out, X2.out, ba_size, ba_size, ba_size, ba_size, List.length_append]
          simp only [List.length_cons, List.length_nil]
          omega

set_option maxHeartbeats 4000000 in
theorem rflush_any (v : Value) (rs : List Rule) (p : ByteArray) (w : World) (hR : RowR w v rs) (hok : okL rs = true) (hsh : ∀ r ∈ rs, Short r) (hs : p.size ≤ 50000) :
    Calls Tryz.prog 46 #[v, .string p] w fun e w' => ∃ F, e = .returned (.string (ba F)) ∧ Flushes rs (keysOf (bs p)) F ∧ Below w.heap.size w w' := by
  have HR := Lib.hid hR
  have hkl := keysOf_le (bs p)
  rw [bs_len] at hkl
  have HK := Lib.hid (fun W => rkeys_any p W (by omega))
  obtain ⟨K, hK⟩ : ∃ K, keysOf (bs p) = K := ⟨_, rfl⟩
  rw [hK] at HK hkl ⊢
  have HAP : Hid (∀ (x : ByteArray) W, Below w.heap.size w W → x.size ≤ 1000000 → 0 < x.size → Calls Tryz.prog 72 #[v, .string x] W fun e w' => e = .returned (.tuple #[.string (ba (appO rs (bs x))), .string (ba (appK rs (bs x)))]) ∧ Below W.heap.size W w') := Lib.hid fun x W hW hx h0 => rapply_any v rs x W (HR.out.later hW (Nat.le_refl _)) hx h0 hsh
  have HFD : Hid (∀ (k : By) W, Below w.heap.size w W → k.length ≤ 60000 → ∀ o q, Feeds rs [] k o q → Calls Tryz.prog 68 #[v, .string { data := #[] }, .string (ba k)] W fun e w' => e = .returned (.tuple #[.string (ba o), .string (ba q)]) ∧ Below W.heap.size W w') := Lib.hid fun k W hW hk o q hf => by
    have h := rfeed_any v rs ⟨#[]⟩ (ba k) W (HR.out.later hW (Nat.le_refl _)) hok hsh (by rw [ba_size]; show 0 + _ ≤ _; omega)
    rw [bs_ba, bs_emp, hf.fd] at h
    exact h
  clear hR hsh hK
  go_enter Tryz.func46, Tryz.ntmps46
  go_wp2_with (go_at_call 69; (with_reducible refine (HK.out _).mono ?_); rintro e w1 ⟨rfl, hb1⟩)
  go_loopw [6, 5] (fun v vo wr => ∃ (o q : By), v = .string (ba q) ∧ vo = .string (ba o) ∧ Hid (∀ F, Flushes rs q F → Flushes rs K (o ++ F)) ∧ o.length + 16 * q.length ≤ 16 * K.length ∧ Below w.heap.size w wr) (fun v _ _ => strLen v)
  case atStart => exact ⟨[], K, rfl, rfl, Lib.hid (fun F h => h), by simp, hb1⟩
  case round =>
    obtain ⟨o, q, rfl, rfl, hF, hl, hbr⟩ := hrel
    have hws := hbr.size
    cases q with
    | nil =>
      have he : (ba []).toList.isEmpty = true := by rw [Lib.toList_data]; rfl
      have hFl := Lib.hid (hF.out [] .nil)
      rw [List.append_nil] at hFl
      go_wp2
      go_ret
      exact ⟨o, rfl, hFl.out, hbr⟩
    | cons c q =>
      have hsz : (ba (c :: q)).size = q.length + 1 := by rw [ba_size]; rfl
      have hne2 : (ba (c :: q)).toList.isEmpty = false := by rw [Lib.toList_data]; rfl
      have hlk := appK_len hok (rs := rs) (s := c :: q) (by simp)
      have hlo := appO_len hok (rs := rs) (c :: q)
      rw [List.length_cons] at hl hlk
      have HA := Lib.hid (HAP.out (ba (c :: q)) wr hbr (by omega) (by omega))
      rw [bs_ba] at HA
      obtain ⟨o2, q2, hf2⟩ := feeds_ex hok [] (appK rs (c :: q))
      have hl2 := hf2.len hok
      rw [List.length_nil] at hl2
      have HF2 := Lib.hid (fun W hW => HFD.out (appK rs (c :: q)) W hW (by omega) o2 q2 hf2)
      have hos : (ba o).size = o.length := ba_size _
      have has : (ba (appO rs (c :: q))).size = (appO rs (c :: q)).length := ba_size _
      have ho2 : (ba o2).size = o2.length := ba_size _
      have hsm : (ba o ++ ba (appO rs (c :: q))).size = o.length + (appO rs (c :: q)).length := by rw [ByteArray.size_append, hos, has]
      have hsum1 : ¬ 9223372036854775807 < (ba o).size + (ba (appO rs (c :: q))).size := by omega
      have hsum2 : ¬ 9223372036854775807 < (ba o ++ ba (appO rs (c :: q))).size + (ba o2).size := by omega
      have HH := Lib.hid hF.out
      have HF3 := Lib.hid hf2
      have HLL := Lib.hid (And.intro hlo (And.intro hl2 hlk))
      clear hF hf2 hos has ho2 hsm hlo hl2 hlk
      go_wp2_with (first
        | (go_at_call 72; (with_reducible refine HA.out.mono ?_); rintro e w2 ⟨rfl, hb2⟩; have hbw2 := hbr.trans (hb2.mono hws))
        | (go_at_call 68; (with_reducible refine (HF2.out _ hbw2).mono ?_); rintro e w3 ⟨rfl, hb3⟩))
      obtain ⟨hlo, hl2, hlk⟩ := HLL.out
      go_roundw
      case rel =>
        refine ⟨o ++ (appO rs (c :: q) ++ o2), q2, rfl, by rw [ba_app, ba_app, ByteArray.append_assoc], Lib.hid fun F hF2 => ?_, ?_, hbw2.trans (hb3.mono hbw2.size)⟩
        · have := HH.out _ (Flushes.step (by simp) HF3.out hF2)
          simpa only [List.append_assoc] using this
        · simp only [List.length_append]; omega
      case measure => rw [strLen_mk, strLen_mk, hsz, ba_size]; omega

end Go.Proofs.YtamdlbefiggkfaaGreat.Aut

set_option linter.unusedVariables false
set_option linter.unusedSimpArgs false
set_option maxRecDepth 100000
namespace Go.Proofs.YtamdlbefiggkfaaGreat.Aut
open Go Go.RowKit Go.Proofs.YtamdlbefiggkfaaGreat.Kit Go.Proofs.YtamdlbefiggkfaaGreat.Utf Go.Proofs.YtamdlbefiggkfaaGreat.Rom

set_option maxHeartbeats 4000000 in
theorem rstep_any (v : Value) (rs : List Rule) (p : ByteArray) (c : UInt8) (w : World) (hR : RowR w v rs) (hok : okL rs = true) (hsh : ∀ r ∈ rs, Short r) (hs : p.size ≤ 50000) :
    Calls Tryz.prog 38 #[v, .string p, .int .u8 c.toNat] w fun e w' => e = .returned (.tuple #[.string (ba (fd rs (keysOf (bs p)) (keysOf [c])).1), .string (ba (fd rs (keysOf (bs p)) (keysOf [c])).2)]) ∧ Below w.heap.size w w' := by
  have hkl := keysOf_le (bs p)
  rw [bs_len] at hkl
  have hk2 := keysOf_le [c]
  rw [List.length_singleton] at hk2
  have HK1 := Lib.hid (fun W => rkeys_any p W (by omega))
  have HK2 := Lib.hid (fun W => rkeys_any (ba [c]) W (by rw [ba_size]; simp))
  rw [bs_ba] at HK2
  have HF : Hid (∀ W, Below w.heap.size w W → Calls Tryz.prog 68 #[v, .string (ba (keysOf (bs p))), .string (ba (keysOf [c]))] W fun e w' => e = .returned (.tuple #[.string (ba (fd rs (keysOf (bs p)) (keysOf [c])).1), .string (ba (fd rs (keysOf (bs p)) (keysOf [c])).2)]) ∧ Below W.heap.size W w') := Lib.hid fun W hW => by
    have h := rfeed_any v rs (ba (keysOf (bs p))) (ba (keysOf [c])) W (hR.later hW (Nat.le_refl _)) hok hsh (by rw [ba_size, ba_size]; omega)
    rw [bs_ba, bs_ba] at h
    exact h
  generalize ba (keysOf (bs p)) = K1 at *
  generalize ba (keysOf [c]) = K2 at *
  generalize ba (fd rs (keysOf (bs p)) (keysOf [c])).1 = O at *
  generalize ba (fd rs (keysOf (bs p)) (keysOf [c])).2 = Q at *
  clear hR hsh hkl hk2
  go_enter Tryz.func38, Tryz.ntmps38
  go_wp2
  have hcv1 : ∀ W : World, (convert 74 9 (.slice (some ⟨W.heap.size, 0, none⟩) 1 1)).run Tryz.prog (W.alloc (Obj.cells #[.int .u8 c.toNat] 5)) = .ok (.string (ba [c])) (W.alloc (Obj.cells #[.int .u8 c.toNat] 5)) := fun W => conv_lit W c (heap_alloc_new W _)
  have hcv2 : ∀ W : World, (convert 74 9 (.slice (some ⟨W.heap.size, 0, none⟩) 1 1)).run Tryz.prog (W.alloc (Obj.cells #[.int .u8 c.toNat] 5)).drew = .ok (.string (ba [c])) (W.alloc (Obj.cells #[.int .u8 c.toNat] 5)).drew := fun W => conv_lit W c (W' := (W.alloc (Obj.cells #[.int .u8 c.toNat] 5)).drew) (heap_alloc_new W _)
  have HC3 : Hid (∀ W1 : World, Below (w.heap.size + 1) (w.alloc (Obj.cells #[.int .u8 c.toNat] 5)).drew W1 → (convert 74 9 (.slice (some ⟨w.heap.size, 0, none⟩) 1 1)).run Tryz.prog W1 = .ok (.string (ba [c])) W1) := Lib.hid fun W1 h => conv_lit w c (W' := W1) (by rw [h.block w.heap.size (by omega)]; exact heap_alloc_new w _)
  generalize ba [c] = L at *
  go_region_law (first
    | (go_simp; go_at_call 69; (with_reducible refine (HK1.out _).mono ?_); rintro e w1 ⟨rfl, hb1⟩; have hbw1 : Below w.heap.size w w1 := (by first | exact (Below.refl _ w).drew.trans hb1 | exact (((Below.refl _ _).alloc (Nat.le_refl _) _).drew).trans (hb1.mono (by simp))); try have hcv3 := HC3.out w1 (hb1.mono (by simp)))
    | (go_simp; go_at_call 69; (with_reducible refine (HK2.out _).mono ?_); rintro e w2 ⟨rfl, hb2⟩; have hbw2 : Below w.heap.size w w2 := (by first | exact hbw1.trans (hb2.mono hbw1.size) | exact (hbw1.alloc hbw1.size _).trans (hb2.mono (by simp; have := hbw1.size; omega))))
    | (go_simp; go_at_call 68; (with_reducible refine (HF.out _ hbw2).mono ?_); rintro e w3 ⟨rfl, hb3⟩))
  all_goals go_wp2
  all_goals go_ret2
  all_goals exact ⟨rfl, hbw2.trans (hb3.mono hbw2.size)⟩

end Go.Proofs.YtamdlbefiggkfaaGreat.Aut

set_option linter.unusedVariables false
set_option linter.unusedSimpArgs false
set_option maxRecDepth 100000
namespace Go.Proofs.YtamdlbefiggkfaaGreat.Cmp
open Go Go.RowKit Go.Proofs.YtamdlbefiggkfaaGreat.Kit Go.Proofs.YtamdlbefiggkfaaGreat.Utf Go.Proofs.YtamdlbefiggkfaaGreat.Rom Go.Proofs.YtamdlbefiggkfaaGreat.Aut

set_option maxHeartbeats 8000000 in
theorem rkey_any {rs : List Rule} (hok : okL rs = true) (hsr : ∀ r ∈ rs, Short r) (b : Bf) (k : UInt8) (lv v : Value) (w : World) (hL : RowR w lv rs) (hR : BfR w v b) (hsh : Sh b) :
    Calls Tryz.prog 10 #[lv, v, .int .u8 k.toNat] w (RBE (keyB rs b k) w) := by
  obtain ⟨a, len, cap, rfl, hI⟩ := hR.open
  have HV := Lib.hid (fun s W (hI : ItR W s b.is) => rvalid_any b s W hI hsh)
  have HI := Lib.hid (fun (W : World) (h : Below w.heap.size w W) => hI.later h (Nat.le_refl _))
  have hil := hI.len.1
  have hvp := @val_parts b
  have hvk := @val_keys b
  unfold keyB
  clear hR hI
  obtain ⟨is, c, p⟩ := b
  simp only at *
  subst hil
  obtain ⟨lb, ll, lc, rfl, hll, _⟩ := id hL
  subst hll
  obtain ⟨W, hW⟩ : ∃ W, (w.alloc (Obj.cells #[.slice a is.length cap, .int .i64 c, .string p] 33)).alloc (Obj.cells #[.slice none 0 0, .int .i64 0, .string { data := #[] }] 33) = W := ⟨_, rfl⟩
  have HST := Lib.hid (Sr.start hW)
  have HWW := Lib.hid hW
  clear hW
  cases hv : val ⟨is, c, p⟩
  · rw [hv] at HV
    clear hv hvp hvk hL
    simp only [Bool.false_and, Bool.false_eq_true, if_false]
    go_enter Tryz.func10, Tryz.ntmps10
    go_wp2_with (first
      | (go_at_call 37; rw [HWW.out]; (with_reducible refine (HV.out _ W (HI.out W HST.out.bel)).mono ?_); rintro e w3 ⟨rfl, hb3⟩; have S3 := Lib.hid (HST.out.later hb3 HST.out.siz); obtain ⟨b0, b1, b2, bf, r0, r1, r2, rf⟩ := S3.out.facts; clear hb3))
    have HF := S3.out.fin (c' := 0) (p' := { data := #[] }) (ItR.nil _)
    refine bodyPost_ret (v := .tuple #[.agg #[.slice none 0 0, .int .i64 0, .string { data := #[] }], .int .i64 1]) ?_ rfl HF.2.err
    rw [results_cell_tmp rfl]
    show ((loadVar 33 ⟨w.heap.size + 1, 0, none⟩).run Tryz.prog _).andThen _ = _
    rw [HF.1]
    rfl
  obtain ⟨hl, hc0, hcl, _, hp8, v6⟩ := hvp hv
  have hpk := hvk hv
  rw [hv] at HV
  have hkd : isKb k = decide (33 ≤ k.toNat ∧ k.toNat ≤ 126) := rfl
  cases hk : isKb k
  · rw [hk] at hkd
    have hkd2 := of_decide_eq_false hkd.symm
    clear hv hvp hvk hk hkd hL
    simp only [Bool.and_false, Bool.false_eq_true, if_false]
    by_cases hlow : k.toNat < 33
    · have hz : (k.toNat : Int) < 33 := by omega
      go_enter Tryz.func10, Tryz.ntmps10
      go_wp2_with (first
        | (go_at_call 37; rw [HWW.out]; (with_reducible refine (HV.out _ W (HI.out W HST.out.bel)).mono ?_); rintro e w3 ⟨rfl, hb3⟩; have S3 := Lib.hid (HST.out.later hb3 HST.out.siz); obtain ⟨b0, b1, b2, bf, r0, r1, r2, rf⟩ := S3.out.facts; clear hb3))
      have HF := S3.out.fin (c' := 0) (p' := { data := #[] }) (ItR.nil _)
      refine bodyPost_ret (v := .tuple #[.agg #[.slice none 0 0, .int .i64 0, .string { data := #[] }], .int .i64 1]) ?_ rfl HF.2.err
      rw [results_cell_tmp rfl]
      show ((loadVar 33 ⟨w.heap.size + 1, 0, none⟩).run Tryz.prog _).andThen _ = _
      rw [HF.1]
      rfl
    · have hz : (33 : Int) ≤ (k.toNat : Int) := by omega
      have hz2 : (126 : Int) < (k.toNat : Int) := by omega
      clear hlow hkd2
      go_enter Tryz.func10, Tryz.ntmps10
      go_wp2_with (first
        | (go_at_call 37; rw [HWW.out]; (with_reducible refine (HV.out _ W (HI.out W HST.out.bel)).mono ?_); rintro e w3 ⟨rfl, hb3⟩; have S3 := Lib.hid (HST.out.later hb3 HST.out.siz); obtain ⟨b0, b1, b2, bf, r0, r1, r2, rf⟩ := S3.out.facts; clear hb3))
      have HF := S3.out.fin (c' := 0) (p' := { data := #[] }) (ItR.nil _)
      refine bodyPost_ret (v := .tuple #[.agg #[.slice none 0 0, .int .i64 0, .string { data := #[] }], .int .i64 1]) ?_ rfl HF.2.err
      rw [results_cell_tmp rfl]
      show ((loadVar 33 ⟨w.heap.size + 1, 0, none⟩).run Tryz.prog _).andThen _ = _
      rw [HF.1]
      rfl
  rw [hk] at hkd
  have hkd2 := of_decide_eq_true hkd.symm
  have hz : (33 : Int) ≤ (k.toNat : Int) := by omega
  have hz2 : (k.toNat : Int) ≤ 126 := by omega
  have hk1 : keysOf [k] = [k] := keysOf_id (AllK.one hk)
  have HSP : Hid (∀ W, Below w.heap.size w W → Calls Tryz.prog 38 #[.slice lb rs.length lc, .string p, .int .u8 k.toNat] W fun e w' => e = .returned (.tuple #[.string (ba (fd rs (bs p) [k]).1), .string (ba (fd rs (bs p) [k]).2)]) ∧ Below W.heap.size W w') := Lib.hid fun W h => by
    have h2 := rstep_any (.slice lb rs.length lc) rs p k W (hL.later h (Nat.le_refl _)) hok hsr (by omega)
    rw [hpk, hk1] at h2
    exact h2
  have hfs := fd_spec hok (bs p) [k]
  have hfl := hfs.len hok
  rw [bs_len] at hfl
  have hpe := pend_len hok (feed_pend hfs)
  have hgd := feeds_good hok hfs (fromB_keys.1 v6) (AllK.one hk)
  generalize (fd rs (bs p) [k]).1 = o at *
  generalize (fd rs (bs p) [k]).2 = q at *
  have hol : o.length ≤ 1000 := by simp at hfl; omega
  obtain ⟨cs, hcs⟩ := hgd
  have hchs := chs_some hcs
  rw [hchs]
  have hcsl := chars_le hcs
  have hcs2 : chars (bs (ba o)) = some cs := by rw [bs_ba]; exact hcs
  have HCN : Hid (∀ W : World, Calls Tryz.prog 40 #[.string (ba o)] W fun e w' => e = .returned (.int .i64 (cs.length : Int)) ∧ Below W.heap.size W w') := Lib.hid (fun W => by
    have h := rcount_any (ba o) W (by rw [ba_size]; omega)
    rw [bs_ba, count_some hcs] at h
    exact h)
  have hqs : (ba q).size = q.length := ba_size q
  have hsz1 : (ba [k]).size = 1 := by rw [ba_size]; rfl
  have HEN : Hid (∀ W : World, Calls Tryz.prog 39 #[.string (p ++ ba [k]), .string (ba q)] W fun e w' => e = .returned (.string (ba (endsL (bs p ++ [k]) q))) ∧ W = w') := Lib.hid (fun W => by
    have h := rends_any (p ++ ba [k]) (ba q) W (by rw [ByteArray.size_append, hsz1]; omega) (by omega)
    rw [show bs (p ++ ba [k]) = bs p ++ [k] by rw [bs_cat, bs_ba], bs_ba] at h
    exact h.mono fun e w' h => ⟨h.1, h.2.symm⟩)
  generalize ba (endsL (bs p ++ [k]) q) = used at *
  have hq8 : ((ba q).size : Int) ≤ 8 := by omega
  have hsum : ¬ 9223372036854775807 < p.size + (ba [k]).size := by omega
  have hcsz : (0 : Int) ≤ (cs.length : Int) := by omega
  have HO := Lib.hid (show (ba o).size ≤ 1099511627776 by rw [ba_size]; omega)
  generalize ba q = R at *
  by_cases hfu : is.length + cs.length > 64
  · have HFU := Lib.hid (fun (W : World) (h : Below w.heap.size w W) => rinsert_full is c p used (ba o) cs (.agg #[.slice a is.length cap, .int .i64 c, .string p]) W ⟨_, rfl, HI.out W h⟩ (by omega) HO.out hcs2 hfu (by omega))
    simp only [Bool.and_true, if_true, if_pos hfu]
    clear hv hvp hvk hk hkd hkd2 hL hfs hfl hpe hcs hchs hcs2 hpk hk1 hfu hqs hcsl hol hsz1
    generalize ba o = O at *
    go_enter Tryz.func10, Tryz.ntmps10
    go_wp2_with (first
      | (go_at_call 37; rw [HWW.out]; (with_reducible refine (HV.out _ W (HI.out W HST.out.bel)).mono ?_); rintro e w3 ⟨rfl, hb3⟩; have S3 := Lib.hid (HST.out.later hb3 HST.out.siz); obtain ⟨b0, b1, b2, bf, r0, r1, r2, rf⟩ := S3.out.facts; clear hb3)
      | (go_at_call 38; (with_reducible refine (HSP.out _ S3.out.bel).mono ?_); rintro e w4 ⟨rfl, hb4⟩; have S4 := Lib.hid (S3.out.later hb4 S3.out.siz); clear b0 b1 b2 bf r0 r1 r2 rf; obtain ⟨b0, b1, b2, bf, r0, r1, r2, rf⟩ := S4.out.facts; have hcv := conv_lit w4 k (heap_alloc_new w4 (keyObj k)); have S5 := Lib.hid (S4.out.later ((Below.refl w4.heap.size w4).alloc (Nat.le_refl _) (keyObj k)) S4.out.siz); obtain ⟨d0, d1, d2, df, s0, s1, s2, sf⟩ := S5.out.facts; clear hb4)
      | (go_at_call 39; (with_reducible refine (HEN.out _).mono ?_); rintro e w5 ⟨rfl, rfl⟩)
      | (go_at_call 40; (with_reducible refine (HCN.out _).mono ?_); rintro e w6 ⟨rfl, hb6⟩; have S6 := Lib.hid (S5.out.later hb6 S5.out.siz); clear b0 b1 b2 bf r0 r1 r2 rf; clear d0 d1 d2 df s0 s1 s2 sf hcv; obtain ⟨b0, b1, b2, bf, r0, r1, r2, rf⟩ := S6.out.facts; clear hb6)
      | (go_at_call 41; (with_reducible refine (HFU.out _ S6.out.bel).mono ?_); rintro e w7 ⟨rfl, hb7⟩; have S7 := Lib.hid (S6.out.later hb7 S6.out.siz); have S8 := Lib.hid (S7.out.later (laid2 (x := .slice none 0 0) (y := .int .i64 0) (z := .string { data := #[] })) S7.out.siz); obtain ⟨g0, g1, g2, gf, t0, t1, t2, tf⟩ := S8.out.facts; clear hb7 b0 b1 b2 bf r0 r1 r2 rf))
    have HF := S8.out.fin (c' := 0) (p' := { data := #[] }) (ItR.nil _)
    refine bodyPost_ret (v := .tuple #[.agg #[.slice none 0 0, .int .i64 0, .string { data := #[] }], .int .i64 7]) ?_ rfl HF.2.err
    rw [results_cell_tmp rfl]
    show ((loadVar 33 ⟨w.heap.size + 1, 0, none⟩).run Tryz.prog _).andThen _ = _
    rw [HF.1]
    rfl
  · have HFI := Lib.hid (fun (W : World) (h : Below w.heap.size w W) => rinsert_at is c p used (ba o) cs (.agg #[.slice a is.length cap, .int .i64 c, .string p]) W ⟨_, rfl, HI.out W h⟩ hc0 hcl HO.out hcs2 (by omega))
    have hic : (insB ⟨is, c, R⟩ (itemsL used cs)) = ⟨(insB ⟨is, c, p⟩ (itemsL used cs)).is, c + (cs.length : Int), R⟩ := by unfold insB; rw [itemsL_len]
    simp only [Bool.and_true, if_true, if_neg hfu]
    rw [hic]
    generalize (insB ⟨is, c, p⟩ (itemsL used cs)).is = is2 at HFI
    clear hv hvp hvk hk hkd hkd2 hL hfs hfl hpe hcs hchs hcs2 hpk hk1 hfu hqs hcsl hol hic hsz1
    generalize ba o = O at *
    go_enter Tryz.func10, Tryz.ntmps10
    go_wp2_with (first
      | (go_at_call 37; rw [HWW.out]; (with_reducible refine (HV.out _ W (HI.out W HST.out.bel)).mono ?_); rintro e w3 ⟨rfl, hb3⟩; have S3 := Lib.hid (HST.out.later hb3 HST.out.siz); obtain ⟨b0, b1, b2, bf, r0, r1, r2, rf⟩ := S3.out.facts; clear hb3)
      | (go_at_call 38; (with_reducible refine (HSP.out _ S3.out.bel).mono ?_); rintro e w4 ⟨rfl, hb4⟩; have S4 := Lib.hid (S3.out.later hb4 S3.out.siz); clear b0 b1 b2 bf r0 r1 r2 rf; obtain ⟨b0, b1, b2, bf, r0, r1, r2, rf⟩ := S4.out.facts; have hcv := conv_lit w4 k (heap_alloc_new w4 (keyObj k)); have S5 := Lib.hid (S4.out.later ((Below.refl w4.heap.size w4).alloc (Nat.le_refl _) (keyObj k)) S4.out.siz); obtain ⟨d0, d1, d2, df, s0, s1, s2, sf⟩ := S5.out.facts; clear hb4)
      | (go_at_call 39; (with_reducible refine (HEN.out _).mono ?_); rintro e w5 ⟨rfl, rfl⟩)
      | (go_at_call 40; (with_reducible refine (HCN.out _).mono ?_); rintro e w6 ⟨rfl, hb6⟩; have S6 := Lib.hid (S5.out.later hb6 S5.out.siz); clear b0 b1 b2 bf r0 r1 r2 rf; clear d0 d1 d2 df s0 s1 s2 sf hcv; obtain ⟨b0, b1, b2, bf, r0, r1, r2, rf⟩ := S6.out.facts; clear hb6)
      | (go_at_call 41; (with_reducible refine (HFI.out _ S6.out.bel).mono ?_); rintro e w7 ⟨a7, m7, k7, rfl, hI7, hb7⟩; have HI7 := Lib.hid hI7; have S7 := Lib.hid (S6.out.later hb7 S6.out.siz); have S8 := Lib.hid (S7.out.later (laid2 (x := .slice a7 m7 k7) (y := .int .i64 (c + (cs.length : Int))) (z := .string R)) S7.out.siz); obtain ⟨g0, g1, g2, gf, t0, t1, t2, tf⟩ := S8.out.facts; obtain ⟨u0, u1, u2, uf⟩ := box_facts (heap_alloc_new w7 (Obj.cells #[.slice a7 m7 k7, .int .i64 (c + (cs.length : Int)), .string R] 33)); obtain ⟨x0, x1, x2, xf⟩ := box_facts (heap_alloc_new w7 (Obj.cells #[.slice a7 m7 k7, .int .i64 (c + (cs.length : Int)), .string p] 33)); clear hb7 hI7 b0 b1 b2 bf r0 r1 r2 rf))
    have HF := S8.out.fin (c' := c + (cs.length : Int)) (p' := R) (HI7.out.later laid2 (Nat.le_refl _))
    refine bodyPost_ret (v := .tuple #[.agg #[.slice a7 m7 k7, .int .i64 (c + (cs.length : Int)), .string R], .int .i64 0]) ?_ rfl HF.2.err
    rw [results_cell_tmp rfl]
    show ((loadVar 33 ⟨w.heap.size + 1, 0, none⟩).run Tryz.prog _).andThen _ = _
    rw [HF.1]
    rfl
end Go.Proofs.YtamdlbefiggkfaaGreat.Cmp

set_option linter.unusedVariables false
set_option linter.unusedSimpArgs false
set_option maxRecDepth 100000
namespace Go.Proofs.YtamdlbefiggkfaaGreat.Cmp
open Go Go.RowKit Go.Proofs.YtamdlbefiggkfaaGreat.Kit Go.Proofs.YtamdlbefiggkfaaGreat.Utf Go.Proofs.YtamdlbefiggkfaaGreat.Rom Go.Proofs.YtamdlbefiggkfaaGreat.Aut

theorem conv_reads {w : World} {a : Option Addr} {n k : Nat} {cs : List Int} (h : Reads w (.slice a n k) (ints cs)) :
    (convert 79 9 (.slice a n k)).run Tryz.prog w = .ok (.string (runesBytes cs)) w := by
  obtain ⟨a', n', k', e, h1, h2, h3, h4⟩ := h
  cases e
  rw [List.length_map] at h1
  have hlast : cs = [] → runesBytes cs = .empty := fun h => by rw [h]; rfl
  rcases h4 with ⟨rfl, hl, hc⟩ | ⟨x, rfl, hl⟩ | ⟨b, off, rfl, hlt, hx⟩
  · rw [hlast (List.eq_nil_of_length_eq_zero (by omega))]
    exact run_convert_runes_nil w _ _ _ _ _ Tryz.underlying79 Tryz.underlying21 Tryz.underlying9
  · have e1 : cs = [] := List.eq_nil_of_length_eq_zero (by omega)
    subst e1
    have := run_convert_runes (P := Tryz.prog) w 79 9 21 x n k [] (by simp; omega) Tryz.underlying79 Tryz.underlying21 Tryz.underlying9 (fun j hj => by simp at hj)
    rw [this, List.take_nil]
  · have := run_convert_runes (P := Tryz.prog) w 79 9 21 ⟨b, off, none⟩ n k cs (by omega) Tryz.underlying79 Tryz.underlying21 Tryz.underlying9 (fun j hj => by
      have h9 := hx j (.int .i32 (cs.getD j 0)) (by rw [List.getElem?_map, List.getElem?_eq_getElem hj]; simp [List.getElem?_eq_getElem hj])
      show w.cell? (if j = 0 then _ else _) = _
      split
      · rename_i h8; subst h8; exact h9
      · exact h9)
    rw [this, List.take_of_length_le (by omega)]
theorem reads_cap {w : World} {a : Option Addr} {n k : Nat} {xs : List Value} (h : Reads w (.slice a n k) xs) : n ≤ k := by
  obtain ⟨a', n', k', e, h1, h2, h3, h4⟩ := h
  cases e
  exact h2
theorem runes_chars {cs : List Int} (h : ∀ c ∈ cs, validRune c = true) : chars (bs (runesBytes cs)) = some cs := by
  have e : bs (runesBytes cs) = encs cs := runesBytes_bytes cs
  rw [e, chars_encs h]
theorem runes_size {cs : List Int} (h : ∀ c ∈ cs, validRune c = true) : (runesBytes cs).size ≤ 4 * cs.length := by
  have e : bs (runesBytes cs) = encs cs := runesBytes_bytes cs
  rw [← bs_len, e]
  clear e
  induction cs with
  | nil => exact Nat.zero_le _
  | cons c cs ih =>
    rw [encs_cons, List.length_append, List.length_cons]
    have h1 := ih (fun c hc => h c (List.mem_cons_of_mem _ hc))
    have h2 := enc_size c (h c List.mem_cons_self)
    rw [← bs_len] at h2
    show (bs (Utf8.encode c)).length + _ ≤ _
    omega

set_option maxHeartbeats 8000000 in
theorem rflushbuf_any {rs : List Rule} (hok : okL rs = true) (hsr : ∀ r ∈ rs, Short r) (b : Bf) (F : By) (lv v : Value) (w : World) (hL : RowR w lv rs) (hR : BfR w v b) (hsh : Sh b) (hF : val b = true → Flushes rs (bs b.p) F) :
    Calls Tryz.prog 16 #[lv, v] w (RB (fluB b F) w) := by
  obtain ⟨a, len, cap, rfl, hI⟩ := hR.open
  have HV := Lib.hid (fun s W (hI : ItR W s b.is) => rvalid_any b s W hI hsh)
  have HI := Lib.hid (fun (W : World) (h : Below w.heap.size w W) => hI.later h (Nat.le_refl _))
  have hil := hI.len.1
  have hvp := @val_parts b
  have hvk := @val_keys b
  unfold fluB
  clear hR hI
  obtain ⟨is, c, p⟩ := b
  simp only at *
  subst hil
  obtain ⟨W, hW⟩ : ∃ W, (w.alloc (Obj.cells #[.slice a is.length cap, .int .i64 c, .string p] 33)).alloc (Obj.cells #[.slice none 0 0, .int .i64 0, .string { data := #[] }] 33) = W := ⟨_, rfl⟩
  have HST := Lib.hid (Sr.start hW)
  have HWW := Lib.hid hW
  have he := empty_str p
  clear hW
  cases hv : val ⟨is, c, p⟩
  · rw [hv] at HV
    clear hv hvp hvk hL hF he
    simp only [Bool.false_eq_true, if_false]
    go_enter Tryz.func16, Tryz.ntmps16
    go_wp2_with (first
      | (go_at_call 37; rw [HWW.out]; (with_reducible refine (HV.out _ W (HI.out W HST.out.bel)).mono ?_); rintro e w3 ⟨rfl, hb3⟩; have S3 := Lib.hid (HST.out.later hb3 HST.out.siz); obtain ⟨b0, b1, b2, bf, r0, r1, r2, rf⟩ := S3.out.facts; clear hb3))
    have HF := S3.out.fin (c' := c) (p' := p) (HI.out w3 S3.out.bel)
    refine bodyPost_ret (v := .agg #[.slice a is.length cap, .int .i64 c, .string p]) ?_ rfl HF.2
    rw [results_cell1 rfl]
    exact HF.1
  obtain ⟨hl, hc0, hcl, _, hp8, v6⟩ := hvp hv
  have hpk := hvk hv
  have hF := hF hv
  rw [hv] at HV
  simp only [if_true]
  by_cases hp : p.size = 0
  · rw [decide_eq_true hp] at he
    have hpe : p = ⟨#[]⟩ := by rw [← ba_bs p, List.eq_nil_of_length_eq_zero (show (bs p).length = 0 by rw [bs_len]; exact hp)]; rfl
    have hFe : F = [] := by
      rw [hpe] at hF
      exact hF.det .nil
    have hres : insB ⟨is, c, ⟨#[]⟩⟩ (itemsL p ((chs F).take (64 - is.length))) = ⟨is, c, p⟩ := by
      rw [hFe, show chs [] = [] by unfold chs; rw [chars_nil]; rfl, List.take_nil]
      show insB _ [] = _
      rw [insB_nil, ← hpe]
    rw [hres]
    clear hres hFe hpe hv hvp hvk hL hF hpk hp
    go_enter Tryz.func16, Tryz.ntmps16
    go_wp2_with (first
      | (go_at_call 37; rw [HWW.out]; (with_reducible refine (HV.out _ W (HI.out W HST.out.bel)).mono ?_); rintro e w3 ⟨rfl, hb3⟩; have S3 := Lib.hid (HST.out.later hb3 HST.out.siz); obtain ⟨b0, b1, b2, bf, r0, r1, r2, rf⟩ := S3.out.facts; clear hb3))
    have HF := S3.out.fin (c' := c) (p' := p) (HI.out w3 S3.out.bel)
    refine bodyPost_ret (v := .agg #[.slice a is.length cap, .int .i64 c, .string p]) ?_ rfl HF.2
    rw [results_cell1 rfl]
    exact HF.1
  rw [decide_eq_false hp] at he
  have HFL : Hid (∀ W, Below w.heap.size w W → Calls Tryz.prog 46 #[lv, .string p] W fun e w' => e = .returned (.string (ba F)) ∧ Below W.heap.size W w') := Lib.hid fun W h => by
    refine (rflush_any lv rs p W (hL.later h (Nat.le_refl _)) hok hsr (by omega)).mono ?_
    rintro e w' ⟨F', rfl, hF', hb⟩
    rw [hpk] at hF'
    rw [hF'.det hF]
    exact ⟨rfl, hb⟩
  have hfl := hF.len hok
  rw [bs_len] at hfl
  obtain ⟨cs, hcs⟩ := flushes_good hok hF (fromB_keys.1 v6)
  rw [chs_some hcs]
  have hcl2 := chars_le hcs
  have hcv := (chars_some hcs).1
  have HRU : Hid (∀ W : World, Calls Tryz.prog 47 #[.string (ba F)] W fun e w' => ∃ a k, e = .returned (.tuple #[.slice a cs.length k, .bool true]) ∧ Reads w' (.slice a cs.length k) (ints cs) ∧ Below W.heap.size W w') := Lib.hid fun W => by
    refine (rrunes_good (ba F) W (by rw [ba_size]; omega) cs (by rw [bs_ba]; exact hcs)).mono ?_
    rintro e w' ⟨a, k, rfl, ho, _, hb⟩
    exact ⟨a, k, rfl, own_reads ho, hb⟩
  obtain ⟨m0, hm0⟩ : ∃ m0 : Nat, 64 - is.length = m0 := ⟨_, rfl⟩
  have hm1 : 64 - (is.length : Int) = (m0 : Int) := by omega
  rw [hm0]
  have HM := Lib.hid hm1
  by_cases hcut : cs.length ≤ m0
  · rw [List.take_of_length_le hcut]
    have hts := runes_size hcv
    have hcd : ¬ (64 - (is.length : Int) < (cs.length : Int)) := by omega
    have HFI := Lib.hid (fun (W : World) (h : Below w.heap.size w W) => rinsert_at is c ⟨#[]⟩ p (runesBytes cs) cs (.agg #[.slice a is.length cap, .int .i64 c, .string ⟨#[]⟩]) W ⟨_, rfl, HI.out W h⟩ hc0 hcl (by omega) (runes_chars hcv) (by omega))
    have hic : (insB ⟨is, c, ⟨#[]⟩⟩ (itemsL p cs)) = ⟨(insB ⟨is, c, ⟨#[]⟩⟩ (itemsL p cs)).is, c + (cs.length : Int), ⟨#[]⟩⟩ := by unfold insB; rw [itemsL_len]
    rw [hic]
    generalize (insB ⟨is, c, ⟨#[]⟩⟩ (itemsL p cs)).is = is2 at HFI
    clear hv hvp hvk hL hF hpk hp hcs hcv hcl2 hfl hic hcut hts
    go_enter Tryz.func16, Tryz.ntmps16
    go_wp2_with (first
      | (go_at_call 37; rw [HWW.out]; (with_reducible refine (HV.out _ W (HI.out W HST.out.bel)).mono ?_); rintro e w3 ⟨rfl, hb3⟩; have S3 := Lib.hid (HST.out.later hb3 HST.out.siz); obtain ⟨b0, b1, b2, bf, r0, r1, r2, rf⟩ := S3.out.facts; clear hb3)
      | (go_at_call 46; (with_reducible refine (HFL.out _ S3.out.bel).mono ?_); rintro e w4 ⟨rfl, hb4⟩; have S4 := Lib.hid (S3.out.later hb4 S3.out.siz); clear b0 b1 b2 bf r0 r1 r2 rf; obtain ⟨b0, b1, b2, bf, r0, r1, r2, rf⟩ := S4.out.facts; clear hb4)
      | (go_at_call 47; (with_reducible refine (HRU.out _).mono ?_); rintro e w6 ⟨a5, k5, rfl, hr5, hb6⟩; have S6 := Lib.hid ((S4.out.pend ⟨#[]⟩).later hb6 (S4.out.pend ⟨#[]⟩).siz); have hcvt := conv_reads hr5; clear b0 b1 b2 bf r0 r1 r2 rf; obtain ⟨b0, b1, b2, bf, r0, r1, r2, rf⟩ := S6.out.facts; clear hb6 hr5)
      | (go_at_call 41; (with_reducible refine (HFI.out _ S6.out.bel).mono ?_); rintro e w7 ⟨a7, m7, k7, rfl, hI7, hb7⟩; have HI7 := Lib.hid hI7; have S7 := Lib.hid (S6.out.later hb7 S6.out.siz); have S8 := Lib.hid (S7.out.later (laid2 (x := .slice a7 m7 k7) (y := .int .i64 (c + (cs.length : Int))) (z := .string ⟨#[]⟩)) S7.out.siz); obtain ⟨g0, g1, g2, gf, t0, t1, t2, tf⟩ := S8.out.facts; obtain ⟨x0, x1, x2, xf⟩ := box_facts (heap_alloc_new w7 (Obj.cells #[.slice a7 m7 k7, .int .i64 (c + (cs.length : Int)), .string ⟨#[]⟩] 33)); clear hb7 hI7 b0 b1 b2 bf r0 r1 r2 rf))
    have HF := S8.out.fin (c' := c + (cs.length : Int)) (p' := ⟨#[]⟩) (HI7.out.later laid2 (Nat.le_refl _))
    refine bodyPost_ret (v := .agg #[.slice a7 m7 k7, .int .i64 (c + (cs.length : Int)), .string ⟨#[]⟩]) ?_ rfl HF.2
    rw [results_cell1 rfl]
    exact HF.1
  · obtain ⟨ts, htsd⟩ : ∃ ts, cs.take m0 = ts := ⟨_, rfl⟩
    have HTS := Lib.hid htsd
    have htl : ts.length = m0 := by rw [← htsd, List.length_take]; omega
    have htv : ∀ c ∈ ts, validRune c = true := fun c hc => hcv c (by rw [← htsd] at hc; exact List.mem_of_mem_take hc)
    rw [htsd]
    have hts := runes_size htv
    have hcd : 64 - (is.length : Int) < (cs.length : Int) := by omega
    have hm2 : (0 : Int) ≤ 64 - (is.length : Int) := by omega
    have HFI := Lib.hid (fun (W : World) (h : Below w.heap.size w W) => rinsert_at is c ⟨#[]⟩ p (runesBytes ts) ts (.agg #[.slice a is.length cap, .int .i64 c, .string ⟨#[]⟩]) W ⟨_, rfl, HI.out W h⟩ hc0 hcl (by omega) (runes_chars htv) (by omega))
    have hic : (insB ⟨is, c, ⟨#[]⟩⟩ (itemsL p ts)) = ⟨(insB ⟨is, c, ⟨#[]⟩⟩ (itemsL p ts)).is, c + (ts.length : Int), ⟨#[]⟩⟩ := by unfold insB; rw [itemsL_len]
    rw [hic]
    generalize (insB ⟨is, c, ⟨#[]⟩⟩ (itemsL p ts)).is = is2 at HFI
    have hcut2 : m0 ≤ cs.length := by omega
    clear hv hvp hvk hL hF hpk hp hcs hcv hcl2 hfl hic hcut hts htsd htl htv
    go_enter Tryz.func16, Tryz.ntmps16
    go_wp2_with (first
      | (go_at_call 37; rw [HWW.out]; (with_reducible refine (HV.out _ W (HI.out W HST.out.bel)).mono ?_); rintro e w3 ⟨rfl, hb3⟩; have S3 := Lib.hid (HST.out.later hb3 HST.out.siz); obtain ⟨b0, b1, b2, bf, r0, r1, r2, rf⟩ := S3.out.facts; clear hb3)
      | (go_at_call 46; (with_reducible refine (HFL.out _ S3.out.bel).mono ?_); rintro e w4 ⟨rfl, hb4⟩; have S4 := Lib.hid (S3.out.later hb4 S3.out.siz); clear b0 b1 b2 bf r0 r1 r2 rf; obtain ⟨b0, b1, b2, bf, r0, r1, r2, rf⟩ := S4.out.facts; clear hb4)
      | (go_at_call 47; (with_reducible refine (HRU.out _).mono ?_); rintro e w6 ⟨a5, k5, rfl, hr5, hb6⟩; have S6 := Lib.hid ((S4.out.pend ⟨#[]⟩).later hb6 (S4.out.pend ⟨#[]⟩).siz); have hsl := runes_upto hr5 hcut2; have hk5 := Nat.le_trans hcut2 (reads_cap hr5); have hrt := reads_take hr5 hcut2; rw [HTS.out] at hrt; have hcvt := conv_reads hrt; clear hrt; clear b0 b1 b2 bf r0 r1 r2 rf; obtain ⟨b0, b1, b2, bf, r0, r1, r2, rf⟩ := S6.out.facts; clear hb6 hr5)
      | (go_at_call 41; (with_reducible refine (HFI.out _ S6.out.bel).mono ?_); rintro e w7 ⟨a7, m7, k7, rfl, hI7, hb7⟩; have HI7 := Lib.hid hI7; have S7 := Lib.hid (S6.out.later hb7 S6.out.siz); have S8 := Lib.hid (S7.out.later (laid2 (x := .slice a7 m7 k7) (y := .int .i64 (c + (ts.length : Int))) (z := .string ⟨#[]⟩)) S7.out.siz); obtain ⟨g0, g1, g2, gf, t0, t1, t2, tf⟩ := S8.out.facts; obtain ⟨x0, x1, x2, xf⟩ := box_facts (heap_alloc_new w7 (Obj.cells #[.slice a7 m7 k7, .int .i64 (c + (ts.length : Int)), .string ⟨#[]⟩] 33)); clear hb7 hI7 b0 b1 b2 bf r0 r1 r2 rf))
    have HF := S8.out.fin (c' := c + (ts.length : Int)) (p' := ⟨#[]⟩) (HI7.out.later laid2 (Nat.le_refl _))
    refine bodyPost_ret (v := .agg #[.slice a7 m7 k7, .int .i64 (c + (ts.length : Int)), .string ⟨#[]⟩]) ?_ rfl HF.2
    rw [results_cell1 rfl]
    exact HF.1
theorem rul8_any (v : Value) (rs : List Rule) (w : World) (hR : RowR w v rs) (hn : rs.length ≤ 1000000) :
    Calls Tryz.prog 11 #[v] w fun e w' => ∃ v', e = .returned v' ∧ w'.ownsRow w.heap.size 90 3 v' rs.length (rc rs) ∧ Below w.heap.size w w' := by
  obtain ⟨i0, hi0, hz0, hz1, hz2⟩ := info_parts info_rrule
  obtain ⟨a, len, cap, rfl, hlen, hcap, hmax, _⟩ := id hR
  subst hlen
  have HR := Lib.hid hR
  clear hR
  go_enter Tryz.func11, Tryz.ntmps11
  go_wp2
  go_loopw [4, 3] (fun i out wr => ∃ k : Nat, i = .int .i64 k ∧ k ≤ rs.length ∧ wr.ownsRow w.heap.size 90 3 out k (rc (rs.take k)) ∧ Below w.heap.size w wr) (fun i _ _ => rs.length - (intOf i).toNat)
  case atStart => exact ⟨0, rfl, Nat.zero_le _, World.ownsRow_nil _ _ _ _, Below.refl _ _⟩
  case round =>
    obtain ⟨k, rfl, hk, hown, hbw⟩ := hrel
    by_cases hkl : k < rs.length
    · obtain ⟨b, off, rfl, hb, hx⟩ := HR.out.at (by omega)
      obtain ⟨x0, x1, x2⟩ := hx k hkl
      rw [← hbw.cell (p := ⟨b, _, none⟩) hb] at x0 x1 x2
      have hsn := Lib.hid (rc_snoc (rs.take k) (ri rs k))
      have hts := Lib.hid (take_succ_ri rs k hkl)
      have hxl : (rc (rs.take k)).length = k * 3 := by rw [rc_len, len_take hk]
      generalize ri rs k = r at x0 x1 x2 hsn hts
      obtain ⟨rk, ro, rn⟩ := r
      simp only at x0 x1 x2
      have k0 : (0 : Int) ≤ k := by omega
      have k1 : (k : Int) < rs.length := by omega
      generalize rc (rs.take k) = xs at hown hsn hxl
      clear hx
      have hne : ∀ o : Value, wr.ownsRow w.heap.size 90 3 o k xs → o.ownBlock ≠ some b := by
        intro o ho e1
        rcases ho.2 with ⟨rfl, h0⟩ | ⟨g, c, cur, rfl, hbg, _⟩
        · simp [Value.ownBlock] at e1
        · simp [Value.ownBlock] at e1; omega
      have HNE := Lib.hid (hne _ hown)
      clear hne
      have hws := hbw.size
      go_wp2
      go_region_held3 (fun w' => w'.cell? ⟨b, off + k * 3, none⟩ = some (.string rk) ∧ w'.cell? ⟨b, off + k * 3 + 1, none⟩ = some (.string ro) ∧ w'.cell? ⟨b, off + k * 3 + 2, none⟩ = some (.string rn))
        (first
          | go_keep
          | (go_split_ands
             refine ⟨?_, ?_, ?_⟩
             · (rw [hgrow.cell_far _ (by simp; omega) (Ne.symm HNE.out)]; simp [*])
             · (rw [hgrow.cell_far _ (by simp; omega) (Ne.symm HNE.out)]; simp [*])
             · (rw [hgrow.cell_far _ (by simp; omega) (Ne.symm HNE.out)]; simp [*])))
        ((refine step_append_lies _ (by rfl) _ _ _ (by rfl) w.heap.size 90 i0 _ 3 48 Tryz.underlying39 hi0 hz0 hz1 hz2 rfl (by omega) _ k xs (by rfl) ((hown.alloc _).drew)
            ⟨wr.heap.size, 0, none⟩ 1 1 [.string rk, .string ro, .string rn] (by rfl) (by rfl) (World.news_of_block (cs := #[.string rk, .string ro, .string rn]) (t := 90) (fr := (0, 0)) (heap_alloc_new wr _)) (by simp [Value.oneCell'])
            (by omega) (by unfold maxLen; omega) (by omega) (by simp; omega) (wr.heap.size + 1) (by simp) ?_; intro gg cap1 w1 hown1 hgrow hat hlt))
      all_goals go_wp2
      all_goals exact ⟨⟨k + 1, by go_num, by omega, by rw [hts.out, hsn.out]; exact hown1, ((hbw.alloc hws _).drew).grown hgrow (by simp; omega) (fun j hj => (hown.lt j hj).1)⟩, by simp [intOf]; omega⟩
    · have e1 : k = rs.length := by omega
      subst e1
      rw [List.take_length] at hown
      go_wp2
      go_ret
      exact ⟨_, rfl, hown, hbw⟩
end Go.Proofs.YtamdlbefiggkfaaGreat.Cmp
