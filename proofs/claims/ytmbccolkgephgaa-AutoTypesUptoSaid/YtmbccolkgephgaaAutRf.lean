/-
  Contracts of the reference's begin, apply and feed.
-/
import Derived.Test.YtmbccolkgephgaaAutQ
import Derived.Deep.RegionHeld3
set_option linter.unusedVariables false
set_option linter.unusedSimpArgs false
set_option maxRecDepth 100000
namespace Go.Proofs.Ytmbccolkgephgaa.Aut
open Go Go.RowKit Go.Proofs.Ytmbccolkgephgaa.Kit Go.Proofs.Ytmbccolkgephgaa.Utf Go.Proofs.Ytmbccolkgephgaa.Rom

set_option maxHeartbeats 4000000 in
theorem begin_any (v : Value) (rs : List Rule) (s : ByteArray) (w : World) (hR : RowR w v rs) (hs : s.size ≤ 1000000) :
    Calls Try.prog 55 #[v, .string s] w fun e w' => e = .returned (.tuple #[ragg ((best rs (bs s)).getD noRule), .bool (best rs (bs s)).isSome]) ∧ Below w.heap.size w w' := by
  have HR := Lib.hid hR
  have HF := Lib.hid (fun (x : ByteArray) W (h : RowR W v rs) => rfind_any v rs x W h)
  have hbst : bestN rs (bs s) s.size = best rs (bs s) := by unfold best; rw [bs_len]
  obtain ⟨T, hT⟩ : ∃ T, best rs (bs s) = T := ⟨_, rfl⟩
  rw [hT] at hbst ⊢
  clear hT
  clear hR
  go_enter Try.func55, Try.ntmps55
  go_wp2
  have e0 := heap_alloc_new w (Obj.cells #[.string { data := #[] }, .string { data := #[] }, .string { data := #[] }] 56)
  obtain ⟨W, hW⟩ : ∃ W, w.alloc (Obj.cells #[.string { data := #[] }, .string { data := #[] }, .string { data := #[] }] 56) = W := ⟨_, rfl⟩
  have hb0 : Below w.heap.size w W := by rw [← hW]; exact (Below.refl _ _).alloc (Nat.le_refl _) _
  have hsz : W.heap.size = w.heap.size + 1 := by rw [← hW]; simp
  rw [hW] at e0 ⊢
  have HV := Lib.hid (Var3.of e0)
  have HR2 := Lib.hid (HR.out.later hb0 (Nat.le_refl _))
  clear hW e0
  go_loopw [6] (fun i wr => ∃ n : Nat, i = .int .i64 n ∧ n ≤ s.size ∧ Hid (bestN rs (bs s) s.size = bestN rs (bs s) n) ∧ Below W.heap.size W wr) (fun i _ => (intOf i).toNat)
  case atStart => exact ⟨s.size, rfl, Nat.le_refl _, Lib.hid rfl, Below.refl _ _⟩
  case round =>
    obtain ⟨n, rfl, hn, hbn, hbw⟩ := hrel
    have hws := hbw.size
    have hv := HV.out.later hbw (by omega)
    have v0 := hv.z0
    have v1 := hv.z1
    have v2 := hv.z2
    have v3 := hv.y
    by_cases hn0 : 0 < n
    · have k0 : (0 : Int) < n := by omega
      have k1 : (n : Int) ≤ s.size := by omega
      have HFR := Lib.hid (HF.out (s.extract 0 n) wr (HR2.out.later hbw (Nat.le_refl _)))
      have hstep : bestN rs (bs s) n = if (findL rs (s.extract 0 n)).2 then some (findL rs (s.extract 0 n)).1 else bestN rs (bs s) (n - 1) := by
        obtain ⟨m, rfl⟩ : ∃ m, n = m + 1 := ⟨n - 1, by omega⟩
        conv => lhs; unfold bestN
        rw [← ext_take]
        rfl
      obtain ⟨F, hF⟩ : ∃ F, (findL rs (s.extract 0 n)).1 = F := ⟨_, rfl⟩
      obtain ⟨ok, hok⟩ : ∃ ok, (findL rs (s.extract 0 n)).2 = ok := ⟨_, rfl⟩
      rw [hF, hok] at HFR hstep
      have HST := Lib.hid hstep
      have HB := Lib.hid hbst
      clear hF hok hstep hbst
      cases ok
      · go_wp2_with (go_at_call 32; (with_reducible refine HFR.out.mono ?_); rintro e w3 ⟨rfl, hb3⟩; unfold ragg)
        go_roundw
        case rel => exact ⟨n - 1, by go_num, by omega, Lib.hid (by rw [hbn.out, HST.out]; rfl), (hbw.trans (hb3.mono hws)).alloc (by have := hb3.size; omega) _⟩
        case measure => simp [intOf]; omega
      · obtain rfl : T = some F := by rw [← HB.out, hbn.out, HST.out]; rfl
        go_wp2_with (go_at_call 32; (with_reducible refine HFR.out.mono ?_); rintro e w3 ⟨rfl, hb3⟩; unfold ragg; have hv3 := hv.later hb3 (by omega); have u0 := hv3.z0; have u1 := hv3.z1; have u2 := hv3.z2; have u3 := hv3.y; have hws3 := hb3.size; have hgw : w.heap.size < w3.heap.size := (by omega); have hv4 := hv3.later ((Below.refl w3.heap.size w3).alloc (Nat.le_refl _) (Obj.cells #[.string F.k, .string F.o, .string F.n] 56)) hgw)
        (try simp only [Exit.inBlock, Exit.then])
        obtain ⟨q0, q1, q2⟩ := hv3.set F
        have hbs := below_set3 (hb0.trans ((hbw.trans (hb3.mono hws)).mono hb0.size)) (Nat.le_refl w.heap.size) (.string F.k) (.string F.o) (.string F.n)
        have hzz : w.heap.size < (((w3.setCell ⟨w.heap.size, 0, none⟩ (.string F.k)).setCell ⟨w.heap.size, 1, none⟩ (.string F.o)).setCell ⟨w.heap.size, 2, none⟩ (.string F.n)).heap.size := by simp; exact hgw
        refine bodyPost_ret (v := .tuple #[ragg F, .bool true]) ?_ rfl ⟨rfl, hbs.alloc hbs.size _⟩
        rw [results_cell_tmp rfl]
        generalize (((w3.setCell ⟨w.heap.size, 0, none⟩ (.string F.k)).setCell ⟨w.heap.size, 1, none⟩ (.string F.o)).setCell ⟨w.heap.size, 2, none⟩ (.string F.n)) = V at *
        have hba := (Below.refl V.heap.size V).alloc (Nat.le_refl _) (Obj.cells #[.string F.k, .string F.o, .string F.n] 56)
        show ((loadVar 56 ⟨w.heap.size, 0, none⟩).run Try.prog _).andThen _ = _
        erw [load_rrule (r := F) ((hba.cell (p := ⟨w.heap.size, 0, none⟩) hzz).trans q0) ((hba.cell (p := ⟨w.heap.size, 1, none⟩) hzz).trans q1) ((hba.cell (p := ⟨w.heap.size, 2, none⟩) hzz).trans q2)]
        rfl
    · obtain rfl : n = 0 := by omega
      obtain rfl : T = none := by rw [← hbst, hbn.out]; rfl
      go_wp2
      (try simp only [Exit.inBlock, Exit.then])
      refine bodyPost_ret (v := .tuple #[ragg noRule, .bool false]) ?_ rfl ⟨rfl, below_set3 (hb0.trans (hbw.mono hb0.size)) (Nat.le_refl _) _ _ _⟩
      rw [results_cell_tmp rfl]
      obtain ⟨q0, q1, q2⟩ := hv.set noRule
      show ((loadVar 56 ⟨w.heap.size, 0, none⟩).run Try.prog _).andThen _ = _
      erw [load_rrule (r := noRule) q0 q1 q2]
      rfl

theorem rapply_any (v : Value) (rs : List Rule) (s : ByteArray) (w : World) (hR : RowR w v rs) (hs : s.size ≤ 1000000) (h0 : 0 < s.size) (hsh : ∀ r ∈ rs, Short r) :
    Calls Try.prog 39 #[v, .string s] w fun e w' => e = .returned (.tuple #[.string (ba (appO rs (bs s))), .string (ba (appK rs (bs s)))]) ∧ Below w.heap.size w w' := by
  have HB := Lib.hid (begin_any v rs s w hR hs)
  have k1 : (1 : Int) ≤ s.size := by omega
  cases hb : best rs (bs s) with
  | none =>
    have e1 : ba (appO rs (bs s)) = s.extract 0 1 := by unfold appO; rw [hb, ext_take]
    have e2 : ba (appK rs (bs s)) = s.extract 1 s.size := by unfold appK; rw [hb, ext_drop]
    rw [hb] at HB
    simp only [Option.getD_none, Option.isSome_none] at HB
    rw [e1, e2]
    clear hb e1 e2
    go_enter Try.func39, Try.ntmps39
    go_wp2_with (go_at_call 55; (with_reducible refine HB.out.mono ?_); rintro e w1 ⟨rfl, hb1⟩; unfold ragg)
    go_region
    go_wp2
    go_ret2
    exact ⟨rfl, (hb1.alloc hb1.size _).drew⟩
  | some r =>
    obtain ⟨hrm, hk1, hk2, hk3⟩ := best_some hb
    rw [bs_len] at hk2
    have hr := hsh r hrm
    have e1 : ba (appO rs (bs s)) = r.o := by unfold appO; rw [hb]; exact ba_bs _
    have e2 : ba (appK rs (bs s)) = r.n ++ s.extract r.k.size s.size := by unfold appK; rw [hb, ext_drop]; exact (ba_app _ _).trans (by rw [ba_bs])
    rw [hb] at HB
    simp only [Option.getD_some, Option.isSome_some] at HB
    rw [e1, e2]
    have hes : (s.extract r.k.size s.size).size ≤ s.size := by rw [ByteArray.size_extract]; omega
    have hsum : ¬ 9223372036854775807 < r.n.size + (s.extract r.k.size s.size).size := by have := hr.2.2; omega
    have n0 : (0 : Int) ≤ r.k.size := by omega
    have n1 : (r.k.size : Int) ≤ s.size := by omega
    clear hb e1 e2 hrm hk3 hr hsh
    go_enter Try.func39, Try.ntmps39
    go_wp2_with (go_at_call 55; (with_reducible refine HB.out.mono ?_); rintro e w1 ⟨rfl, hb1⟩; unfold ragg)
    go_region
    go_wp2
    go_ret2
    exact ⟨rfl, (hb1.alloc hb1.size _).drew⟩

end Go.Proofs.Ytmbccolkgephgaa.Aut
