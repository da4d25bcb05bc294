/-
  Contract of the automaton's rule.
-/
import Derived.Test.YtmbccolkgephgaaAutA
import Derived.Deep.RegionHeld3
set_option linter.unusedVariables false
set_option linter.unusedSimpArgs false
set_option maxRecDepth 100000
namespace Go.Proofs.Ytmbccolkgephgaa.Aut
open Go Go.RowKit Go.Proofs.Ytmbccolkgephgaa.Kit Go.Proofs.Ytmbccolkgephgaa.Utf Go.Proofs.Ytmbccolkgephgaa.Rom

theorem ext_take (s : ByteArray) (n : Nat) : s.extract 0 n = ba ((bs s).take n) := ba_ext (by simp [bs, ba, ByteArray.data_extract])
theorem ext_drop (s : ByteArray) (n : Nat) : s.extract n s.size = ba ((bs s).drop n) := ba_ext (by
  simp only [bs, ba, ByteArray.data_extract, Array.toList_extract]
  rw [List.extract_eq_take_drop, List.take_of_length_le]
  rw [List.length_drop, Array.length_toList]; exact Nat.le_refl _)
theorem best_stop {rs : List Rule} {s : By} {n : Nat} (h : longL rs (ba (s.take n)) = false) : ∀ (m : Nat), n ≤ m → m ≤ s.length → bestN rs s m = bestN rs s n := by
  intro m
  induction m with
  | zero => intro h1 _; obtain rfl : n = 0 := by omega
            rfl
  | succ m ih =>
    intro h1 h2
    by_cases e : n = m + 1
    · rw [e]
    · rw [← ih (by omega) (by omega)]
      conv => lhs; unfold bestN
      rw [if_neg]
      intro hf
      obtain ⟨h3, h4⟩ := findL_yes hf
      unfold longL at h
      rw [List.any_eq_false] at h
      apply h _ h3
      unfold longR
      rw [Bool.and_eq_true, decide_eq_true_eq, List.isPrefixOf_iff_prefix, h4, ba_size, ba_size, bs_ba, bs_ba]
      refine ⟨by simp only [List.length_take]; omega, ?_⟩
      exact List.take_prefix_take_left (by omega)

/-- The rule that is applied, if need be the one that writes the first key. -/
def ruleX (rs : List Rule) (s : ByteArray) (n : Nat) : Rule := (bestN rs (bs s) n).getD ⟨s.extract 0 1, s.extract 0 1, ⟨#[]⟩⟩

set_option maxHeartbeats 4000000 in
theorem rule_any (B a : Nat) (rs : List Rule) (s : ByteArray) (w : World) (hA : AutoAt B w a rs) (hB : B ≤ w.heap.size) (h0 : 0 < s.size) (hs : s.size ≤ 70368744177664) :
    Calls Try.prog 53 #[.pointer (some ⟨a, 0, none⟩), .string s] w fun e w' => e = .returned (ragg (ruleX rs s s.size)) ∧ Below w.heap.size w w' := by
  have HA := Lib.hid hA
  have k1 : (1 : Int) ≤ s.size := by omega
  clear hA
  go_enter Try.func53, Try.ntmps53
  go_wp2
  go_region
  obtain ⟨W, hW⟩ : ∃ W, ((w.alloc (Obj.cells #[Value.string { data := #[] }, Value.string { data := #[] }, Value.string { data := #[] }] 32)).alloc (Obj.cells #[Value.string (s.extract 0 1), Value.string (s.extract 0 1), Value.string { data := #[] }] 32)).drew = W := ⟨_, rfl⟩
  have hb0 : Below w.heap.size w W := by rw [← hW]; exact (((Below.refl _ _).alloc (Nat.le_refl _) _).alloc (by simp) _).drew
  have hWs : W.heap.size = w.heap.size + 2 := by rw [← hW]; simp
  have e1 : W.heap[w.heap.size]? = some (Obj.cells #[Value.string { data := #[] }, Value.string { data := #[] }, Value.string { data := #[] }] 32) := by
    rw [← hW]; exact (heap_two w _ _).1
  have e2 : W.heap[w.heap.size + 1]? = some (Obj.cells #[Value.string (s.extract 0 1), Value.string (s.extract 0 1), Value.string { data := #[] }] 32) := by
    rw [← hW]; exact (heap_two w _ _).2
  rw [hW]
  have HV := Lib.hid (Var3.of e1)
  have f0 : W.cell? ⟨w.heap.size + 1, 0, none⟩ = some (.string (ruleX rs s 0).k) := by rw [cell_of_row W _ 0 _ _ _ e2]; rfl
  have f1 : W.cell? ⟨w.heap.size + 1, 1, none⟩ = some (.string (ruleX rs s 0).o) := by rw [cell_of_row W _ 1 _ _ _ e2]; rfl
  have f2 : W.cell? ⟨w.heap.size + 1, 2, none⟩ = some (.string (ruleX rs s 0).n) := by rw [cell_of_row W _ 2 _ _ _ e2]; rfl
  have f3 : ∀ j, W.frozen? ⟨w.heap.size + 1, j, none⟩ = false := fun j => by unfold World.frozen?; rw [show W.heap[(⟨w.heap.size + 1, j, none⟩ : Addr).block]? = _ from e2]; simp
  obtain ⟨g, hg⟩ : ∃ g, w.heap.size = g := ⟨_, rfl⟩
  rw [hg] at hb0 hWs HV f0 f1 f2 f3 hB ⊢
  have HAW := Lib.hid (HA.out.later hb0 hB)
  clear hW e1 e2
  go_wp2
  go_loopw [6] (fun i wr => ∃ n : Nat, i = .int .i64 n ∧ 1 ≤ n ∧ n ≤ s.size + 1 ∧ Below (g + 1) W wr ∧ g + 2 ≤ wr.heap.size ∧ wr.cell? ⟨g + 1, 0, none⟩ = some (.string (ruleX rs s (n - 1)).k) ∧ wr.cell? ⟨g + 1, 1, none⟩ = some (.string (ruleX rs s (n - 1)).o) ∧ wr.cell? ⟨g + 1, 2, none⟩ = some (.string (ruleX rs s (n - 1)).n) ∧ ∀ j, wr.frozen? ⟨g + 1, j, none⟩ = false) (fun i _ => s.size + 1 - (intOf i).toNat)
  case atStart => exact ⟨1, rfl, Nat.le_refl _, by omega, Below.refl _ _, by omega, f0, f1, f2, f3⟩
  case round =>
    obtain ⟨n, rfl, hn1, hn2, hbw, hws, c0, c1, c2, c3⟩ := hrel
    by_cases hnl : n ≤ s.size
    · have hAr := HAW.out.later (B' := g + 1) hbw (by omega)
      obtain ⟨br, bl, ca0, ca1, haB, hq1, hq2⟩ := hAr.use
      have hml : (s.extract 0 n).size ≤ maxLen := by rw [ByteArray.size_extract]; unfold maxLen; omega
      have hbB : ∀ o, Below B wr ((wr.alloc o).drew) := fun o => ((Below.refl _ _).alloc (by omega) o).drew
      obtain ⟨F, hF⟩ : ∃ F, (if (findL rs (s.extract 0 n)).2 then (findL rs (s.extract 0 n)).1 else noRule) = F := ⟨_, rfl⟩
      obtain ⟨ok, hok⟩ : ∃ ok, (findL rs (s.extract 0 n)).2 = ok := ⟨_, rfl⟩
      obtain ⟨lg, hlg⟩ : ∃ lg, longL rs (s.extract 0 n) = lg := ⟨_, rfl⟩
      have hl0 := fun o => hq1.out (s.extract 0 n) hml _ (hbB o)
      have hl1 := hq1.out (s.extract 0 n) hml _ (Below.refl B wr).drew
      rw [hF, hok] at hl0 hl1
      unfold ragg at hl0 hl1
      have cb0 := fun o => (hbB o).cell (p := ⟨a, 0, none⟩) haB
      rw [ca0] at cb0
      have n0 : (0 : Int) ≤ n := by omega
      have n1 : (n : Int) ≤ s.size := by omega
      have hx0 : (s.extract 0 n).size ≠ 0 := by rw [ByteArray.size_extract]; omega
      have hstep : ruleX rs s n = if ok then F else ruleX rs s (n - 1) := by
        obtain ⟨m, rfl⟩ : ∃ m, n = m + 1 := ⟨n - 1, by omega⟩
        unfold ruleX
        conv => lhs; unfold bestN
        rw [← ext_take, hok]
        cases ok
        · rfl
        · rw [if_pos rfl, if_pos rfl, ← hF, hok]; rfl
      have hstop : lg = false → ruleX rs s s.size = ruleX rs s n := fun h => by
        unfold ruleX
        rw [best_stop (n := n) (by rw [← ext_take, hlg, h]) s.size hnl (by rw [bs_len]; exact Nat.le_refl _)]
      have HST := Lib.hid hstep
      have HSP := Lib.hid hstop
      have HQ2 := Lib.hid (hq2.out (s.extract 0 n) hml hx0)
      rw [hlg] at HQ2
      clear hbB hF hok hlg hstep hstop hx0 hq1 hq2
      generalize ruleX rs s (n - 1) = X at *
      obtain ⟨fk, fo, fn⟩ := F
      go_wp2
      go_region
      obtain ⟨V, hV⟩ : ∃ V, (wr.alloc (Obj.cells #[Value.string fk, Value.string fo, Value.string fn] 32)).drew = V := ⟨_, rfl⟩
      have hVb : Below wr.heap.size wr V := by rw [← hV]; exact ((Below.refl _ _).alloc (Nat.le_refl _) _).drew
      have hVs : V.heap.size = wr.heap.size + 1 := by rw [← hV]; simp
      have e3 : V.heap[wr.heap.size]? = some (Obj.cells #[Value.string fk, Value.string fo, Value.string fn] 32) := by rw [← hV]; exact heap_alloc_new wr _
      have d0 : V.cell? ⟨wr.heap.size, 0, none⟩ = some (.string fk) := by rw [cell_of_row V _ 0 _ _ _ e3]; rfl
      have d1 : V.cell? ⟨wr.heap.size, 1, none⟩ = some (.string fo) := by rw [cell_of_row V _ 1 _ _ _ e3]; rfl
      have d2 : V.cell? ⟨wr.heap.size, 2, none⟩ = some (.string fn) := by rw [cell_of_row V _ 2 _ _ _ e3]; rfl
      rw [hV]
      rw [← hVb.cell (p := ⟨g + 1, 0, none⟩) (by show g + 1 < _; omega)] at c0
      rw [← hVb.cell (p := ⟨g + 1, 1, none⟩) (by show g + 1 < _; omega)] at c1
      rw [← hVb.cell (p := ⟨g + 1, 2, none⟩) (by show g + 1 < _; omega)] at c2
      rw [← hVb.cell (p := ⟨a, 1, none⟩) (by show a < _; omega)] at ca1
      have c3 : ∀ j, V.frozen? ⟨g + 1, j, none⟩ = false := fun j => by rw [hVb.frozen (by show g + 1 < _; omega)]; exact c3 j
      have hbV : Below (g + 1) W V := hbw.trans (hVb.mono (by omega))
      have HQ3 : Hid (∀ W, Below (g + 1) V W → (Instr.lookup 53 (.map (some bl)) (.string (s.extract 0 n)) false).run Try.prog W = .ok (.bool lg) W) := Lib.hid fun W h => HQ2.out W ((hVb.mono (by omega)).trans (h.mono (by omega)))
      clear hV e3 hl0 hl1 cb0 HQ2 ca0 hVb hbw f0 f1 f2 f3
      have HST := Lib.hid HST.out.symm
      have tail : ∀ (V3 : World) (Y : Rule), Below (g + 1) V V3 → V3.cell? ⟨g + 1, 0, none⟩ = some (.string Y.k) → V3.cell? ⟨g + 1, 1, none⟩ = some (.string Y.o) → V3.cell? ⟨g + 1, 2, none⟩ = some (.string Y.n) → V3.cell? ⟨a, 1, none⟩ = some (.map (some bl)) ∧ (Instr.lookup 53 (.map (some bl)) (.string (s.extract 0 n)) false).run Try.prog V3.drew = .ok (.bool lg) V3.drew := fun V3 Y h1 _ _ _ => ⟨by rw [h1.cell (by show a < _; omega)]; exact ca1, HQ3.out _ h1.drew⟩
      cases ok
      · have hq4 := HQ3.out _ (Below.refl _ V).drew
        have HY := Lib.hid (show ruleX rs s n = X from HST.out.symm)
        cases lg
        · have hv := HV.out.later (B := g + 1) (w' := V.drew) hbV.drew (by omega)
          have hw := HV.out.later (B := g + 1) (w' := V) hbV (by omega)
          have v0 := hw.z0
          have v1 := hw.z1
          have v2 := hw.z2
          have v3 := hw.y
          go_wp2
          go_region
          go_wp2
          (try simp only [Exit.inBlock, Exit.then])
          have HE : ruleX rs s s.size = X := by rw [HSP.out (by first | rfl | trivial), HY.out]
          rw [HE]
          refine bodyPost_ret (v := ragg X) ?_ rfl ⟨rfl, by rw [hg]; exact (below_set3 (hb0.trans (hbV.mono (by omega))) (Nat.le_refl _) _ _ _).drew⟩
          rw [results_cell1 rfl]
          obtain ⟨q0, q1, q2⟩ := hw.set X
          show ((loadVar 32 ⟨g, 0, none⟩).run Try.prog _) = _
          refine load_rule (r := X) ?_ ?_ ?_
          · exact q0
          · exact q1
          · exact q2
        · go_wp2
          go_region
          go_wp2
          go_roundw
          case rel => exact ⟨n + 1, by go_num, by omega, by omega, hbV.drew, by show g + 2 ≤ V.heap.size; omega, by rw [Nat.add_sub_cancel, HY.out]; exact c0, by rw [Nat.add_sub_cancel, HY.out]; exact c1, by rw [Nat.add_sub_cancel, HY.out]; exact c2, c3⟩
          case measure => simp [intOf]; omega
      · have HY := Lib.hid (show ruleX rs s n = ⟨fk, fo, fn⟩ from HST.out.symm)
        obtain ⟨p0, p1, p2⟩ := three_set (w := V) (g := g + 1) (x := .string fk) (y := .string fo) (z := .string fn) (by rw [c0]; rfl) (by rw [c1]; rfl) (by rw [c2]; rfl)
        have hb3 : Below (g + 1) V (((V.setCell ⟨g + 1, 0, none⟩ (.string fk)).setCell ⟨g + 1, 1, none⟩ (.string fo)).setCell ⟨g + 1, 2, none⟩ (.string fn)) := below_set3 (Below.refl _ _) (Nat.le_refl _) _ _ _
        have y3 : ∀ j, (((V.setCell ⟨g + 1, 0, none⟩ (.string fk)).setCell ⟨g + 1, 1, none⟩ (.string fo)).setCell ⟨g + 1, 2, none⟩ (.string fn)).frozen? ⟨g + 1, j, none⟩ = false := fun j => by simp [c3]
        have s3 : V.heap.size ≤ (((V.setCell ⟨g + 1, 0, none⟩ (.string fk)).setCell ⟨g + 1, 1, none⟩ (.string fo)).setCell ⟨g + 1, 2, none⟩ (.string fn)).heap.size := by simp
        have hq4 := HQ3.out _ hb3.drew
        have ca3 := (hb3.cell (p := ⟨a, 1, none⟩) (by show a < _; omega)).trans ca1
        have HP := Lib.hid (And.intro p0 (And.intro p1 p2))
        have HB3 := Lib.hid hb3
        have Y3 := Lib.hid y3
        have S3 := Lib.hid s3
        clear hb3 y3 s3 p0 p1 p2
        generalize hV3 : (((V.setCell ⟨g + 1, 0, none⟩ (.string fk)).setCell ⟨g + 1, 1, none⟩ (.string fo)).setCell ⟨g + 1, 2, none⟩ (.string fn)) = V3 at hq4 ca3 HP HB3 Y3 S3
        have HV3 := Lib.hid hV3
        clear hV3
        go_wp2
        rw [HV3.out]
        obtain ⟨p0, p1, p2⟩ := HP.out
        have b3 := HB3.out
        have y3 := Y3.out
        have s3 := S3.out
        cases lg
        · have hv := HV.out.later (B := g + 1) (w' := V3.drew) (hbV.trans b3).drew (by omega)
          have hw := HV.out.later (B := g + 1) (w' := V3) (hbV.trans b3) (by omega)
          have v0 := hw.z0
          have v1 := hw.z1
          have v2 := hw.z2
          have v3 := hw.y
          go_wp2
          go_region
          go_wp2
          (try simp only [Exit.inBlock, Exit.then])
          have HE : ruleX rs s s.size = ⟨fk, fo, fn⟩ := by rw [HSP.out (by first | rfl | trivial), HY.out]
          rw [HE]
          refine bodyPost_ret (v := ragg ⟨fk, fo, fn⟩) ?_ rfl ⟨rfl, by rw [hg]; exact (below_set3 (hb0.trans ((hbV.trans b3).mono (by omega))) (Nat.le_refl _) _ _ _).drew⟩
          rw [results_cell1 rfl]
          obtain ⟨q0, q1, q2⟩ := hw.set ⟨fk, fo, fn⟩
          show ((loadVar 32 ⟨g, 0, none⟩).run Try.prog _) = _
          refine load_rule (r := ⟨fk, fo, fn⟩) ?_ ?_ ?_
          · exact q0
          · exact q1
          · exact q2
        · go_region
          go_wp2
          go_roundw
          case rel => exact ⟨n + 1, by go_num, by omega, by omega, (hbV.trans b3).drew, by show g + 2 ≤ V3.heap.size; omega, by rw [Nat.add_sub_cancel, HY.out]; exact p0, by rw [Nat.add_sub_cancel, HY.out]; exact p1, by rw [Nat.add_sub_cancel, HY.out]; exact p2, y3⟩
          case measure => simp [intOf]; omega
    · obtain rfl : n = s.size + 1 := by omega
      rw [Nat.add_sub_cancel] at c0 c1 c2
      have hv := HV.out.later (B := g + 1) hbw (by omega)
      have v0 := hv.z0
      have v1 := hv.z1
      have v2 := hv.z2
      have v3 := hv.y
      have HE := Lib.hid (show ruleX rs s s.size = ruleX rs s s.size from rfl)
      obtain ⟨Y, hY⟩ : ∃ Y, ruleX rs s s.size = Y := ⟨_, rfl⟩
      rw [hY] at c0 c1 c2
      have HY := Lib.hid hY
      clear f0 f1 f2 f3 hY
      go_wp2
      (try simp only [Exit.inBlock, Exit.then])
      rw [HY.out]
      refine bodyPost_ret (v := ragg Y) ?_ rfl ⟨rfl, (below_set3 (hb0.trans (hbw.mono (by omega))) (Nat.le_refl _) _ _ _)⟩
      rw [results_cell1 rfl]
      obtain ⟨q0, q1, q2⟩ := hv.set Y
      show ((loadVar 32 ⟨g, 0, none⟩).run Try.prog _) = _
      refine load_rule (r := Y) ?_ ?_ ?_
      · exact q0
      · exact q1
      · exact q2

end Go.Proofs.Ytmbccolkgephgaa.Aut
