/-
  Joined texts: AutR, CmpI, CmpF.
-/
import Derived.Test.YtlmbbpppfghcbaaM6
import Derived.Deep.RegionHeld3
import Derived.Test.YtlmbbpppfghcbaaM7
import Derived.Deep.RegionLaw
import Derived.Deep.DeepCutAuto
set_option linter.unusedVariables false
set_option linter.unusedSimpArgs false
set_option maxRecDepth 100000
namespace Go.Proofs.Ytlmbbpppfghcbaa.Aut
open Go Go.RowKit Go.Proofs.Ytlmbbpppfghcbaa.Kit Go.Proofs.Ytlmbbpppfghcbaa.Utf Go.Proofs.Ytlmbbpppfghcbaa.Rom

theorem ext_take (s : ByteArray) (n : Nat) : s.extract 0 n = ba ((bs s).take n) := ba_ext (by simp [bs, ba, ByteArray.data_extract])
theorem ext_drop (s : ByteArray) (n : Nat) : s.extract n s.size = ba ((bs s).drop n) := ba_ext (by
  simp only [bs, ba, ByteArray.data_extract, Array.toList_extract]
  rw [List.extract_eq_take_drop, List.take_of_length_le]
  rw [List.length_drop, Array.length_toList]; exact Nat.le_refl _)
theorem best_stop {rs : List Rule} {s : By} {n : Nat} (h : longL rs (ba (s.take n)) = false) : ∀ (m : Nat), n ≤ m → m ≤ s.length → bestN rs s m = bestN rs s n := by
  intro m
  induction m with
  | zero => intro h1 _; obtain rfl : n = 0 := by omega
            rfl
  | succ m ih =>
    intro h1 h2
    by_cases e : n = m + 1
    · rw [e]
    · rw [← ih (by omega) (by omega)]
      conv => lhs; unfold bestN
      rw [if_neg]
      intro hf
      obtain ⟨h3, h4⟩ := findL_yes hf
      unfold longL at h
      rw [List.any_eq_false] at h
      apply h _ h3
      unfold longR
      rw [Bool.and_eq_true, decide_eq_true_eq, List.isPrefixOf_iff_prefix, h4, ba_size, ba_size, bs_ba, bs_ba]
      refine ⟨by simp only [List.length_take]; omega, ?_⟩
      exact List.take_prefix_take_left (by omega)

/-- The rule that is applied, if need be the one that writes the first key. -/
def ruleX (rs : List Rule) (s : ByteArray) (n : Nat) : Rule := (bestN rs (bs s) n).getD ⟨s.extract 0 1, s.extract 0 1, ⟨#[]⟩⟩

set_option maxHeartbeats 4000000 in
theorem rule_any (B a : Nat) (rs : List Rule) (s : ByteArray) (w : World) (hA : AutoAt B w a rs) (hB : B ≤ w.heap.size) (h0 : 0 < s.size) (hs : s.size ≤ 70368744177664) :
    Calls Try.prog 97 #[.pointer (some ⟨a, 0, none⟩), .string s] w fun e w' => e = .returned (ragg (ruleX rs s s.size)) ∧ Below w.heap.size w w' := by
  have HA := Lib.hid hA
  have k1 : (1 : Int) ≤ s.size := by omega
  clear hA
  go_enter Try.func97, Try.ntmps97
  go_wp2
  go_region
  obtain ⟨W, hW⟩ : ∃ W, ((w.alloc (Obj.cells #[Value.string { data := #[] }, Value.string { data := #[] }, Value.string { data := #[] }] 80)).alloc (Obj.cells #[Value.string (s.extract 0 1), Value.string (s.extract 0 1), Value.string { data := #[] }] 80)).drew = W := ⟨_, rfl⟩
  have hb0 : Below w.heap.size w W := by rw [← hW]; exact (((Below.refl _ _).alloc (Nat.le_refl _) _).alloc (by simp) _).drew
  have hWs : W.heap.size = w.heap.size + 2 := by rw [← hW]; simp
  have e1 : W.heap[w.heap.size]? = some (Obj.cells #[Value.string { data := #[] }, Value.string { data := #[] }, Value.string { data := #[] }] 80) := by
    rw [← hW]; exact (heap_two w _ _).1
  have e2 : W.heap[w.heap.size + 1]? = some (Obj.cells #[Value.string (s.extract 0 1), Value.string (s.extract 0 1), Value.string { data := #[] }] 80) := by
    rw [← hW]; exact (heap_two w _ _).2
  rw [hW]
  have HV := Lib.hid (Var3.of e1)
  have f0 : W.cell? ⟨w.heap.size + 1, 0, none⟩ = some (.string (ruleX rs s 0).k) := by rw [cell_of_row W _ 0 _ _ _ e2]; rfl
  have f1 : W.cell? ⟨w.heap.size + 1, 1, none⟩ = some (.string (ruleX rs s 0).o) := by rw [cell_of_row W _ 1 _ _ _ e2]; rfl
  have f2 : W.cell? ⟨w.heap.size + 1, 2, none⟩ = some (.string (ruleX rs s 0).n) := by rw [cell_of_row W _ 2 _ _ _ e2]; rfl
  have f3 : ∀ j, W.frozen? ⟨w.heap.size + 1, j, none⟩ = false := fun j => by unfold World.frozen?; rw [show W.heap[(⟨w.heap.size + 1, j, none⟩ : Addr).block]? = _ from e2]; simp
  obtain ⟨g, hg⟩ : ∃ g, w.heap.size = g := ⟨_, rfl⟩
  rw [hg] at hb0 hWs HV f0 f1 f2 f3 hB ⊢
  have HAW := Lib.hid (HA.out.later hb0 hB)
  clear hW e1 e2
  go_wp2
  go_loopw [6] (fun i wr => ∃ n : Nat, i = .int .i64 n ∧ 1 ≤ n ∧ n ≤ s.size + 1 ∧ Below (g + 1) W wr ∧ g + 2 ≤ wr.heap.size ∧ wr.cell? ⟨g + 1, 0, none⟩ = some (.string (ruleX rs s (n - 1)).k) ∧ wr.cell? ⟨g + 1, 1, none⟩ = some (.string (ruleX rs s (n - 1)).o) ∧ wr.cell? ⟨g + 1, 2, none⟩ = some (.string (ruleX rs s (n - 1)).n) ∧ ∀ j, wr.frozen? ⟨g + 1, j, none⟩ = false) (fun i _ => s.size + 1 - (intOf i).toNat)
  case atStart => exact ⟨1, rfl, Nat.le_refl _, by omega, Below.refl _ _, by omega, f0, f1, f2, f3⟩
  case round =>
    obtain ⟨n, rfl, hn1, hn2, hbw, hws, c0, c1, c2, c3⟩ := hrel
    by_cases hnl : n ≤ s.size
    · have hAr := HAW.out.later (B' := g + 1) hbw (by omega)
      obtain ⟨br, bl, ca0, ca1, haB, hq1, hq2⟩ := hAr.use
      have hml : (s.extract 0 n).size ≤ maxLen := by rw [ByteArray.size_extract]; unfold maxLen; omega
      have hbB : ∀ o, Below B wr ((wr.alloc o).drew) := fun o => ((Below.refl _ _).alloc (by omega) o).drew
      obtain ⟨F, hF⟩ : ∃ F, (if (findL rs (s.extract 0 n)).2 then (findL rs (s.extract 0 n)).1 else noRule) = F := ⟨_, rfl⟩
      obtain ⟨ok, hok⟩ : ∃ ok, (findL rs (s.extract 0 n)).2 = ok := ⟨_, rfl⟩
      obtain ⟨lg, hlg⟩ : ∃ lg, longL rs (s.extract 0 n) = lg := ⟨_, rfl⟩
      have hl0 := fun o => hq1.out (s.extract 0 n) hml _ (hbB o)
      have hl1 := hq1.out (s.extract 0 n) hml _ (Below.refl B wr).drew
      rw [hF, hok] at hl0 hl1
      unfold ragg at hl0 hl1
      have cb0 := fun o => (hbB o).cell (p := ⟨a, 0, none⟩) haB
      rw [ca0] at cb0
      have n0 : (0 : Int) ≤ n := by omega
      have n1 : (n : Int) ≤ s.size := by omega
      have hx0 : (s.extract 0 n).size ≠ 0 := by rw [ByteArray.size_extract]; omega
      have hstep : ruleX rs s n = if ok then F else ruleX rs s (n - 1) := by
        obtain ⟨m, rfl⟩ : ∃ m, n = m + 1 := ⟨n - 1, by omega⟩
        unfold ruleX
        conv => lhs; unfold bestN
        rw [← ext_take, hok]
        cases ok
        · rfl
        · rw [if_pos rfl, if_pos rfl, ← hF, hok]; rfl
      have hstop : lg = false → ruleX rs s s.size = ruleX rs s n := fun h => by
        unfold ruleX
        rw [best_stop (n := n) (by rw [← ext_take, hlg, h]) s.size hnl (by rw [bs_len]; exact Nat.le_refl _)]
      have HST := Lib.hid hstep
      have HSP := Lib.hid hstop
      have HQ2 := Lib.hid (hq2.out (s.extract 0 n) hml hx0)
      rw [hlg] at HQ2
      clear hbB hF hok hlg hstep hstop hx0 hq1 hq2
      generalize ruleX rs s (n - 1) = X at *
      obtain ⟨fk, fo, fn⟩ := F
      go_wp2
      go_region
      obtain ⟨V, hV⟩ : ∃ V, (wr.alloc (Obj.cells #[Value.string fk, Value.string fo, Value.string fn] 80)).drew = V := ⟨_, rfl⟩
      have hVb : Below wr.heap.size wr V := by rw [← hV]; exact ((Below.refl _ _).alloc (Nat.le_refl _) _).drew
      have hVs : V.heap.size = wr.heap.size + 1 := by rw [← hV]; simp
      have e3 : V.heap[wr.heap.size]? = some (Obj.cells #[Value.string fk, Value.string fo, Value.string fn] 80) := by rw [← hV]; exact heap_alloc_new wr _
      have d0 : V.cell? ⟨wr.heap.size, 0, none⟩ = some (.string fk) := by rw [cell_of_row V _ 0 _ _ _ e3]; rfl
      have d1 : V.cell? ⟨wr.heap.size, 1, none⟩ = some (.string fo) := by rw [cell_of_row V _ 1 _ _ _ e3]; rfl
      have d2 : V.cell? ⟨wr.heap.size, 2, none⟩ = some (.string fn) := by rw [cell_of_row V _ 2 _ _ _ e3]; rfl
      rw [hV]
      rw [← hVb.cell (p := ⟨g + 1, 0, none⟩) (by show g + 1 < _; omega)] at c0
      rw [← hVb.cell (p := ⟨g + 1, 1, none⟩) (by show g + 1 < _; omega)] at c1
      rw [← hVb.cell (p := ⟨g + 1, 2, none⟩) (by show g + 1 < _; omega)] at c2
      rw [← hVb.cell (p := ⟨a, 1, none⟩) (by show a < _; omega)] at ca1
      have c3 : ∀ j, V.frozen? ⟨g + 1, j, none⟩ = false := fun j => by rw [hVb.frozen (by show g + 1 < _; omega)]; exact c3 j
      have hbV : Below (g + 1) W V := hbw.trans (hVb.mono (by omega))
      have HQ3 : Hid (∀ W, Below (g + 1) V W → (Instr.lookup 76 (.map (some bl)) (.string (s.extract 0 n)) false).run Try.prog W = .ok (.bool lg) W) := Lib.hid fun W h => HQ2.out W ((hVb.mono (by omega)).trans (h.mono (by omega)))
      clear hV e3 hl0 hl1 cb0 HQ2 ca0 hVb hbw f0 f1 f2 f3
      have HST := Lib.hid HST.out.symm
      have tail : ∀ (V3 : World) (Y : Rule), Below (g + 1) V V3 → V3.cell? ⟨g + 1, 0, none⟩ = some (.string Y.k) → V3.cell? ⟨g + 1, 1, none⟩ = some (.string Y.o) → V3.cell? ⟨g + 1, 2, none⟩ = some (.string Y.n) → V3.cell? ⟨a, 1, none⟩ = some (.map (some bl)) ∧ (Instr.lookup 76 (.map (some bl)) (.string (s.extract 0 n)) false).run Try.prog V3.drew = .ok (.bool lg) V3.drew := fun V3 Y h1 _ _ _ => ⟨by rw [h1.cell (by show a < _; omega)]; exact ca1, HQ3.out _ h1.drew⟩
      cases ok
      · have hq4 := HQ3.out _ (Below.refl _ V).drew
        have HY := Lib.hid (show ruleX rs s n = X from HST.out.symm)
        cases lg
        · have hv := HV.out.later (B := g + 1) (w' := V.drew) hbV.drew (by omega)
          have hw := HV.out.later (B := g + 1) (w' := V) hbV (by omega)
          have v0 := hw.z0
          have v1 := hw.z1
          have v2 := hw.z2
          have v3 := hw.y
          go_wp2
          go_region
          go_wp2
          (try simp only [Exit.inBlock, Exit.then])
          have HE : ruleX rs s s.size = X := by rw [HSP.out (by first | rfl | trivial), HY.out]
          rw [HE]
          refine bodyPost_ret (v := ragg X) ?_ rfl ⟨rfl, by rw [hg]; exact (below_set3 (hb0.trans (hbV.mono (by omega))) (Nat.le_refl _) _ _ _).drew⟩
          rw [results_cell1 rfl]
          obtain ⟨q0, q1, q2⟩ := hw.set X
          show ((loadVar 80 ⟨g, 0, none⟩).run Try.prog _) = _
          refine load_rule (r := X) ?_ ?_ ?_
          · exact q0
          · exact q1
          · exact q2
        · go_wp2
          go_region
          go_wp2
          go_roundw
          case rel => exact ⟨n + 1, by go_num, by omega, by omega, hbV.drew, by show g + 2 ≤ V.heap.size; omega, by rw [Nat.add_sub_cancel, HY.out]; exact c0, by rw [Nat.add_sub_cancel, HY.out]; exact c1, by rw [Nat.add_sub_cancel, HY.out]; exact c2, c3⟩
          case measure => simp [intOf]; omega
      · have HY := Lib.hid (show ruleX rs s n = ⟨fk, fo, fn⟩ from HST.out.symm)
        obtain ⟨p0, p1, p2⟩ := three_set (w := V) (g := g + 1) (x := .string fk) (y := .string fo) (z := .string fn) (by rw [c0]; rfl) (by rw [c1]; rfl) (by rw [c2]; rfl)
        have hb3 : Below (g + 1) V (((V.setCell ⟨g + 1, 0, none⟩ (.string fk)).setCell ⟨g + 1, 1, none⟩ (.string fo)).setCell ⟨g + 1, 2, none⟩ (.string fn)) := below_set3 (Below.refl _ _) (Nat.le_refl _) _ _ _
        have y3 : ∀ j, (((V.setCell ⟨g + 1, 0, none⟩ (.string fk)).setCell ⟨g + 1, 1, none⟩ (.string fo)).setCell ⟨g + 1, 2, none⟩ (.string fn)).frozen? ⟨g + 1, j, none⟩ = false := fun j => by simp [c3]
        have s3 : V.heap.size ≤ (((V.setCell ⟨g + 1, 0, none⟩ (.string fk)).setCell ⟨g + 1, 1, none⟩ (.string fo)).setCell ⟨g + 1, 2, none⟩ (.string fn)).heap.size := by simp
        have hq4 := HQ3.out _ hb3.drew
        have ca3 := (hb3.cell (p := ⟨a, 1, none⟩) (by show a < _; omega)).trans ca1
        have HP := Lib.hid (And.intro p0 (And.intro p1 p2))
        have HB3 := Lib.hid hb3
        have Y3 := Lib.hid y3
        have S3 := Lib.hid s3
        clear hb3 y3 s3 p0 p1 p2
        generalize hV3 : (((V.setCell ⟨g + 1, 0, none⟩ (.string fk)).setCell ⟨g + 1, 1, none⟩ (.string fo)).setCell ⟨g + 1, 2, none⟩ (.string fn)) = V3 at hq4 ca3 HP HB3 Y3 S3
        have HV3 := Lib.hid hV3
        clear hV3
        go_wp2
        rw [HV3.out]
        obtain ⟨p0, p1, p2⟩ := HP.out
        have b3 := HB3.out
        have y3 := Y3.out
        have s3 := S3.out
        cases lg
        · have hv := HV.out.later (B := g + 1) (w' := V3.drew) (hbV.trans b3).drew (by omega)
          have hw := HV.out.later (B := g + 1) (w' := V3) (hbV.trans b3) (by omega)
          have v0 := hw.z0
          have v1 := hw.z1
          have v2 := hw.z2
          have v3 := hw.y
          go_wp2
          go_region
          go_wp2
          (try simp only [Exit.inBlock, Exit.then])
          have HE : ruleX rs s s.size = ⟨fk, fo, fn⟩ := by rw [HSP.out (by first | rfl | trivial), HY.out]
          rw [HE]
          refine bodyPost_ret (v := ragg ⟨fk, fo, fn⟩) ?_ rfl ⟨rfl, by rw [hg]; exact (below_set3 (hb0.trans ((hbV.trans b3).mono (by omega))) (Nat.le_refl _) _ _ _).drew⟩
          rw [results_cell1 rfl]
          obtain ⟨q0, q1, q2⟩ := hw.set ⟨fk, fo, fn⟩
          show ((loadVar 80 ⟨g, 0, none⟩).run Try.prog _) = _
          refine load_rule (r := ⟨fk, fo, fn⟩) ?_ ?_ ?_
          · exact q0
          · exact q1
          · exact q2
        · go_region
          go_wp2
          go_roundw
          case rel => exact ⟨n + 1, by go_num, by omega, by omega, (hbV.trans b3).drew, by show g + 2 ≤ V3.heap.size; omega, by rw [Nat.add_sub_cancel, HY.out]; exact p0, by rw [Nat.add_sub_cancel, HY.out]; exact p1, by rw [Nat.add_sub_cancel, HY.out]; exact p2, y3⟩
          case measure => simp [intOf]; omega
    · obtain rfl : n = s.size + 1 := by omega
      rw [Nat.add_sub_cancel] at c0 c1 c2
      have hv := HV.out.later (B := g + 1) hbw (by omega)
      have v0 := hv.z0
      have v1 := hv.z1
      have v2 := hv.z2
      have v3 := hv.y
      have HE := Lib.hid (show ruleX rs s s.size = ruleX rs s s.size from rfl)
      obtain ⟨Y, hY⟩ : ∃ Y, ruleX rs s s.size = Y := ⟨_, rfl⟩
      rw [hY] at c0 c1 c2
      have HY := Lib.hid hY
      clear f0 f1 f2 f3 hY
      go_wp2
      (try simp only [Exit.inBlock, Exit.then])
      rw [HY.out]
      refine bodyPost_ret (v := ragg Y) ?_ rfl ⟨rfl, (below_set3 (hb0.trans (hbw.mono (by omega))) (Nat.le_refl _) _ _ _)⟩
      rw [results_cell1 rfl]
      obtain ⟨q0, q1, q2⟩ := hv.set Y
      show ((loadVar 80 ⟨g, 0, none⟩).run Try.prog _) = _
      refine load_rule (r := Y) ?_ ?_ ?_
      · exact q0
      · exact q1
      · exact q2

end Go.Proofs.Ytlmbbpppfghcbaa.Aut

set_option linter.unusedVariables false
set_option linter.unusedSimpArgs false
set_option maxRecDepth 100000
namespace Go.Proofs.Ytlmbbpppfghcbaa.Cmp
open Go Go.RowKit Go.Proofs.Ytlmbbpppfghcbaa.Kit Go.Proofs.Ytlmbbpppfghcbaa.Utf Go.Proofs.Ytlmbbpppfghcbaa.Rom Go.Proofs.Ytlmbbpppfghcbaa.Aut

/-- What a call hands back that returns a buffer in new memory. -/
def NewB (b : Bf) (w : World) (e : Ending) (w' : World) : Prop :=
  ∃ a m k, e = .returned (.agg #[.slice a m k, .int .i64 b.c, .string b.p]) ∧ w'.ownsRow w.heap.size 65 2 (.slice a m k) b.is.length (ic b.is) ∧ Below w.heap.size w w'
theorem newB_read {b : Bf} {w : World} {e : Ending} {w' : World} (h : NewB b w e w') : ∃ v, e = .returned v ∧ BfR w' v b ∧ Below w.heap.size w w' := by
  obtain ⟨a, m, k, rfl, ho, hb⟩ := h
  exact ⟨_, rfl, ⟨_, rfl, (items_of_own ho).1⟩, hb⟩
theorem copied_new (b : Bf) (s : Value) (w : World) (hR : ItR w s b.is) (hsh : Sh b) :
    Calls Try.prog 47 #[.agg #[s, .int .i64 b.c, .string b.p]] w (NewB b w) := by
  refine (copied_any b s w hR hsh).mono ?_
  rintro e w' ⟨v, rfl, ho, hb⟩
  obtain ⟨a, m, k, rfl⟩ := slice_of_own ho
  exact ⟨a, m, k, rfl, ho, hb⟩

theorem box_facts {W : World} {g : Nat} {x0 x1 x2 : Value} {t : TypeId} (h : W.heap[g]? = some (Obj.cells #[x0, x1, x2] t)) :
    W.cell? ⟨g, 0, none⟩ = some x0 ∧ W.cell? ⟨g, 1, none⟩ = some x1 ∧ W.cell? ⟨g, 2, none⟩ = some x2 ∧ ∀ j, W.frozen? ⟨g, j, none⟩ = false := by
  refine ⟨?_, ?_, ?_, fun j => frozen_of_row _ _ j _ _ h⟩
  · rw [cell_of_row _ _ 0 _ _ _ h]; rfl
  · rw [cell_of_row _ _ 1 _ _ _ h]; rfl
  · rw [cell_of_row _ _ 2 _ _ _ h]; rfl

set_option maxHeartbeats 4000000 in
theorem move_any (b : Bf) (n : Int) (v : Value) (w : World) (hR : BfR w v b) (hsh : Sh b) (hn : (Lit.int .i64 n).wf = true) :
    Calls Try.prog 26 #[v, .int .i64 n] w (NewB (movB b n) w) := by
  obtain ⟨a, len, cap, rfl, hI⟩ := hR.open
  have HV := Lib.hid (fun s W (hI : ItR W s b.is) => valid_any b s W hI hsh)
  have HC := Lib.hid (fun s W (hI : ItR W s b.is) => copied_new b s W hI hsh)
  have HI := Lib.hid (fun (W : World) (h : Below w.heap.size w W) => hI.later h (Nat.le_refl _))
  have hvp := @val_parts b
  unfold movB
  clear hR hI hsh
  obtain ⟨is, c, p⟩ := b
  simp only at *
  cases hv : val ⟨is, c, p⟩
  · rw [hv] at HV
    clear hv hvp
    simp only [Bool.false_and, Bool.false_eq_true, if_false]
    go_enter Try.func26, Try.ntmps26
    go_wp2_with (first
      | (go_at_call 47; obtain ⟨W, hW⟩ : ∃ W, (w.alloc (Obj.cells #[.slice a len cap, .int .i64 c, .string p] 24)).alloc zeroBuf = W := ⟨_, rfl⟩; rw [hW]; obtain ⟨h1, h2, h3, h4⟩ := start_work hW; clear hW; (with_reducible refine (HC.out _ W (HI.out W h3)).mono ?_); rintro e w5 ⟨a5, m5, k5, rfl, ho5, hb5⟩; have wk5 := Lib.hid (copy_work (b := ⟨is, c, p⟩) h1 h2 h3 h4 ho5 hb5); obtain ⟨g0, g1, g2, g3⟩ := box_facts ((hb5.block w.heap.size (by omega)).trans h1); clear ho5 hb5 h1 h2 h3 h4)
      | (go_at_call 32; obtain ⟨W6, hW6⟩ : ∃ W6, (((w5.setCell ⟨w.heap.size, 0, none⟩ (.slice a5 m5 k5)).setCell ⟨w.heap.size, 1, none⟩ (.int .i64 c)).setCell ⟨w.heap.size, 2, none⟩ (.string p)) = W6 := ⟨_, rfl⟩; rw [hW6]; have wk6 := wk5.out; rw [hW6] at wk6; (with_reducible refine (HV.out _ W6 wk6.items).mono ?_); rintro e w7 ⟨rfl, hb7⟩; have wk7 := wk6.later hb7; clear hW6 wk5 g0 g1 g2 g3; obtain ⟨c0, c1, c2, cf, r0, r1, r2, rf⟩ := wk7.facts; dsimp only at c1 c2; have HWK := Lib.hid wk7; clear wk6 wk7 hb7))
    obtain ⟨W9, hW9, hld, how, hbw⟩ := HWK.out.fin
    dsimp only at hW9 hld how
    rw [← hW9]
    refine bodyPost_ret (v := .agg #[.slice a5 m5 k5, .int .i64 c, .string p]) ?_ rfl ⟨a5, m5, k5, rfl, how, hbw⟩
    rw [results_cell1 rfl]
    exact hld
  obtain ⟨v1, v2, v3, _, v5, _⟩ := hvp hv
  rw [hv] at HV
  by_cases hp : p.size = 0
  rotate_left
  · have he := empty_str p
    rw [decide_eq_false hp] at he
    rw [decide_eq_false hp]
    clear hv hvp
    simp only [Bool.and_false, Bool.false_eq_true, if_false]
    go_enter Try.func26, Try.ntmps26
    go_wp2_with (first
      | (go_at_call 47; obtain ⟨W, hW⟩ : ∃ W, (w.alloc (Obj.cells #[.slice a len cap, .int .i64 c, .string p] 24)).alloc zeroBuf = W := ⟨_, rfl⟩; rw [hW]; obtain ⟨h1, h2, h3, h4⟩ := start_work hW; clear hW; (with_reducible refine (HC.out _ W (HI.out W h3)).mono ?_); rintro e w5 ⟨a5, m5, k5, rfl, ho5, hb5⟩; have wk5 := Lib.hid (copy_work (b := ⟨is, c, p⟩) h1 h2 h3 h4 ho5 hb5); obtain ⟨g0, g1, g2, g3⟩ := box_facts ((hb5.block w.heap.size (by omega)).trans h1); clear ho5 hb5 h1 h2 h3 h4)
      | (go_at_call 32; obtain ⟨W6, hW6⟩ : ∃ W6, (((w5.setCell ⟨w.heap.size, 0, none⟩ (.slice a5 m5 k5)).setCell ⟨w.heap.size, 1, none⟩ (.int .i64 c)).setCell ⟨w.heap.size, 2, none⟩ (.string p)) = W6 := ⟨_, rfl⟩; rw [hW6]; have wk6 := wk5.out; rw [hW6] at wk6; (with_reducible refine (HV.out _ W6 wk6.items).mono ?_); rintro e w7 ⟨rfl, hb7⟩; have wk7 := wk6.later hb7; clear hW6 wk5 g0 g1 g2 g3; obtain ⟨c0, c1, c2, cf, r0, r1, r2, rf⟩ := wk7.facts; dsimp only at c1 c2; have HWK := Lib.hid wk7; clear wk6 wk7 hb7))
    obtain ⟨W9, hW9, hld, how, hbw⟩ := HWK.out.fin
    dsimp only at hW9 hld how
    rw [← hW9]
    refine bodyPost_ret (v := .agg #[.slice a5 m5 k5, .int .i64 c, .string p]) ?_ rfl ⟨a5, m5, k5, rfl, how, hbw⟩
    rw [results_cell1 rfl]
    exact hld
  · have he := empty_str p
    rw [decide_eq_true hp] at he
    rw [decide_eq_true hp]
    clear hv hvp
    simp only [Bool.and_true, if_true]
    go_enter Try.func26, Try.ntmps26
    go_wp2_with (first
      | (go_at_call 47; obtain ⟨W, hW⟩ : ∃ W, (w.alloc (Obj.cells #[.slice a len cap, .int .i64 c, .string p] 24)).alloc zeroBuf = W := ⟨_, rfl⟩; rw [hW]; obtain ⟨h1, h2, h3, h4⟩ := start_work hW; clear hW; (with_reducible refine (HC.out _ W (HI.out W h3)).mono ?_); rintro e w5 ⟨a5, m5, k5, rfl, ho5, hb5⟩; have wk5 := Lib.hid (copy_work (b := ⟨is, c, p⟩) h1 h2 h3 h4 ho5 hb5); obtain ⟨g0, g1, g2, g3⟩ := box_facts ((hb5.block w.heap.size (by omega)).trans h1); clear ho5 hb5 h1 h2 h3 h4)
      | (go_at_call 32; obtain ⟨W6, hW6⟩ : ∃ W6, (((w5.setCell ⟨w.heap.size, 0, none⟩ (.slice a5 m5 k5)).setCell ⟨w.heap.size, 1, none⟩ (.int .i64 c)).setCell ⟨w.heap.size, 2, none⟩ (.string p)) = W6 := ⟨_, rfl⟩; rw [hW6]; have wk6 := wk5.out; rw [hW6] at wk6; (with_reducible refine (HV.out _ W6 wk6.items).mono ?_); rintro e w7 ⟨rfl, hb7⟩; have wk7 := wk6.later hb7; clear hW6 wk5 g0 g1 g2 g3; obtain ⟨c0, c1, c2, cf, r0, r1, r2, rf⟩ := wk7.facts; dsimp only at c1 c2; have HWK := Lib.hid wk7; clear wk6 wk7 hb7))
    have hlen5 : m5 = is.length := HWK.out.len
    have hw1 : wrap64 ((m5 : Int) - c) = is.length - c := by unfold wrap64; omega
    have hw2 : wrap64 (c + min (max n (-c)) ((is.length : Int) - c)) = max 0 (min (c + n) is.length) := by unfold wrap64; omega
    rw [hw1, hw2]
    obtain ⟨W9, hW9, hld, how, hbw⟩ := (HWK.out.caret (max 0 (min (c + n) is.length))).fin
    dsimp only at hW9 hld how
    rw [← hW9]
    refine bodyPost_ret (v := .agg #[.slice a5 m5 k5, .int .i64 (max 0 (min (c + n) is.length)), .string p]) ?_ rfl ⟨a5, m5, k5, rfl, how, hbw⟩
    rw [results_cell1 rfl]
    exact hld

theorem own_some {w : World} {base : Nat} {e : TypeId} {a : Option Addr} {n k size : Nat} {xs : List Value} (h : w.ownsRow base e size (.slice a n k) n xs) (h0 : 0 < n) : ∃ g, a = some ⟨g, 0, none⟩ := by
  rcases h.2 with ⟨e1, h1⟩ | ⟨g, c, cur, e1, _⟩
  · omega
  · cases e1; exact ⟨g, rfl⟩

theorem delete_any2 (base g cap k : Nat) (z z2 : Int) (is : List It) (w : World) (hown : w.ownsRow base 65 2 (.slice (some ⟨g, 0, none⟩) is.length cap) is.length (ic is)) (hk : k < is.length) (hz : z = k) (hz2 : z2 = z + 1) (hn : is.length ≤ 1048576) :
    Calls Try.prog 48 #[.slice (some ⟨g, 0, none⟩) is.length cap, .int .i64 z, .int .i64 z2] w fun e w' => e = .returned (.slice (some ⟨g, 0, none⟩) (is.length - 1) cap) ∧ w'.ownsRow base 65 2 (.slice (some ⟨g, 0, none⟩) (is.length - 1) cap) (is.length - 1) (ic (is.eraseIdx k)) ∧ Below base w w' := by
  subst hz2
  exact delete_any base g cap k z is w hown hk hz hn

set_option maxHeartbeats 8000000 in
theorem delete_buf (b : Bf) (v : Value) (w : World) (hR : BfR w v b) (hsh : Sh b) :
    Calls Try.prog 25 #[v] w (NewB (delB b) w) := by
  obtain ⟨a, len, cap, rfl, hI⟩ := hR.open
  have HV := Lib.hid (fun s W (hI : ItR W s b.is) => valid_any b s W hI hsh)
  have HC := Lib.hid (fun s W (hI : ItR W s b.is) => copied_new b s W hI hsh)
  have HI := Lib.hid (fun (W : World) (h : Below w.heap.size w W) => hI.later h (Nat.le_refl _))
  have hvp := @val_parts b
  have hszp := hsh.2.1
  unfold delB
  clear hR hI hsh
  obtain ⟨is, c, p⟩ := b
  simp only at *
  cases hv : val ⟨is, c, p⟩
  · rw [hv] at HV
    clear hv hvp
    simp only [Bool.false_and, Bool.false_eq_true, if_false]
    go_enter Try.func25, Try.ntmps25
    go_wp2_with (first
      | (go_at_call 47; obtain ⟨W, hW⟩ : ∃ W, (w.alloc (Obj.cells #[.slice a len cap, .int .i64 c, .string p] 24)).alloc zeroBuf = W := ⟨_, rfl⟩; rw [hW]; obtain ⟨h1, h2, h3, h4⟩ := start_work hW; clear hW; (with_reducible refine (HC.out _ W (HI.out W h3)).mono ?_); rintro e w5 ⟨a5, m5, k5, rfl, ho5, hb5⟩; have wk5 := Lib.hid (copy_work (b := ⟨is, c, p⟩) h1 h2 h3 h4 ho5 hb5); obtain ⟨g0, g1, g2, g3⟩ := box_facts ((hb5.block w.heap.size (by omega)).trans h1); clear ho5 hb5 h1 h2 h3 h4)
      | (go_at_call 32; obtain ⟨W6, hW6⟩ : ∃ W6, (((w5.setCell ⟨w.heap.size, 0, none⟩ (.slice a5 m5 k5)).setCell ⟨w.heap.size, 1, none⟩ (.int .i64 c)).setCell ⟨w.heap.size, 2, none⟩ (.string p)) = W6 := ⟨_, rfl⟩; rw [hW6]; have wk6 := wk5.out; rw [hW6] at wk6; (with_reducible refine (HV.out _ W6 wk6.items).mono ?_); rintro e w7 ⟨rfl, hb7⟩; have wk7 := wk6.later hb7; clear hW6 wk5 g0 g1 g2 g3; obtain ⟨c0, c1, c2, cf, r0, r1, r2, rf⟩ := wk7.facts; dsimp only at c1 c2; have hl5 := wk7.len; dsimp only at hl5; subst hl5; have HWK := Lib.hid wk7; clear wk6 wk7 hb7))
    obtain ⟨W9, hW9, hld, how, hbw⟩ := (HWK.out).fin
    dsimp only at hW9 hld how
    rw [← hW9]
    refine bodyPost_ret (v := .agg #[.slice a5 (is.length) k5, .int .i64 (c), .string (p)]) ?_ rfl ⟨a5, is.length, k5, rfl, how, hbw⟩
    rw [results_cell1 rfl]
    exact hld
  obtain ⟨v1, v2, v3, _, v5, _⟩ := hvp hv
  rw [hv] at HV
  by_cases hc : c < is.length
  rotate_left
  · rw [decide_eq_false hc]
    clear hv hvp
    simp only [Bool.and_false, Bool.false_eq_true, if_false]
    go_enter Try.func25, Try.ntmps25
    go_wp2_with (first
      | (go_at_call 47; obtain ⟨W, hW⟩ : ∃ W, (w.alloc (Obj.cells #[.slice a len cap, .int .i64 c, .string p] 24)).alloc zeroBuf = W := ⟨_, rfl⟩; rw [hW]; obtain ⟨h1, h2, h3, h4⟩ := start_work hW; clear hW; (with_reducible refine (HC.out _ W (HI.out W h3)).mono ?_); rintro e w5 ⟨a5, m5, k5, rfl, ho5, hb5⟩; have wk5 := Lib.hid (copy_work (b := ⟨is, c, p⟩) h1 h2 h3 h4 ho5 hb5); obtain ⟨g0, g1, g2, g3⟩ := box_facts ((hb5.block w.heap.size (by omega)).trans h1); clear ho5 hb5 h1 h2 h3 h4)
      | (go_at_call 32; obtain ⟨W6, hW6⟩ : ∃ W6, (((w5.setCell ⟨w.heap.size, 0, none⟩ (.slice a5 m5 k5)).setCell ⟨w.heap.size, 1, none⟩ (.int .i64 c)).setCell ⟨w.heap.size, 2, none⟩ (.string p)) = W6 := ⟨_, rfl⟩; rw [hW6]; have wk6 := wk5.out; rw [hW6] at wk6; (with_reducible refine (HV.out _ W6 wk6.items).mono ?_); rintro e w7 ⟨rfl, hb7⟩; have wk7 := wk6.later hb7; clear hW6 wk5 g0 g1 g2 g3; obtain ⟨c0, c1, c2, cf, r0, r1, r2, rf⟩ := wk7.facts; dsimp only at c1 c2; have hl5 := wk7.len; dsimp only at hl5; subst hl5; have HWK := Lib.hid wk7; clear wk6 wk7 hb7))
    obtain ⟨W9, hW9, hld, how, hbw⟩ := (HWK.out).fin
    dsimp only at hW9 hld how
    rw [← hW9]
    refine bodyPost_ret (v := .agg #[.slice a5 (is.length) k5, .int .i64 (c), .string (p)]) ?_ rfl ⟨a5, is.length, k5, rfl, how, hbw⟩
    rw [results_cell1 rfl]
    exact hld
  · rw [decide_eq_true hc]
    have HLT := Lib.hid (show c.toNat < is.length by omega)
    have HZ := Lib.hid (show c = (c.toNat : Int) by omega)
    have HE := Lib.hid (show is.eraseIdx c.toNat = is.eraseIdx c.toNat from rfl)
    clear hv hvp
    simp only [Bool.and_true, if_true]
    go_enter Try.func25, Try.ntmps25
    go_wp2_with (first
      | (go_at_call 47; obtain ⟨W, hW⟩ : ∃ W, (w.alloc (Obj.cells #[.slice a len cap, .int .i64 c, .string p] 24)).alloc zeroBuf = W := ⟨_, rfl⟩; rw [hW]; obtain ⟨h1, h2, h3, h4⟩ := start_work hW; clear hW; (with_reducible refine (HC.out _ W (HI.out W h3)).mono ?_); rintro e w5 ⟨a5, m5, k5, rfl, ho5, hb5⟩; have wk5 := Lib.hid (copy_work (b := ⟨is, c, p⟩) h1 h2 h3 h4 ho5 hb5); obtain ⟨g0, g1, g2, g3⟩ := box_facts ((hb5.block w.heap.size (by omega)).trans h1); clear ho5 hb5 h1 h2 h3 h4)
      | (go_at_call 32; obtain ⟨W6, hW6⟩ : ∃ W6, (((w5.setCell ⟨w.heap.size, 0, none⟩ (.slice a5 m5 k5)).setCell ⟨w.heap.size, 1, none⟩ (.int .i64 c)).setCell ⟨w.heap.size, 2, none⟩ (.string p)) = W6 := ⟨_, rfl⟩; rw [hW6]; have wk6 := wk5.out; rw [hW6] at wk6; (with_reducible refine (HV.out _ W6 wk6.items).mono ?_); rintro e w7 ⟨rfl, hb7⟩; have wk7 := wk6.later hb7; clear hW6 wk5 g0 g1 g2 g3; obtain ⟨c0, c1, c2, cf, r0, r1, r2, rf⟩ := wk7.facts; dsimp only at c1 c2; have hl5 := wk7.len; dsimp only at hl5; subst hl5; have HWK := Lib.hid wk7; clear wk6 wk7 hb7)
      | (go_at_call 48; have ho := (HWK.out).own; dsimp only at ho; obtain ⟨g, hg⟩ := own_some ho (by omega); subst hg; (with_reducible refine (delete_any2 (w.heap.size + 2) g k5 _ _ _ is _ ho HLT.out HZ.out (by have := HZ.out; omega) (by omega)).mono ?_); rintro e w8 ⟨rfl, ho8, hb8⟩; obtain ⟨d0, d1, d2, df⟩ := box_facts ((hb8.block w.heap.size (by omega)).trans (HWK.out).box); obtain ⟨s0, s1, s2, sf⟩ := box_facts ((hb8.block (w.heap.size + 1) (by omega)).trans (HWK.out).res); have HPU := Lib.hid ((HWK.out).put hb8 ho8); clear ho ho8))
    obtain ⟨W9, hW9, hld, how, hbw⟩ := (HPU.out).fin
    dsimp only at hW9 hld how
    rw [← hW9]
    refine bodyPost_ret (v := .agg #[.slice (some ⟨g, 0, none⟩) (is.length - 1) k5, .int .i64 (c), .string (p)]) ?_ rfl ⟨(some ⟨g, 0, none⟩), is.length - 1, k5, rfl, how, hbw⟩
    rw [results_cell1 rfl]
    exact hld

set_option maxHeartbeats 8000000 in
theorem back_buf (b : Bf) (v : Value) (w : World) (hR : BfR w v b) (hsh : Sh b) :
    Calls Try.prog 24 #[v] w (NewB (bacB b) w) := by
  obtain ⟨a, len, cap, rfl, hI⟩ := hR.open
  have HV := Lib.hid (fun s W (hI : ItR W s b.is) => valid_any b s W hI hsh)
  have HC := Lib.hid (fun s W (hI : ItR W s b.is) => copied_new b s W hI hsh)
  have HI := Lib.hid (fun (W : World) (h : Below w.heap.size w W) => hI.later h (Nat.le_refl _))
  have hvp := @val_parts b
  have hszp := hsh.2.1
  unfold bacB
  clear hR hI hsh
  obtain ⟨is, c, p⟩ := b
  simp only at *
  cases hv : val ⟨is, c, p⟩
  · rw [hv] at HV
    clear hv hvp
    simp only [Bool.false_and, Bool.false_eq_true, if_false]
    go_enter Try.func24, Try.ntmps24
    go_wp2_with (first
      | (go_at_call 47; obtain ⟨W, hW⟩ : ∃ W, (w.alloc (Obj.cells #[.slice a len cap, .int .i64 c, .string p] 24)).alloc zeroBuf = W := ⟨_, rfl⟩; rw [hW]; obtain ⟨h1, h2, h3, h4⟩ := start_work hW; clear hW; (with_reducible refine (HC.out _ W (HI.out W h3)).mono ?_); rintro e w5 ⟨a5, m5, k5, rfl, ho5, hb5⟩; have wk5 := Lib.hid (copy_work (b := ⟨is, c, p⟩) h1 h2 h3 h4 ho5 hb5); obtain ⟨g0, g1, g2, g3⟩ := box_facts ((hb5.block w.heap.size (by omega)).trans h1); clear ho5 hb5 h1 h2 h3 h4)
      | (go_at_call 32; obtain ⟨W6, hW6⟩ : ∃ W6, (((w5.setCell ⟨w.heap.size, 0, none⟩ (.slice a5 m5 k5)).setCell ⟨w.heap.size, 1, none⟩ (.int .i64 c)).setCell ⟨w.heap.size, 2, none⟩ (.string p)) = W6 := ⟨_, rfl⟩; rw [hW6]; have wk6 := wk5.out; rw [hW6] at wk6; (with_reducible refine (HV.out _ W6 wk6.items).mono ?_); rintro e w7 ⟨rfl, hb7⟩; have wk7 := wk6.later hb7; clear hW6 wk5 g0 g1 g2 g3; obtain ⟨c0, c1, c2, cf, r0, r1, r2, rf⟩ := wk7.facts; dsimp only at c1 c2; have hl5 := wk7.len; dsimp only at hl5; subst hl5; have HWK := Lib.hid wk7; clear wk6 wk7 hb7))
    obtain ⟨W9, hW9, hld, how, hbw⟩ := (HWK.out).fin
    dsimp only at hW9 hld how
    rw [← hW9]
    refine bodyPost_ret (v := .agg #[.slice a5 (is.length) k5, .int .i64 (c), .string (p)]) ?_ rfl ⟨a5, is.length, k5, rfl, how, hbw⟩
    rw [results_cell1 rfl]
    exact hld
  obtain ⟨v1, v2, v3, _, v5, _⟩ := hvp hv
  rw [hv] at HV
  by_cases hp : p.size ≠ 0
  · have he := empty_str p
    rw [decide_eq_false hp] at he
    simp only [if_true, if_pos hp]
    obtain ⟨q, hq⟩ : ∃ q, p.size = q + 1 := ⟨p.size - 1, by omega⟩
    have hex : p.extract 0 q = ba ((bs p).dropLast) := by rw [ext_take, List.dropLast_eq_take, bs_len, hq]; rfl
    have q0 : (0 : Int) ≤ q := by omega
    have hpz : ((p.size : Nat) : Int) - 1 = q := by omega
    clear hv hvp
    go_enter Try.func24, Try.ntmps24
    go_wp2_with (first
      | (go_at_call 47; obtain ⟨W, hW⟩ : ∃ W, (w.alloc (Obj.cells #[.slice a len cap, .int .i64 c, .string p] 24)).alloc zeroBuf = W := ⟨_, rfl⟩; rw [hW]; obtain ⟨h1, h2, h3, h4⟩ := start_work hW; clear hW; (with_reducible refine (HC.out _ W (HI.out W h3)).mono ?_); rintro e w5 ⟨a5, m5, k5, rfl, ho5, hb5⟩; have wk5 := Lib.hid (copy_work (b := ⟨is, c, p⟩) h1 h2 h3 h4 ho5 hb5); obtain ⟨g0, g1, g2, g3⟩ := box_facts ((hb5.block w.heap.size (by omega)).trans h1); clear ho5 hb5 h1 h2 h3 h4)
      | (go_at_call 32; obtain ⟨W6, hW6⟩ : ∃ W6, (((w5.setCell ⟨w.heap.size, 0, none⟩ (.slice a5 m5 k5)).setCell ⟨w.heap.size, 1, none⟩ (.int .i64 c)).setCell ⟨w.heap.size, 2, none⟩ (.string p)) = W6 := ⟨_, rfl⟩; rw [hW6]; have wk6 := wk5.out; rw [hW6] at wk6; (with_reducible refine (HV.out _ W6 wk6.items).mono ?_); rintro e w7 ⟨rfl, hb7⟩; have wk7 := wk6.later hb7; clear hW6 wk5 g0 g1 g2 g3; obtain ⟨c0, c1, c2, cf, r0, r1, r2, rf⟩ := wk7.facts; dsimp only at c1 c2; have hl5 := wk7.len; dsimp only at hl5; subst hl5; have HWK := Lib.hid wk7; clear wk6 wk7 hb7))
    obtain ⟨W9, hW9, hld, how, hbw⟩ := (HWK.out.pend (ba ((bs p).dropLast))).fin
    dsimp only at hW9 hld how
    rw [← hW9]
    refine bodyPost_ret (v := .agg #[.slice a5 (is.length) k5, .int .i64 (c), .string (ba ((bs p).dropLast))]) ?_ rfl ⟨a5, is.length, k5, rfl, how, hbw⟩
    rw [results_cell1 rfl]
    exact hld
  · have hp0 : p.size = 0 := by omega
    have he := empty_str p
    rw [decide_eq_true hp0] at he
    simp only [if_true, if_neg hp]
    by_cases hc : 0 < c
    rotate_left
    · simp only [if_neg hc]
      clear hv hvp
      go_enter Try.func24, Try.ntmps24
      go_wp2_with (first
        | (go_at_call 47; obtain ⟨W, hW⟩ : ∃ W, (w.alloc (Obj.cells #[.slice a len cap, .int .i64 c, .string p] 24)).alloc zeroBuf = W := ⟨_, rfl⟩; rw [hW]; obtain ⟨h1, h2, h3, h4⟩ := start_work hW; clear hW; (with_reducible refine (HC.out _ W (HI.out W h3)).mono ?_); rintro e w5 ⟨a5, m5, k5, rfl, ho5, hb5⟩; have wk5 := Lib.hid (copy_work (b := ⟨is, c, p⟩) h1 h2 h3 h4 ho5 hb5); obtain ⟨g0, g1, g2, g3⟩ := box_facts ((hb5.block w.heap.size (by omega)).trans h1); clear ho5 hb5 h1 h2 h3 h4)
        | (go_at_call 32; obtain ⟨W6, hW6⟩ : ∃ W6, (((w5.setCell ⟨w.heap.size, 0, none⟩ (.slice a5 m5 k5)).setCell ⟨w.heap.size, 1, none⟩ (.int .i64 c)).setCell ⟨w.heap.size, 2, none⟩ (.string p)) = W6 := ⟨_, rfl⟩; rw [hW6]; have wk6 := wk5.out; rw [hW6] at wk6; (with_reducible refine (HV.out _ W6 wk6.items).mono ?_); rintro e w7 ⟨rfl, hb7⟩; have wk7 := wk6.later hb7; clear hW6 wk5 g0 g1 g2 g3; obtain ⟨c0, c1, c2, cf, r0, r1, r2, rf⟩ := wk7.facts; dsimp only at c1 c2; have hl5 := wk7.len; dsimp only at hl5; subst hl5; have HWK := Lib.hid wk7; clear wk6 wk7 hb7))
      obtain ⟨W9, hW9, hld, how, hbw⟩ := (HWK.out).fin
      dsimp only at hW9 hld how
      rw [← hW9]
      refine bodyPost_ret (v := .agg #[.slice a5 (is.length) k5, .int .i64 (c), .string (p)]) ?_ rfl ⟨a5, is.length, k5, rfl, how, hbw⟩
      rw [results_cell1 rfl]
      exact hld
    · simp only [if_pos hc]
      have HLT := Lib.hid (show (c - 1).toNat < is.length by omega)
      have HZ := Lib.hid (show c - 1 = ((c - 1).toNat : Int) by omega)
      clear hv hvp
      go_enter Try.func24, Try.ntmps24
      go_wp2_with (first
        | (go_at_call 47; obtain ⟨W, hW⟩ : ∃ W, (w.alloc (Obj.cells #[.slice a len cap, .int .i64 c, .string p] 24)).alloc zeroBuf = W := ⟨_, rfl⟩; rw [hW]; obtain ⟨h1, h2, h3, h4⟩ := start_work hW; clear hW; (with_reducible refine (HC.out _ W (HI.out W h3)).mono ?_); rintro e w5 ⟨a5, m5, k5, rfl, ho5, hb5⟩; have wk5 := Lib.hid (copy_work (b := ⟨is, c, p⟩) h1 h2 h3 h4 ho5 hb5); obtain ⟨g0, g1, g2, g3⟩ := box_facts ((hb5.block w.heap.size (by omega)).trans h1); clear ho5 hb5 h1 h2 h3 h4)
        | (go_at_call 32; obtain ⟨W6, hW6⟩ : ∃ W6, (((w5.setCell ⟨w.heap.size, 0, none⟩ (.slice a5 m5 k5)).setCell ⟨w.heap.size, 1, none⟩ (.int .i64 c)).setCell ⟨w.heap.size, 2, none⟩ (.string p)) = W6 := ⟨_, rfl⟩; rw [hW6]; have wk6 := wk5.out; rw [hW6] at wk6; (with_reducible refine (HV.out _ W6 wk6.items).mono ?_); rintro e w7 ⟨rfl, hb7⟩; have wk7 := wk6.later hb7; clear hW6 wk5 g0 g1 g2 g3; obtain ⟨c0, c1, c2, cf, r0, r1, r2, rf⟩ := wk7.facts; dsimp only at c1 c2; have hl5 := wk7.len; dsimp only at hl5; subst hl5; have HWK := Lib.hid wk7; clear wk6 wk7 hb7)
        | (go_at_call 48; have ho := (HWK.out.caret (c - 1)).own; dsimp only at ho; obtain ⟨g, hg⟩ := own_some ho (by omega); subst hg; (with_reducible refine (delete_any2 (w.heap.size + 2) g k5 _ _ _ is _ ho HLT.out HZ.out (by have := HZ.out; omega) (by omega)).mono ?_); rintro e w8 ⟨rfl, ho8, hb8⟩; obtain ⟨d0, d1, d2, df⟩ := box_facts ((hb8.block w.heap.size (by omega)).trans (HWK.out.caret (c - 1)).box); obtain ⟨s0, s1, s2, sf⟩ := box_facts ((hb8.block (w.heap.size + 1) (by omega)).trans (HWK.out.caret (c - 1)).res); have HPU := Lib.hid ((HWK.out.caret (c - 1)).put hb8 ho8); clear ho ho8))
      obtain ⟨W9, hW9, hld, how, hbw⟩ := (HPU.out).fin
      dsimp only at hW9 hld how
      rw [← hW9]
      refine bodyPost_ret (v := .agg #[.slice (some ⟨g, 0, none⟩) (is.length - 1) k5, .int .i64 (c - 1), .string (p)]) ?_ rfl ⟨(some ⟨g, 0, none⟩), is.length - 1, k5, rfl, how, hbw⟩
      rw [results_cell1 rfl]
      exact hld

end Go.Proofs.Ytlmbbpppfghcbaa.Cmp

set_option linter.unusedVariables false
set_option linter.unusedSimpArgs false
set_option maxRecDepth 100000
namespace Go.Proofs.Ytlmbbpppfghcbaa.Cmp
open Go Go.RowKit Go.Proofs.Ytlmbbpppfghcbaa.Kit Go.Proofs.Ytlmbbpppfghcbaa.Utf Go.Proofs.Ytlmbbpppfghcbaa.Rom Go.Proofs.Ytlmbbpppfghcbaa.Aut

theorem items_upto {w : World} {a : Option Addr} {n cap k : Nat} {is : List It} (hR : ItR w (.slice a n cap) is) (hk : k ≤ n) :
    ∃ a' n' k', (∀ W, (Instr.sliceAt 22 (.slice a n cap) none (some (.int .i64 k)) none).run Try.prog W = .ok (.slice a' n' k') W) ∧ ItR w (.slice a' n' k') (is.take k) := by
  refine ⟨a, k, cap, ?_, hR.take hk⟩
  intro W
  obtain ⟨_, hc, hm⟩ := hR.len
  have k2 : (k : Int) ≤ cap := by omega
  have u := Try.underlying22
  obtain ⟨a', len', cap', e, h1, h2, h3, h4⟩ := hR
  cases e
  rcases h4 with ⟨rfl, hl, hc0⟩ | ⟨x, rfl, hl⟩ | ⟨b, off, rfl, hlt, hx⟩
  · have k0 : k = 0 := by omega
    subst k0
    subst hc0
    go_simp
  · go_simp
  · go_simp
theorem items_on {w : World} {a : Option Addr} {n cap k : Nat} {is : List It} (hR : ItR w (.slice a n cap) is) (hk : k ≤ n) :
    ∃ a' n' k', (∀ W, (Instr.sliceAt 22 (.slice a n cap) (some (.int .i64 k)) none none).run Try.prog W = .ok (.slice a' n' k') W) ∧ ItR w (.slice a' n' k') (is.drop k) := by
  obtain ⟨_, hc, hm⟩ := hR.len
  have k2 : (k : Int) ≤ n := by omega
  have k3 : (n : Int) ≤ cap := by omega
  have u := Try.underlying22
  by_cases hck : cap ≤ k
  · refine ⟨_, _, _, ?_, hR.drop_end hk hck⟩
    intro W
    have e1 : cap = k := by omega
    obtain ⟨a', len', cap', e, h1, h2, h3, h4⟩ := hR
    cases e
    rcases h4 with ⟨rfl, hl, hc0⟩ | ⟨x, rfl, hl⟩ | ⟨b, off, rfl, hlt, hx⟩
    · have k0 : k = 0 := by omega
      subst k0
      subst hc0
      subst hl
      go_simp
    · subst e1
      go_simp
      intro hh; exfalso; omega
    · subst e1
      go_simp
      intro hh; exfalso; omega
  · refine ⟨_, _, _, ?_, hR.drop hk⟩
    intro W
    have e1 : ¬ cap = k := by omega
    have e2 : (k : Int) ≤ cap := by omega
    obtain ⟨a', len', cap', e, h1, h2, h3, h4⟩ := hR
    cases e
    rcases h4 with ⟨rfl, hl, hc0⟩ | ⟨x, rfl, hl⟩ | ⟨b, off, rfl, hlt, hx⟩
    · omega
    · go_simp
      intro hh; exfalso; omega
    · go_simp
      intro hh; exfalso; omega

theorem take_drop_len (is : List It) (k : Nat) : (is.take k).length + (is.drop k).length = is.length := by rw [← List.length_append, List.take_append_drop]

set_option maxHeartbeats 8000000 in
theorem insert_any (b : Bf) (l : List It) (s v : Value) (w : World) (hR : ItR w s b.is) (hL : ItR w v l) (hc : 0 ≤ b.c ∧ b.c ≤ b.is.length) (hsh : Sh (insB b l)) :
    Calls Try.prog 44 #[.agg #[s, .int .i64 b.c, .string b.p], v] w fun e w' => ∃ v', e = .returned (.agg #[v', .int .i64 (insB b l).c, .string (insB b l).p]) ∧ w'.ownsRow w.heap.size 65 2 v' (insB b l).is.length (ic (insB b l).is) ∧ Below w.heap.size w w' := by
  obtain ⟨is, c, p⟩ := b
  simp only at *
  obtain ⟨k, rfl⟩ : ∃ k : Nat, c = k := ⟨c.toNat, by omega⟩
  obtain ⟨a, len, cap, rfl, hlen, _⟩ := id hR
  obtain ⟨a2, len2, cap2, rfl, hlen2, _⟩ := id hL
  subst hlen hlen2
  obtain ⟨x1, n1, k1, hs1, hR1⟩ := items_upto (k := k) hR (by omega)
  obtain ⟨x2, n2, k2, hs2, hR2⟩ := items_on (k := k) hR (by omega)
  have hB : insB ⟨is, k, p⟩ l = ⟨is.take k ++ l ++ is.drop k, k + l.length, p⟩ := by unfold insB; simp
  rw [hB] at hsh ⊢
  clear hB
  simp only
  have hlen3 : is.length + l.length ≤ 1048576 := by
    have := hsh.2.2
    simp only [List.length_append] at this
    have := take_drop_len is k
    omega
  have hls : (is.take k).length + l.length + (is.drop k).length ≤ 100000000000 := by have := take_drop_len is k; omega
  have HCC := Lib.hid (fun g t W hg h1 h2 h3 => concat_any g (.slice x1 n1 k1) (.slice a2 l.length cap2) (.slice x2 n2 k2) (is.take k) l (is.drop k) t W hg h1 h2 h3 hls)
  have hall : (is.take k).length + l.length + (is.drop k).length = (is.take k ++ l ++ is.drop k).length := by simp only [List.length_append]
  rw [hall] at HCC
  generalize hIS : is.take k ++ l ++ is.drop k = IS at HCC hsh hall ⊢
  have HCP := Lib.hid (fun s W hR => copied_any ⟨IS, k + l.length, p⟩ s W hR hsh)
  simp only at HCP
  have HR1 := Lib.hid hR1
  have HR2 := Lib.hid hR2
  have HL := Lib.hid hL
  clear hR1 hR2 hL hR hIS hsh hls hall
  have fact : ∀ o1 o2 o3 W3, o1 = Obj.cells #[.slice a is.length cap, .int .i64 k, .string p] 24 → o2 = Obj.cells #[.slice none 0 0, .int .i64 0, .string { data := #[] }] 24 → o3 = Obj.cells #[.slice x1 n1 k1, .slice a2 l.length cap2, .slice x2 n2 k2] 22 → W3 = (((w.alloc o1).alloc o2).alloc o3).drew →
      (W3.heap[w.heap.size + 1 + 1]? = some o3) ∧ Below w.heap.size w W3 ∧ w.heap.size + 3 ≤ W3.heap.size ∧ (∀ w', Below W3.heap.size W3 w' → w'.cell? ⟨w.heap.size, 0, none⟩ = some (.slice a is.length cap) ∧ w'.cell? ⟨w.heap.size, 1, none⟩ = some (.int .i64 k) ∧ w'.cell? ⟨w.heap.size, 2, none⟩ = some (.string p) ∧ (∀ j, w'.frozen? ⟨w.heap.size, j, none⟩ = false) ∧
        (w'.heap[w.heap.size + 1]? = some o2)) := by
    rintro o1 o2 o3 W3 rfl rfl rfl rfl
    have s2 : ((w.alloc (Obj.cells #[.slice a is.length cap, .int .i64 k, .string p] 24)).alloc (Obj.cells #[.slice none 0 0, .int .i64 0, .string { data := #[] }] 24)).heap.size = w.heap.size + 1 + 1 := by simp
    have e := heap_alloc_new ((w.alloc (Obj.cells #[.slice a is.length cap, .int .i64 k, .string p] 24)).alloc (Obj.cells #[.slice none 0 0, .int .i64 0, .string { data := #[] }] 24)) (Obj.cells #[.slice x1 n1 k1, .slice a2 l.length cap2, .slice x2 n2 k2] 22)
    rw [s2] at e
    have e2 := heap_alloc_new (w.alloc (Obj.cells #[.slice a is.length cap, .int .i64 k, .string p] 24)) (Obj.cells #[.slice none 0 0, .int .i64 0, .string { data := #[] }] 24)
    have s1 : (w.alloc (Obj.cells #[.slice a is.length cap, .int .i64 k, .string p] 24)).heap.size = w.heap.size + 1 := by simp
    rw [s1] at e2
    have e1 := heap_alloc_new w (Obj.cells #[.slice a is.length cap, .int .i64 k, .string p] 24)
    rw [← Below.heap_alloc _ (Obj.cells #[.slice none 0 0, .int .i64 0, .string { data := #[] }] 24) _ (by simp), ← Below.heap_alloc _ (Obj.cells #[.slice x1 n1 k1, .slice a2 l.length cap2, .slice x2 n2 k2] 22) _ (by simp; omega)] at e1
    rw [← Below.heap_alloc _ (Obj.cells #[.slice x1 n1 k1, .slice a2 l.length cap2, .slice x2 n2 k2] 22) _ (by simp)] at e2
    refine ⟨e, ((((Below.refl _ _).alloc (Nat.le_refl _) _).alloc (by simp) _).alloc (by simp; omega) _).drew, by simp, fun w' hb => ?_⟩
    have b1 := (hb.block w.heap.size (by simp; omega)).trans e1
    have b2 := (hb.block (w.heap.size + 1) (by simp)).trans e2
    refine ⟨?_, ?_, ?_, fun j => ?_, b2⟩
    · rw [cell_of_row _ _ 0 _ _ _ b1]; rfl
    · rw [cell_of_row _ _ 1 _ _ _ b1]; rfl
    · rw [cell_of_row _ _ 2 _ _ _ b1]; rfl
    · exact frozen_of_row _ _ j _ _ b1
  have FACT := Lib.hid fact
  clear fact
  go_enter Try.func44, Try.ntmps44
  go_upto_region 1 with fail
  go_cut [] (fun wx => ∃ a3 m3 c3, wx.cell? ⟨w.heap.size, 0, none⟩ = some (.slice a3 m3 c3) ∧ wx.cell? ⟨w.heap.size, 1, none⟩ = some (.int .i64 k) ∧ wx.cell? ⟨w.heap.size, 2, none⟩ = some (.string p) ∧ (∀ j, wx.frozen? ⟨w.heap.size, j, none⟩ = false) ∧ wx.heap[w.heap.size + 1]? = some (Obj.cells #[.slice none 0 0, .int .i64 0, .string { data := #[] }] 24) ∧ wx.ownsRow (w.heap.size + 3) 65 2 (.slice a3 m3 c3) IS.length (ic IS) ∧ Below w.heap.size w wx ∧ w.heap.size + 3 ≤ wx.heap.size)
  case first =>
    go_region_law (first
      | (go_simp; go_at_call 70; obtain ⟨W3, hW3⟩ : ∃ W3, (((w.alloc (Obj.cells #[.slice a is.length cap, .int .i64 k, .string p] 24)).alloc (Obj.cells #[.slice none 0 0, .int .i64 0, .string { data := #[] }] 24)).alloc (Obj.cells #[.slice x1 n1 k1, .slice a2 l.length cap2, .slice x2 n2 k2] 22)).drew = W3 := ⟨_, rfl⟩; rw [hW3]; obtain ⟨g1, g2, g3, g4⟩ := FACT.out _ _ _ W3 rfl rfl rfl hW3.symm; have G4 := Lib.hid g4; clear g4 hW3; (with_reducible refine (HCC.out _ _ _ g1 (HR1.out.later g2 (Nat.le_refl _)) (HL.out.later g2 (Nat.le_refl _)) (HR2.out.later g2 (Nat.le_refl _))).mono ?_); rintro e w4 ⟨v', rfl, hown, hb⟩; obtain ⟨q0, q1, q2, q3, q4⟩ := G4.out w4 hb; obtain ⟨a3, m3, c3, rfl⟩ := slice_of_own hown))
    all_goals
      have z0 : (w4.setCell ⟨w.heap.size, 0, none⟩ (.slice a3 m3 c3)).cell? ⟨w.heap.size, 0, none⟩ = some (.slice a3 m3 c3) := World.cell?_setCell_same' _ _ _ (by rw [q0]; rfl)
      have z1 : (w4.setCell ⟨w.heap.size, 0, none⟩ (.slice a3 m3 c3)).cell? ⟨w.heap.size, 1, none⟩ = some (.int .i64 k) := by rw [World.cell?_setCell_other _ _ _ _ (by simp)]; exact q1
      have z2 : (w4.setCell ⟨w.heap.size, 0, none⟩ (.slice a3 m3 c3)).cell? ⟨w.heap.size, 2, none⟩ = some (.string p) := by rw [World.cell?_setCell_other _ _ _ _ (by simp)]; exact q2
      have z3 : ∀ j, (w4.setCell ⟨w.heap.size, 0, none⟩ (.slice a3 m3 c3)).frozen? ⟨w.heap.size, j, none⟩ = false := fun j => by rw [World.frozen?_setCell]; exact q3 j
      have z4 : (w4.setCell ⟨w.heap.size, 0, none⟩ (.slice a3 m3 c3)).heap[w.heap.size + 1]? = some (Obj.cells #[.slice none 0 0, .int .i64 0, .string { data := #[] }] 24) := by rw [heap_setCell_other _ _ _ _ (by show w.heap.size + 1 ≠ w.heap.size; omega)]; exact q4
      have z5 : (w4.setCell ⟨w.heap.size, 0, none⟩ (.slice a3 m3 c3)).ownsRow (w.heap.size + 3) 65 2 (.slice a3 m3 c3) IS.length (ic IS) := ownsRow_setCell_below (own_base hown (by omega)) (by show w.heap.size < _; omega) _
      have z6 : Below w.heap.size w (w4.setCell ⟨w.heap.size, 0, none⟩ (.slice a3 m3 c3)) := Below.setCell (g2.trans (hb.mono (by omega))) (Nat.le_refl _) _
      have z7 : w.heap.size + 3 ≤ (w4.setCell ⟨w.heap.size, 0, none⟩ (.slice a3 m3 c3)).heap.size := by have := hb.size; simp; omega
      go_wp2_with fail
      go_meet
      exact ⟨_, _, _, z0, z1, z2, z3, z4, z5, z6, z7⟩
  case rest =>
    obtain ⟨a3, m3, c3, q0, q1, q2, q3, q4, hI, hbx, hz⟩ := hcut
    have hI2 : ∀ x, ItR (wc.setCell ⟨w.heap.size, 1, none⟩ x) (.slice a3 m3 c3) IS := fun x => (items_of_own (ownsRow_setCell_below hI (by show w.heap.size < _; omega) _)).1
    have hb2 : ∀ x, Below w.heap.size w (wc.setCell ⟨w.heap.size, 1, none⟩ x) := fun x => Below.setCell hbx (Nat.le_refl _) _
    have h4 : ∀ x w', Below (w.heap.size + 3) (wc.setCell ⟨w.heap.size, 1, none⟩ x) w' → w'.heap[w.heap.size + 1]? = some (Obj.cells #[.slice none 0 0, .int .i64 0, .string { data := #[] }] 24) := fun x w' h => by
      rw [h.block (w.heap.size + 1) (by omega), heap_setCell_other _ _ _ _ (by show w.heap.size + 1 ≠ w.heap.size; omega)]; exact q4
    have HI2 := Lib.hid hI2
    have HB2 := Lib.hid hb2
    have H4 := Lib.hid h4
    have hz2 : ∀ x, (wc.setCell ⟨w.heap.size, 1, none⟩ x).heap.size = wc.heap.size := fun x => by simp
    have HZ2 := Lib.hid hz2
    have q31 := q3 1
    clear hI2 hb2 h4 hz2 hI q4 HCC FACT hs1 hs2
    go_wp2_with (first
      | (go_at_call 47; (with_reducible refine (HCP.out _ _ (HI2.out _)).mono ?_); rintro e w5 ⟨v5, rfl, hown5, hb5⟩; have r4 := H4.out _ _ (hb5.mono (by rw [HZ2.out]; omega)); have r0 : w5.cell? ⟨w.heap.size + 1, 0, none⟩ = some (.slice none 0 0) := (by rw [cell_of_row _ _ 0 _ _ _ r4]; rfl); have r1 : w5.cell? ⟨w.heap.size + 1, 1, none⟩ = some (.int .i64 0) := (by rw [cell_of_row _ _ 1 _ _ _ r4]; rfl); have r2 : w5.cell? ⟨w.heap.size + 1, 2, none⟩ = some (.string { data := #[] }) := (by rw [cell_of_row _ _ 2 _ _ _ r4]; rfl); have r3 : ∀ j, w5.frozen? ⟨w.heap.size + 1, j, none⟩ = false := (fun j => frozen_of_row _ _ j _ _ r4); obtain ⟨a5, m5, c5, rfl⟩ := slice_of_own hown5))
    have hz5 : w.heap.size + 3 ≤ w5.heap.size := by have := hb5.size; rw [HZ2.out] at this; omega
    have ow : w5.ownsRow (w.heap.size + 3) 65 2 (.slice a5 m5 c5) IS.length (ic IS) := own_base hown5 (by rw [HZ2.out]; omega)
    have bw : Below w.heap.size w w5 := (HB2.out _).trans (hb5.mono (by rw [HZ2.out]; omega))
    refine bodyPost_ret (v := .agg #[.slice a5 m5 c5, .int .i64 (k + l.length), .string p]) ?_ rfl ⟨_, rfl, own_base (ownsRow_setCell_below (ownsRow_setCell_below (ownsRow_setCell_below ow (by show w.heap.size + 1 < _; omega) _) (by show w.heap.size + 1 < _; omega) _) (by show w.heap.size + 1 < _; omega) _) (by omega), Below.setCell (Below.setCell (Below.setCell bw (by show _ ≤ w.heap.size + 1; omega) _) (by show _ ≤ w.heap.size + 1; omega) _) (by show _ ≤ w.heap.size + 1; omega) _⟩
    rw [results_cell1 rfl]
    show ((loadVar 24 ⟨w.heap.size + 1, 0, none⟩).run Try.prog _) = _
    obtain ⟨q0, q1, q2⟩ := three_set (w := w5) (g := w.heap.size + 1) (x := .slice a5 m5 c5) (y := .int .i64 (k + l.length)) (z := .string p) (by rw [r0]; rfl) (by rw [r1]; rfl) (by rw [r2]; rfl)
    exact load_buf q0 q1 q2

end Go.Proofs.Ytlmbbpppfghcbaa.Cmp
