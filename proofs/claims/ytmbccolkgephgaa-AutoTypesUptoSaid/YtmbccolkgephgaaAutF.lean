/-
  Contracts of the automaton's feed and apply, which call each other.
-/
import Derived.Test.YtmbccolkgephgaaAutR
import Derived.Deep.RegionHeld3
import Derived.Deep.RegionLaw
set_option linter.unusedVariables false
set_option linter.unusedSimpArgs false
set_option maxRecDepth 100000
namespace Go.Proofs.Ytmbccolkgephgaa.Aut
open Go Go.RowKit Go.Proofs.Ytmbccolkgephgaa.Kit Go.Proofs.Ytmbccolkgephgaa.Utf Go.Proofs.Ytmbccolkgephgaa.Rom

theorem ruleX_is {rs : List Rule} {s : ByteArray} (h0 : 0 < s.size) : bs (ruleX rs s s.size).o = appO rs (bs s) ∧ bs (ruleX rs s s.size).n ++ (bs s).drop (ruleX rs s s.size).k.size = appK rs (bs s) ∧ (ruleX rs s s.size).k.size ≤ s.size := by
  unfold ruleX appO appK best
  rw [bs_len]
  cases h : bestN rs (bs s) s.size with
  | some r =>
    have := best_some (rs := rs) (s := bs s) (r := r) (by unfold best; rw [bs_len]; exact h)
    rw [bs_len] at this
    exact ⟨rfl, rfl, this.2.2.1⟩
  | none =>
    refine ⟨?_, ?_, ?_⟩
    · show bs (s.extract 0 1) = _
      rw [ext_take, bs_ba]
    · show bs ⟨#[]⟩ ++ (bs s).drop (s.extract 0 1).size = _
      rw [show (s.extract 0 1).size = 1 by rw [ByteArray.size_extract]; omega]
      rfl
    · show (s.extract 0 1).size ≤ s.size
      rw [ByteArray.size_extract]; omega

/-- What feed does to keys of n bytes at most. -/
def FeedC (rs : List Rule) (n : Nat) : Prop := ∀ (B a b : Nat) (p ks : ByteArray) (acc : By) (w : World), AutoAt B w a rs → B ≤ b → b + 1 ≤ w.heap.size → Lib.IsBuilderF 64 5 b b (Lib.byteCells acc) w → p.size + ks.size ≤ n →
  acc.length + 16 * (p.size + ks.size) ≤ 35184372088832 →
  Calls Try.prog 51 #[.pointer (some ⟨a, 0, none⟩), .pointer (some ⟨b, 0, none⟩), .string p, .string ks] w fun e w' => ∃ o q : By, e = .returned (.string (ba q)) ∧ Feeds rs (bs p) (bs ks) o q ∧ Lib.IsBuilderF 64 5 b b (Lib.byteCells (acc ++ o)) w' ∧ Below b w w' ∧ Lib.OthersKept 5 (some b) w w' ∧ w.heap.size ≤ w'.heap.size
/-- What apply does to keys of n bytes at most. -/
def ApplyC (rs : List Rule) (n : Nat) : Prop := ∀ (B a b : Nat) (s : ByteArray) (acc : By) (w : World), AutoAt B w a rs → B ≤ b → b + 1 ≤ w.heap.size → Lib.IsBuilderF 64 5 b b (Lib.byteCells acc) w → 0 < s.size → s.size ≤ n →
  acc.length + 16 * s.size ≤ 35184372088832 →
  Calls Try.prog 37 #[.pointer (some ⟨a, 0, none⟩), .pointer (some ⟨b, 0, none⟩), .string s] w fun e w' => ∃ o q : By, e = .returned (.string (ba q)) ∧ Feeds rs [] (appK rs (bs s)) o q ∧ Lib.IsBuilderF 64 5 b b (Lib.byteCells (acc ++ (appO rs (bs s) ++ o))) w' ∧ Below b w w' ∧ Lib.OthersKept 5 (some b) w w' ∧ w.heap.size ≤ w'.heap.size

set_option maxHeartbeats 4000000 in
theorem apply_of {rs : List Rule} (hok : okL rs = true) (n : Nat) (HF : FeedC rs n) : ApplyC rs (n + 1) := by
  intro B a b s acc w hA hB hbs hBl h0 hs hacc
  obtain ⟨r1, r2, r3⟩ := ruleX_is (rs := rs) h0
  have HAW := Lib.hid (hA.mono hB)
  have HRL := Lib.hid (rule_any B a rs s w hA (by omega) h0 (by omega))
  obtain ⟨R, hR⟩ : ∃ R, ruleX rs s s.size = R := ⟨_, rfl⟩
  rw [hR] at r1 r2 r3 HRL
  have hro : R.o.size ≤ 16 := by rw [← bs_len, r1]; exact appO_len hok _
  have hkn : R.n.size + (s.size - R.k.size) + 1 ≤ s.size := by
    have h1 := congrArg List.length r2
    have h2 := appK_len hok (rs := rs) (s := bs s) (fun e => by have := congrArg List.length e; rw [bs_len, List.length_nil] at this; omega)
    rw [List.length_append, bs_len, List.length_drop, bs_len] at h1
    rw [bs_len] at h2
    omega
  have HBL := Lib.hid hBl
  have R1 := Lib.hid r1
  have R2 := Lib.hid r2
  unfold FeedC at HF
  have HFC := Lib.hid HF
  clear hA hR hBl r1 r2 HF
  have HW : Hid (∀ W : World, Below w.heap.size w W → Lib.IsBuilderF 64 5 b b (Lib.byteCells acc) W) := Lib.hid fun W h => builder_kept2 HBL.out (fun k _ hk => h.block k hk)
  clear HBL
  go_enter Try.func37, Try.ntmps37
  go_wp2_with (first
    | (go_at_call 53; (with_reducible refine HRL.out.mono ?_); rintro e w1 ⟨rfl, hb1⟩; unfold ragg; have hw1 := hb1.size; have hB1 := HW.out _ (hb1.alloc hw1 (Obj.cells #[.string R.k, .string R.o, .string R.n] 32 (0, 0))); have hbox := heap_alloc_new w1 (Obj.cells #[.string R.k, .string R.o, .string R.n] 32 (0, 0)))
    | (go_at_call 54; (with_reducible refine (Try.writeString b b (Lib.byteCells acc) _ _ hB1 (by rw [Lib.byteCells_length]; omega) (by simp; omega)).mono ?_); rintro e w2 ⟨rfl, hA2, hb2, ho2⟩))
  have hs2 : b + 1 ≤ w2.heap.size := by have := hb2.size; simp at this; omega
  have hw2 : w1.heap.size + 1 ≤ w2.heap.size := by have := hb2.size; simp at this; omega
  obtain ⟨g, hg⟩ : ∃ g, w1.heap.size = g := ⟨_, rfl⟩
  rw [hg] at hbox hw2 ⊢
  have hbx2 : w2.heap[g]? = some (Obj.cells #[.string R.k, .string R.o, .string R.n] 32 (0, 0)) := ho2 g _ hbox (by simp; omega) (fun c fz e => by cases e)
  have ho2w : Lib.OthersKept 5 (some b) w w2 := fun k o hk hkb hko => ho2 k o (((hb1.alloc hw1 _).block k (Array.getElem?_eq_some_iff.1 hk).1).trans hk) hkb hko
  have hb2w : Below b w w2 := ((hb1.alloc hw1 _).mono (by omega)).trans hb2
  have hA2' : Lib.IsBuilderF 64 5 b b (Lib.byteCells (acc ++ appO rs (bs s))) w2.drew := by
    rw [byteCells_app, ← R1.out]; exact isB hA2
  have hAu2 : AutoAt b w2.drew a rs := HAW.out.later hb2w.drew (Nat.le_refl _)
  have c0 : w2.cell? ⟨g, 0, none⟩ = some (.string R.k) := by rw [cell_of_row w2 _ 0 _ _ _ hbx2]; rfl
  have c2 : w2.cell? ⟨g, 2, none⟩ = some (.string R.n) := by rw [cell_of_row w2 _ 2 _ _ _ hbx2]; rfl
  have hl2 : (acc ++ appO rs (bs s)).length + 16 * (R.n.size + (s.size - R.k.size)) ≤ 35184372088832 := by
    have := appO_len hok (rs := rs) (bs s)
    rw [List.length_append]; omega
  have hgb : g ≠ b := by omega
  have HS2 := Lib.hid (show w.heap.size ≤ w2.heap.size from by omega)
  have HL2 := Lib.hid hl2
  have HA2 := Lib.hid hA2'
  have HAu := Lib.hid hAu2
  clear hA2 hA2' hAu2 hl2 hbox hb1 hb2 ho2 hB1 hg hw1
  have hbx2' : w2.drew.heap[g]? = some (Obj.cells #[.string R.k, .string R.o, .string R.n] 32 (0, 0)) := hbx2
  have n0 : (0 : Int) ≤ R.k.size := by omega
  have n1 : (R.k.size : Int) ≤ s.size := by omega
  have hex : (s.extract R.k.size s.size).size = s.size - R.k.size := by rw [ByteArray.size_extract]; omega
  have HF1 := Lib.hid (HFC.out b a b ⟨#[]⟩ R.n (acc ++ appO rs (bs s)) w2.drew HAu.out (Nat.le_refl _) (by show _ ≤ w2.heap.size; omega) HA2.out (by show 0 + R.n.size ≤ n; omega) (by have := HL2.out; show _ + 16 * (0 + R.n.size) ≤ _; omega))
  have HN : Hid (∀ (w3 : World) (o1 q1 : By), Feeds rs (bs ⟨#[]⟩) (bs R.n) o1 q1 → Lib.IsBuilderF 64 5 b b (Lib.byteCells ((acc ++ appO rs (bs s)) ++ o1)) w3 → Below b w2.drew w3 → Lib.OthersKept 5 (some b) w2.drew w3 → w2.drew.heap.size ≤ w3.heap.size →
      w3.cell? ⟨g, 0, none⟩ = some (.string R.k) ∧ Hid (Calls Try.prog 51 #[.pointer (some ⟨a, 0, none⟩), .pointer (some ⟨b, 0, none⟩), .string (ba q1), .string (s.extract R.k.size s.size)] w3 fun e w' => ∃ o q : By, e = .returned (.string (ba q)) ∧ Feeds rs (bs (ba q1)) (bs (s.extract R.k.size s.size)) o q ∧ Lib.IsBuilderF 64 5 b b (Lib.byteCells (((acc ++ appO rs (bs s)) ++ o1) ++ o)) w' ∧ Below b w3 w' ∧ Lib.OthersKept 5 (some b) w3 w' ∧ w3.heap.size ≤ w'.heap.size)) := Lib.hid fun w3 o1 q1 hf1 hBl3 hb3 ho3 hs3 => by
    have hbx3 := ho3 g _ hbx2' (by simp; omega) (fun c fz e => by cases e)
    have hq1 := hf1.len hok
    rw [bs_len, bs_len, show (⟨#[]⟩ : ByteArray).size = 0 from rfl] at hq1
    have hL := HL2.out
    have hs3' : w2.heap.size ≤ w3.heap.size := hs3
    refine ⟨by rw [cell_of_row w3 _ 0 _ _ _ hbx3]; rfl, Lib.hid (HFC.out b a b (ba q1) (s.extract R.k.size s.size) ((acc ++ appO rs (bs s)) ++ o1) w3 (HAu.out.later hb3 (Nat.le_refl _)) (Nat.le_refl _) (by omega) hBl3 (by rw [ba_size, hex]; omega) (by rw [ba_size, hex, List.length_append]; omega))⟩
  clear HFC HAu HA2 HL2 hbx2'
  go_region_law (first
    | (go_simp; go_at_call 51; (with_reducible refine HF1.out.mono ?_); rintro e w3 ⟨o1, q1, rfl, hf1, hBl3, hb3, ho3, hs3⟩; obtain ⟨c03, HF2⟩ := HN.out w3 o1 q1 hf1 hBl3 hb3 ho3 hs3; clear HF1)
    | (go_simp; go_at_call 51; (with_reducible refine HF2.out.mono ?_); rintro e w4 ⟨o2, q2, rfl, hf2, hBl4, hb4, ho4, hs4⟩))
  all_goals go_wp2
  all_goals go_ret
  all_goals
    have hf2' := hf2
    rw [bs_ba, ext_drop, bs_ba] at hf2'
    have hf := Feeds.comp (rs := rs) (p := []) hf1 hf2'
    rw [R2.out] at hf
    refine ⟨o1 ++ o2, q2, rfl, hf, ?_, (hb2w.trans ⟨hb3.os, hb3.tape, hb3.output, hb3.size, hb3.block⟩).trans hb4, (ho2w.trans ho3).trans ho4, ?_⟩
    · simpa only [List.append_assoc] using hBl4
    · have e1 : w2.drew.heap.size = w2.heap.size := rfl
      have := HS2.out
      omega

theorem one_more (q : By) (ks : ByteArray) (k : Nat) (h : k < ks.size) : ba q ++ ks.extract k (k + 1) = ba (q ++ [bt8 ks k]) := by
  apply ba_ext
  have e : (ks.extract k (k + 1)).data.toList = [bt8 ks k] := by
    have h1 := bs_at ks k h
    have h2 : (ks.extract k (k + 1)).data.toList = ((bs ks).take (k + 1)).drop k := by
      simp [bs, ByteArray.data_extract, List.extract_eq_take_drop, List.drop_take]
    rw [h2, h1, List.drop_left' (by rw [List.length_take, bs_len]; omega)]
  rw [ByteArray.data_append, Array.toList_append, e]
  simp [ba]

set_option maxHeartbeats 4000000 in
theorem feed_of {rs : List Rule} (hok : okL rs = true) (n : Nat) (HA : ApplyC rs n) : FeedC rs n := by
  intro B a b p ks acc w hA hB hbs hBl hn hacc
  unfold ApplyC at HA
  have HAU := Lib.hid (hA.mono hB)
  have HAP := Lib.hid HA
  clear hA HA
  go_enter Try.func51, Try.ntmps51
  go_wp2
  go_loopw [2, 12] (fun v i wr => ∃ (k : Nat) (o q : By), i = .int .i64 k ∧ v = .string (ba q) ∧ k ≤ ks.size ∧ Hid (Feeds rs (bs p) ((bs ks).take k) o q) ∧ Lib.IsBuilderF 64 5 b b (Lib.byteCells (acc ++ o)) wr ∧ Below b w wr ∧ Lib.OthersKept 5 (some b) w wr ∧ w.heap.size ≤ wr.heap.size) (fun _ i _ => ks.size - (intOf i).toNat)
  case atStart => exact ⟨0, [], bs p, rfl, by rw [ba_bs], Nat.zero_le _, Lib.hid (.nil _), by rw [List.append_nil]; exact hBl, Below.refl _ _, Lib.OthersKept.refl _ _ _, Nat.le_refl _⟩
  case round =>
    obtain ⟨k, o, q, rfl, rfl, hk, hf, hBk, hbw, how, hws⟩ := hrel
    by_cases hkl : k < ks.size
    · have hlen := hf.out.len hok
      rw [bs_len, List.length_take, bs_len] at hlen
      have hqs : (ba q).size = q.length := ba_size q
      have hes : (ks.extract k (k + 1)).size = 1 := by rw [ByteArray.size_extract]; omega
      have hS := one_more q ks k hkl
      have hT := bs_at ks k hkl
      generalize bt8 ks k = c at hS hT
      have hSz : (ba q ++ ks.extract k (k + 1)).size = q.length + 1 := by rw [hS, ba_size]; simp
      have hSb : bs (ba q ++ ks.extract k (k + 1)) = q ++ [c] := by rw [hS, bs_ba]
      have hAw := HAU.out.later hbw (Nat.le_refl _)
      obtain ⟨br, bl, ca0, ca1, haB, hq1, hq2⟩ := hAw.use
      have hq := hq2.out (ba q ++ ks.extract k (k + 1)) (by unfold maxLen; omega) (by omega) wr (Below.refl _ _)
      obtain ⟨lg, hlg⟩ : ∃ lg, longL rs (ba q ++ ks.extract k (k + 1)) = lg := ⟨_, rfl⟩
      rw [hlg] at hq
      have hlg2 : longL rs (ba (q ++ [c])) = lg := by rw [← hS]; exact hlg
      have k0 : (0 : Int) ≤ k := by omega
      have k1 : (k : Int) + 1 ≤ ks.size := by omega
      have k2 : ¬ 9223372036854775807 < (ba q).size + (ks.extract k (k + 1)).size := by omega
      have HS := Lib.hid hS
      have HT := Lib.hid hT
      have HSb := Lib.hid hSb
      have HLG := Lib.hid hlg2
      have HAW := Lib.hid hAw
      have HBK := Lib.hid hBk
      have HLN := Lib.hid hlen
      have HSZ := Lib.hid hSz
      clear hS hT hSb hlg hlg2 hq1 hq2 ca0 hAw hBk hlen hSz
      cases lg
      · have HC := Lib.hid (HAP.out b a b (ba q ++ ks.extract k (k + 1)) (acc ++ o) wr HAW.out (Nat.le_refl _) (by omega) HBK.out (by have := HSZ.out; omega) (by have := HSZ.out; have := HLN.out; omega) (by have := HSZ.out; have := HLN.out; rw [List.length_append]; omega))
        clear HAW HSZ
        go_wp2_with (go_at_call 37; (with_reducible refine HC.out.mono ?_); rintro e w4 ⟨o2, q2, rfl, hf2, hBl4, hb4, ho4, hs4⟩)
        go_roundw
        case rel =>
          refine ⟨k + 1, o ++ (appO rs (q ++ [c]) ++ o2), q2, by go_num, rfl, by omega, ?_, ?_, hbw.trans hb4, how.trans ho4, Nat.le_trans hws hs4⟩
          · refine Lib.hid ?_
            rw [HT.out]
            refine hf.out.comp ?_
            rw [HSb.out] at hf2
            exact .app HLG.out (by rw [List.append_nil]; exact hf2)
          · rw [HSb.out] at hBl4
            simpa only [List.append_assoc] using hBl4
        case measure => simp [intOf]; omega
      · clear HAW HSZ
        go_wp2
        go_roundw
        case rel =>
          refine ⟨k + 1, o, q ++ [c], by go_num, by rw [HS.out], by omega, ?_, HBK.out, hbw, how, hws⟩
          refine Lib.hid ?_
          rw [HT.out]
          have := hf.out.comp (Feeds.wait (rs := rs) (p := q) (k := c) (ks := []) HLG.out (.nil _))
          rwa [List.append_nil] at this
        case measure => simp [intOf]; omega
    · have e1 : (bs ks).take k = bs ks := List.take_of_length_le (by rw [bs_len]; omega)
      rw [e1] at hf
      clear e1
      go_wp2
      go_ret
      exact ⟨o, q, rfl, hf.out, hBk, hbw, how, hws⟩

theorem feed_all {rs : List Rule} (hok : okL rs = true) : ∀ n, FeedC rs n ∧ ApplyC rs (n + 1)
  | 0 => by
    have h0 : ApplyC rs 0 := fun B a b s acc w hA hB hbs hBl h0 hs => by omega
    have h1 := feed_of hok 0 h0
    exact ⟨h1, apply_of hok 0 h1⟩
  | n + 1 => by
    have h1 := feed_of hok (n + 1) (feed_all hok n).2
    exact ⟨h1, apply_of hok (n + 1) h1⟩

end Go.Proofs.Ytmbccolkgephgaa.Aut
