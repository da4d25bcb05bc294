/-
  LoudsSet
-/
import Derived.Test.YtffljcfpofhkgaaM2
import Derived.OpenShut
import Derived.ShutString
import Derived.ChangeOld
import Derived.HandedShaped
import Derived.LaidMore
import Derived.Lay
import Derived.SizedLaws
import Derived.Deep.DeepHandedRow
import Derived.Test.YtffljcfpofhkgaaBvFr
set_option linter.unusedVariables false
set_option linter.unusedSimpArgs false
set_option maxRecDepth 100000
namespace Go.Proofs.Ytffljcfpofhkgaa.loudsSet
open Go Go.RowKit Go.ChangeShapes Go.WideShapes Go.ChangeAt Go.Proofs.Ytffljcfpofhkgaa Go.Proofs.Ytffljcfpofhkgaa.Kit Go.Proofs.Ytffljcfpofhkgaa.Bv
open Go.ChangeMaps (open_string shut_string)
open Lo in
theorem take_lt : ∀ (s : Lo.Str) (j k : Nat), j < k → k ≤ s.length → s.take j < s.take k
  | [], j, k, h, h2 => by simp at h2; omega
  | a :: s, 0, k + 1, _, _ => List.nil_lt_cons _ _
  | a :: s, j + 1, k + 1, h, h2 => by
    rw [List.take_succ_cons, List.take_succ_cons, List.cons_lt_cons_iff]
    exact .inr ⟨rfl, take_lt s j k (by omega) (by simpa using h2)⟩
theorem asc_eq : ∀ (xs ys : List (Nat × Nat)), xs.Pairwise (fun a b => a.1 < b.1) → ys.Pairwise (fun a b => a.1 < b.1) → (∀ p, p ∈ xs ↔ p ∈ ys) → xs = ys
  | [], [], _, _, _ => rfl
  | [], y :: ys, _, _, h => by have := (h y).2 (List.mem_cons_self); simp at this
  | x :: xs, [], _, _, h => by have := (h x).1 (List.mem_cons_self); simp at this
  | x :: xs, y :: ys, h1, h2, h => by
    obtain ⟨a1, a2⟩ := List.pairwise_cons.1 h1
    obtain ⟨b1, b2⟩ := List.pairwise_cons.1 h2
    have e : x = y := by
      rcases List.mem_cons.1 ((h x).1 List.mem_cons_self) with e | e
      · exact e
      · rcases List.mem_cons.1 ((h y).2 List.mem_cons_self) with f | f
        · exact f.symm
        · have := b1 x e; have := a1 y f; omega
    subst e
    rw [asc_eq xs ys a2 b2 (fun p => ?_)]
    constructor
    · intro hp
      rcases List.mem_cons.1 ((h p).1 (List.mem_cons_of_mem _ hp)) with e | e
      · subst e; have := a1 p hp; omega
      · exact e
    · intro hp
      rcases List.mem_cons.1 ((h p).2 (List.mem_cons_of_mem _ hp)) with e | e
      · subst e; have := b1 p hp; omega
      · exact e
open Lo in
theorem hits_filter {L : List Lo.Str} (hL : Ok L) (s : Lo.Str) : hits L s = ((List.range L.length).filter fun i => beg s (sg L i)).map fun i => (i, ln L i) := by
  apply asc_eq
  · unfold hits
    rw [List.pairwise_filterMap]
    refine List.Pairwise.imp_of_mem ?_ (List.pairwise_lt_range (n := s.length + 1))
    intro j k hj hk hjk b hb c hc
    simp only [Option.map_eq_some_iff] at hb hc
    obtain ⟨i, hi, rfl⟩ := hb
    obtain ⟨i2, hi2, rfl⟩ := hc
    obtain ⟨p1, p2⟩ := (ixOf_some hL).1 hi
    obtain ⟨q1, q2⟩ := (ixOf_some hL).1 hi2
    have hlt := take_lt s j k hjk (by have := List.mem_range.1 hk; omega)
    show i < i2
    rcases Nat.lt_trichotomy i i2 with h | h | h
    · exact h
    · subst h; rw [← p2, ← q2] at hlt; exact absurd hlt (List.lt_irrefl _)
    · have := hL.lt h p1
      rw [← p2, ← q2] at hlt
      exact absurd (List.lt_trans this hlt) (List.lt_irrefl _)
  · rw [List.pairwise_map]
    exact (List.pairwise_lt_range).filter _
  · rintro ⟨i, j⟩
    unfold hits
    simp only [List.mem_filterMap, List.mem_map, List.mem_filter, List.mem_range, Option.map_eq_some_iff, Prod.mk.injEq]
    constructor
    · rintro ⟨k, hk, q, hq, rfl, rfl⟩
      obtain ⟨p1, p2⟩ := (ixOf_some hL).1 hq
      have hl : ln L q = k := by unfold ln; rw [p2, List.length_take]; omega
      refine ⟨q, ⟨p1, ?_⟩, rfl, hl⟩
      unfold beg
      rw [decide_eq_true_iff]
      unfold ln at hl
      rw [hl]
      exact ⟨by omega, p2.symm⟩
    · rintro ⟨q, ⟨h1, h2⟩, rfl, rfl⟩
      unfold beg at h2
      rw [decide_eq_true_iff] at h2
      exact ⟨ln L q, by unfold ln; omega, q, (ixOf_some hL).2 ⟨h1, h2.2.symm⟩, rfl, rfl⟩
/-- How many numbers below i fulfil P. -/
def cnt (P : Nat → Bool) (i : Nat) : Nat := ((List.range i).filter P).length
theorem cnt_yes {P : Nat → Bool} {i : Nat} (h : P i = true) : cnt P (i + 1) = cnt P i + 1 := by
  unfold cnt; rw [List.range_succ, List.filter_append]; simp [h]
theorem cnt_no {P : Nat → Bool} {i : Nat} (h : P i = false) : cnt P (i + 1) = cnt P i := by
  unfold cnt; rw [List.range_succ, List.filter_append]; simp [h]
theorem cnt_at {P : Nat → Bool} {i : Nat} (h : P i = true) : ∀ m, i < m → ((List.range m).filter P)[cnt P i]? = some i
  | m + 1, hi => by
    rw [List.range_succ, List.filter_append]
    by_cases e : i = m
    · subst e
      rw [List.getElem?_append_right (by unfold cnt; exact Nat.le_refl _)]
      simp [h, cnt]
    · have := cnt_at h m (by omega)
      rw [List.getElem?_append_left (List.getElem?_eq_some_iff.1 this).1]
      exact this
theorem cnt_lt {P : Nat → Bool} {i m : Nat} (h : P i = true) (hi : i < m) : cnt P i < cnt P m := (List.getElem?_eq_some_iff.1 (cnt_at h m hi)).1
open Lo in
theorem hcs_at : ∀ (hs : List (Nat × Nat)) (i : Nat) (x y : Nat), hs[i]? = some (x, y) → (hcs hs)[i * 2]? = some (.int .i64 (x : Int)) ∧ (hcs hs)[i * 2 + 1]? = some (.int .i64 (y : Int))
  | [], i, _, _, h => by simp at h
  | (x, y) :: hs, 0, _, _, h => by
    simp at h
    obtain ⟨rfl, rfl⟩ := h
    exact ⟨rfl, rfl⟩
  | (x, y) :: hs, i + 1, x', y', h => by
    obtain ⟨h1, h2⟩ := hcs_at hs i x' y' (by simpa using h)
    constructor
    · rw [← h1]
      show ([Value.int .i64 (x : Int), .int .i64 (y : Int)] ++ hcs hs)[(i + 1) * 2]? = _
      rw [List.getElem?_append_right (by simp; omega)]
      congr 1
      simp; omega
    · rw [← h2]
      show ([Value.int .i64 (x : Int), .int .i64 (y : Int)] ++ hcs hs)[(i + 1) * 2 + 1]? = _
      rw [List.getElem?_append_right (by simp; omega)]
      congr 1
      simp; omega
/-- Whether one of the first i strings is s. -/
def inB (L : List Lo.Str) (s : Lo.Str) (i : Nat) : Bool := (List.range i).any fun j => decide (Lo.sg L j = s)
theorem inB_succ (L : List Lo.Str) (s : Lo.Str) (i : Nat) : inB L s (i + 1) = (inB L s i || decide (Lo.sg L i = s)) := by
  unfold inB; rw [List.range_succ, List.any_append]; simp
open Lo in
theorem inB_all {L : List Lo.Str} (hL : Ok L) (s : Lo.Str) : inB L s L.length = (ixOf L s).isSome := by
  unfold inB
  cases h : ixOf L s with
  | some q =>
    obtain ⟨h1, h2⟩ := (ixOf_some hL).1 h
    simp only [Option.isSome_some, List.any_eq_true, List.mem_range]
    exact ⟨q, h1, by simp [h2]⟩
  | none =>
    have := ixOf_none.1 h
    simp only [Option.isSome_none, List.any_eq_false, List.mem_range]
    intro j hj
    simp [this j hj]
open Lo in
theorem inB_eq {L : List Lo.Str} (hL : Ok L) {s : Lo.Str} {i : Nat} (hi : i < L.length) (he : sg L i = s) : inB L s i = false ∧ beg s (sg L i) = true ∧ beg (sg L i) s = true := by
  refine ⟨?_, ?_, ?_⟩
  · unfold inB
    simp only [List.any_eq_false, List.mem_range]
    intro j hj
    have := hL.lt hj hi
    rw [he] at this
    simp only [decide_eq_true_iff]
    intro e
    rw [e] at this
    exact List.lt_irrefl _ this
  · rw [he]; unfold beg; simp
  · rw [he]; unfold beg; simp
open Lo in
theorem beg_both {s p : Lo.Str} (h1 : beg s p = true) (h2 : beg p s = true) : p = s := by
  unfold beg at h1 h2
  rw [decide_eq_true_iff] at h1 h2
  have : p.length = s.length := by omega
  rw [← h1.2, List.take_of_length_le (by omega)]
open Lo in
set_option maxHeartbeats 8000000 in
theorem walk (a0 : Option Addr) (len0 cap0 : Nat) (z0 : List (List UInt8)) (a1 : ByteArray) (w : World) (w0 : Reads w (.slice a0 len0 cap0) (Lo.strs z0)) (n0 : z0.length = len0) (y0 : ∀ i, i < z0.length → (Lo.sg z0 i).length ≤ 281474976710656) (w1 : a1.size ≤ maxLen) (s1 : a1.size ≤ 140737488351232) :
    Calls Try.prog 9 #[.slice a0 len0 cap0, .string a1] w fun e w' => e = .returned (.bool true) ∧ Below w.heap.size w w' := by
  subst n0
  have HS := Lib.hid (set_any z0 a0 cap0 w w0 y0)
  obtain ⟨s, hs⟩ : ∃ s, a1 = ba s := ⟨a1.data.toList, by unfold ba; simp⟩
  have hsl : s.length ≤ 281474976710656 := by have := ba_size s; rw [hs] at s1; omega
  have HW := Lib.hid (fun V => Lo.works_lo V)
  have HB := Lib.hid (fun L (hf : Fits L) a c V (hR : Reads V (.slice a L.length c) (strs L)) => lbuild_any hf a c V hR)
  have HFI := Lib.hid (fun L p V V2 (h : Tr V p L V2) (hf : Fits L) => Tr.find h hf s hsl)
  have HPX := Lib.hid (fun L p V V2 (h : Tr V p L V2) (hf : Fits L) => Tr.prefixes h hf s hsl)
  have HUN := Lib.hid (fun L p V V2 (h : Tr V p L V2) (hf : Fits L) => Tr.under h hf s hsl L.length)
  have HHA := Lib.hid (fun L p V V2 (h : Tr V p L V2) (hf : Fits L) a c (hR : Reads V2 (.slice a L.length c) (strs L)) => has_any h hf a c hR)
  have HB1 := Lib.hid (fun V p (hp : p.length ≤ 281474976710656) => begins_any 33 s p V (.inr rfl) hsl hp)
  have HB2 := Lib.hid (fun V p (hp : p.length ≤ 281474976710656) => begins_any 33 p s V (.inr rfl) hp hsl)
  have HEQ := Lib.hid (fun p => ba_beq p s)
  rw [← hs] at HFI HPX HUN HEQ
  simp only [← hs] at HB1 HB2
  clear w0 y0 hs hsl
  go_enter Try.func9, Try.ntmps9
  go_wp2_with (first
    | (go_at_call 19; (with_reducible refine HS.out.mono ?_); rintro e v1 ⟨L, b1, c1, rfl, hf, hl3, ho, hb1⟩; have HF := Lib.hid hf; have HO := Lib.hid ho; have HV1 := Lib.hid hb1; clear hf ho hb1)
    | (go_at_call 18; (with_reducible refine (HB.out L HF.out _ _ _ (own_reads HO.out)).mono ?_); rintro e v2 ⟨p, rfl, ht⟩; have HT := Lib.hid ht; have HV2 := Lib.hid (HV1.out.trans (ht.1.mono HV1.out.size)); have HO2 := Lib.hid (own_later HO.out ht.1); clear ht)
    | (go_at_call 32; (with_reducible refine (HHA.out L p _ _ HT.out HF.out _ _ (own_reads HO2.out)).mono ?_); rintro e v3 ⟨rfl, hb3⟩; have HV3 := Lib.hid (HV2.out.trans (hb3.mono HV2.out.size)); have HO3 := Lib.hid (own_later HO2.out hb3); have HT3 := Lib.hid (HT.out.later hb3); clear hb3)
    | (go_at_call 22; (with_reducible refine (HPX.out L p _ _ HT3.out HF.out).mono ?_); rintro e v5 ⟨vx, rfl, ho5, hb5⟩; obtain ⟨a5, c5, rfl⟩ := own_slice ho5; have HV5 := Lib.hid (HV3.out.trans (hb5.mono HV3.out.size)); have HO5 := Lib.hid (own_later HO3.out hb5); have HT5 := Lib.hid (HT3.out.later hb5); have HX5 := Lib.hid ho5; clear hb5 ho5)
    | (go_at_call 25; (with_reducible refine (HUN.out L p _ _ HT5.out HF.out).mono ?_); rintro e v6 ⟨a6, c6, rfl, ho6, hb6⟩; have HV6 := Lib.hid (HV5.out.trans (hb6.mono HV5.out.size)); have HO6 := Lib.hid (own_later HO5.out hb6); have HT6 := Lib.hid (HT5.out.later hb6); have HX6 := Lib.hid (own_later HX5.out hb6); have HU6 := Lib.hid ho6; clear hb6 ho6))
  have hok := HF.out.ok
  have HNN : Hid ((hits L s).length = cnt (fun i => beg s (sg L i)) L.length) := Lib.hid (by rw [hits_filter hok]; unfold cnt; simp)
  have HMM : Hid ((underK L s (L.length : Int)).length = cnt (fun i => beg (sg L i) s) L.length) := Lib.hid (by unfold underK under cnt; rw [List.take_of_length_le (by have := List.length_filter_le (fun i => beg (sg L i) s) (List.range L.length); rw [List.length_range] at this; simpa using this)])
  have HAT : Hid (∀ i, i < L.length → beg s (sg L i) = true → ∀ V, Below v6.heap.size v6 V → ∃ g, a5 = some ⟨g, 0, none⟩ ∧ V.cell? ⟨g, cnt (fun i => beg s (sg L i)) i * 2, none⟩ = some (.int .i64 (i : Int)) ∧ V.cell? ⟨g, cnt (fun i => beg s (sg L i)) i * 2 + 1, none⟩ = some (.int .i64 (ln L i : Int))) := Lib.hid (by
    intro i hi hb V hV
    have h1 := cnt_at (P := fun i => beg s (sg L i)) hb L.length hi
    have h2 : (hits L s)[cnt (fun i => beg s (sg L i)) i]? = some (i, ln L i) := by rw [hits_filter hok, List.getElem?_map, h1]; rfl
    obtain ⟨q1, q2⟩ := hcs_at _ _ _ _ h2
    obtain ⟨g, e1, _, hg, hc, _⟩ := own_cellsN HX6.out (by have := (List.getElem?_eq_some_iff.1 h2).1; omega)
    refine ⟨g, e1, ?_, ?_⟩
    · rw [hV.cell (p := ⟨g, _, none⟩) hg]; exact hc _ _ q1
    · rw [hV.cell (p := ⟨g, _, none⟩) hg]; exact hc _ _ q2)
  have HUT : Hid (∀ i, i < L.length → beg (sg L i) s = true → ∀ V, Below v6.heap.size v6 V → ∃ b off, a6 = some ⟨b, off, none⟩ ∧ V.cell? ⟨b, off + cnt (fun i => beg (sg L i) s) i, none⟩ = some (.int .i64 (i : Int))) := Lib.hid (by
    intro i hi hb V hV
    have h1 := cnt_at (P := fun i => beg (sg L i) s) hb L.length hi
    have h2 : (underK L s (L.length : Int))[cnt (fun i => beg (sg L i) s) i]? = some i := by
      unfold underK under
      rw [List.take_of_length_le (by have := List.length_filter_le (fun i => beg (sg L i) s) (List.range L.length); rw [List.length_range] at this; simpa using this)]
      exact h1
    obtain ⟨b, off, e1, _, hc⟩ := Reads.cell (own_reads (own_later HU6.out hV)) (i := cnt (fun i => beg (sg L i) s) i) (x := .int .i64 (i : Int)) (by unfold i64s; rw [List.getElem?_map, h2]; rfl)
    exact ⟨b, off, e1, hc⟩)
  have HC := Lib.hid (fun V (hV : Below v6.heap.size v6 V) i (hi : i < L.length) => Reads.cell (own_reads (own_later HO6.out hV)) (strs_get hi))
  have HLT1 : Hid (∀ i, i < L.length → beg s (sg L i) = true → cnt (fun i => beg s (sg L i)) i < (hits L s).length ∧ cnt (fun i => beg s (sg L i)) (i + 1) = cnt (fun i => beg s (sg L i)) i + 1) := Lib.hid (fun i hi hb => ⟨by rw [HNN.out]; exact cnt_lt (P := fun i => beg s (sg L i)) hb hi, cnt_yes (P := fun i => beg s (sg L i)) hb⟩)
  have HLF1 : Hid (∀ i, beg s (sg L i) = false → cnt (fun i => beg s (sg L i)) (i + 1) = cnt (fun i => beg s (sg L i)) i) := Lib.hid (fun i hb => cnt_no (P := fun i => beg s (sg L i)) hb)
  have HLT2 : Hid (∀ i, i < L.length → beg (sg L i) s = true → cnt (fun i => beg (sg L i) s) i < (underK L s (L.length : Int)).length ∧ cnt (fun i => beg (sg L i) s) (i + 1) = cnt (fun i => beg (sg L i) s) i + 1) := Lib.hid (fun i hi hb => ⟨by rw [HMM.out]; exact cnt_lt (P := fun i => beg (sg L i) s) hb hi, cnt_yes (P := fun i => beg (sg L i) s) hb⟩)
  have HLF2 : Hid (∀ i, beg (sg L i) s = false → cnt (fun i => beg (sg L i) s) (i + 1) = cnt (fun i => beg (sg L i) s) i) := Lib.hid (fun i hb => cnt_no (P := fun i => beg (sg L i) s) hb)
  have HINB := Lib.hid (inB_all hok s)
  have HN0 : Hid (cnt (fun i => beg s (sg L i)) 0 = 0) := Lib.hid rfl
  have HM0 : Hid (cnt (fun i => beg (sg L i) s) 0 = 0) := Lib.hid rfl
  have HK1 : (hits L s).length ≤ L.length := by rw [HNN.out]; unfold cnt; have := List.length_filter_le (fun i => beg s (sg L i)) (List.range L.length); rw [List.length_range] at this; exact this
  have HK2 : (underK L s (L.length : Int)).length ≤ L.length := by rw [HMM.out]; unfold cnt; have := List.length_filter_le (fun i => beg (sg L i) s) (List.range L.length); rw [List.length_range] at this; exact this
  obtain ⟨K1, hK1⟩ : ∃ k, (hits L s).length = k := ⟨_, rfl⟩
  obtain ⟨K2, hK2⟩ : ∃ k, (underK L s (L.length : Int)).length = k := ⟨_, rfl⟩
  obtain ⟨NN, hNN⟩ : ∃ f, cnt (fun i => beg s (sg L i)) = f := ⟨_, rfl⟩
  obtain ⟨MM, hMM⟩ : ∃ f, cnt (fun i => beg (sg L i) s) = f := ⟨_, rfl⟩
  have HFX := Lib.hid (HFI.out L p)
  have HOK := Lib.hid hok
  rw [hK1, hNN] at HNN
  rw [hK2, hMM] at HMM
  simp only [hNN] at HAT HLF1 HN0
  simp only [hMM] at HUT HLF2 HM0
  simp only [hNN, hK1] at HLT1
  simp only [hMM, hK2] at HLT2
  rw [hK1] at HK1 ⊢
  rw [hK2] at HK2 ⊢
  obtain ⟨m, hm⟩ : ∃ m, L.length = m := ⟨_, rfl⟩
  rw [hm] at hl3 HK1 HK2 HNN HMM HAT HUT HLT1 HLT2 HINB ⊢
  have HM := Lib.hid hm
  clear hK1 hK2 hNN hMM hm hok HX6 HU6 HX5
  go_wp2
  go_loopw [6, 9, 10, 36] (fun x6 x9 x10 x wr => ∃ i : Nat, i ≤ m ∧ x = .int .i64 (i : Int) ∧ x6 = .bool (inB L s i) ∧ x9 = .int .i64 (NN i : Int) ∧ x10 = .int .i64 (MM i : Int) ∧ Below v6.heap.size v6 wr) (fun _ _ _ x _ => m - (intOf x).toNat)
  case atStart => exact ⟨0, Nat.zero_le _, rfl, rfl, by rw [HN0.out]; rfl, by rw [HM0.out]; rfl, Below.refl _ _⟩
  case round =>
    obtain ⟨i, hi, rfl, rfl, rfl, rfl, hb⟩ := hrel
    have hbs := hb.size
    by_cases hlt : i < m
    · have hi0 : (0 : Int) ≤ (i : Int) := by omega
      have him : (i : Int) < (m : Int) := by omega
      have hiL : i < L.length := by rw [HM.out]; exact hlt
      have hls := ba_size (sg L i)
      have hl256 := (HOK.out.1 i hiL).2
      have hbig : (sg L i).length ≤ 281474976710656 := by unfold ln at hl256; omega
      have HB1I := Lib.hid (fun V => HB1.out V (sg L i) hbig)
      have HB2I := Lib.hid (fun V => HB2.out V (sg L i) hbig)
      have HCI := Lib.hid (fun V hV => HC.out V hV i hiL)
      have HATI := Lib.hid (HAT.out i hlt)
      have HUTI := Lib.hid (HUT.out i hlt)
      have HLT1I := Lib.hid (HLT1.out i hlt)
      have HLT2I := Lib.hid (HLT2.out i hlt)
      have HLF1I := Lib.hid (HLF1.out i)
      have HLF2I := Lib.hid (HLF2.out i)
      have HBS := Lib.hid (inB_succ L s i)
      have HIE := Lib.hid (fun e => inB_eq HOK.out hiL (s := s) e)
      have HBB := Lib.hid (fun h1 h2 => beg_both (s := s) (p := sg L i) h1 h2)
      have heq := HEQ.out (sg L i)
      obtain ⟨bb, off, rfl, _, hcell⟩ := HCI.out _ hb
      unfold ln at HATI
      rw [← hls] at HATI
      obtain ⟨b1, hb1⟩ : ∃ b, beg s (sg L i) = b := ⟨_, rfl⟩
      obtain ⟨b2, hb2⟩ : ∃ b, beg (sg L i) s = b := ⟨_, rfl⟩
      obtain ⟨B, hB⟩ : ∃ b, inB L s i = b := ⟨_, rfl⟩
      have HRX : Hid (∀ V, Below v6.heap.size v6 V → NN (i + 1) = NN (i + 1)) := Lib.hid (fun _ _ => rfl)
      clear HRX
      rw [hb1] at HB1I HATI HLT1I HLF1I HIE HBB
      rw [hb2] at HB2I HUTI HLT2I HLF2I HIE HBB
      rw [hB] at HBS HIE ⊢
      have hls2 : (sg L i).length ≤ 256 := hl256
      rw [← hls] at hls2
      obtain ⟨S, hS⟩ : ∃ S, ba (sg L i) = S := ⟨_, rfl⟩
      simp only [hS] at HB1I HB2I HATI HCI heq hcell hls2
      obtain ⟨N, hN⟩ : ∃ k, NN i = k := ⟨_, rfl⟩
      obtain ⟨M, hM⟩ : ∃ k, MM i = k := ⟨_, rfl⟩
      rw [hN] at HATI HLT1I HLF1I ⊢
      rw [hM] at HUTI HLT2I HLF2I ⊢
      have hil : (i : Int) ≤ 300 := by omega
      clear hls hl256 hbig hS hb1 hb2 hB hN hM HB1 HB2 HC HAT HUT HLT1 HLT2 HLF1 HLF2
      by_cases he : sg L i = s
      · obtain ⟨rfl, rfl, rfl⟩ := HIE.out he
        rw [decide_eq_true he] at heq
        have HBS2 : Hid (inB L s (i + 1) = true) := Lib.hid (by rw [HBS.out, decide_eq_true he]; rfl)
        clear HBS HIE HBB he HLF1I HLF2I
        go_wp2_with (go_at_call 33; (with_reducible refine (HB1I.out _).mono ?_); rintro e w1 ⟨rfl, hbA⟩; have hbB := hb.trans (hbA.mono hbs); have hbsB := hbB.size; obtain ⟨_, _, e2, _, hcell2⟩ := HCI.out _ hbB; cases e2; obtain ⟨g, rfl, x1, x2⟩ := HATI.out (by first | rfl | trivial) _ hbB; obtain ⟨hNl, hNs⟩ := HLT1I.out (by first | rfl | trivial); have HN2 := Lib.hid hNs; have hN1 : (N : Int) < (K1 : Int) := (by omega); have hN2 : ((N : Int) == (K1 : Int)) = false := (by rw [beq_eq_false_iff_ne]; omega); have hN3 : decide (N = K1) = false := (decide_eq_false (by omega)); have hN4 : (N == K1) = false := (by rw [beq_eq_false_iff_ne]; omega); have hN5 : ¬ (N : Int) = (K1 : Int) := (by omega); have hN6 : (0 : Int) ≤ (N : Int) := (by omega); clear hNs HATI HLT1I)
        go_quiet (fail)
        go_wp2_with (go_at_call 33; (with_reducible refine (HB2I.out _).mono ?_); rintro e w3 ⟨rfl, hbC⟩; have hbD := hbB.trans ((Lo.below_drewN _ _ hbsB).trans (hbC.mono hbsB)); have hbsD := hbD.size; obtain ⟨_, _, e4, _, hcell4⟩ := HCI.out _ hbD; cases e4; obtain ⟨ub, uo, rfl, y1⟩ := HUTI.out (by first | rfl | trivial) _ hbD; obtain ⟨hMl, hMs⟩ := HLT2I.out (by first | rfl | trivial); have HM2 := Lib.hid hMs; have hM1 : (M : Int) < (K2 : Int) := (by omega); have hM2 : ((M : Int) == (K2 : Int)) = false := (by rw [beq_eq_false_iff_ne]; omega); have hM3 : decide (M = K2) = false := (decide_eq_false (by omega)); have hM4 : (M == K2) = false := (by rw [beq_eq_false_iff_ne]; omega); have hM5 : ¬ (M : Int) = (K2 : Int) := (by omega); have hM6 : (0 : Int) ≤ (M : Int) := (by omega); clear hMs HUTI HLT2I)
        go_roundw
        case rel => exact ⟨i + 1, by omega, by go_num, by rw [HBS2.out], by rw [HN2.out] <;> go_num, by rw [HM2.out] <;> go_num, hbD⟩
        case measure => simp [intOf]; omega
      · have HBS2 : Hid (inB L s (i + 1) = B) := Lib.hid (by rw [HBS.out, decide_eq_false he, Bool.or_false])
        rw [decide_eq_false he] at heq
        have hnb := fun h1 h2 => he (HBB.out h1 h2)
        clear HBS HIE HBB he
        cases b1 with
        | true =>
          have hb2 : b2 = false := by
            cases b2 with
            | false => rfl
            | true => exact (hnb rfl rfl).elim
          subst hb2
          clear hnb HLF1I HLT2I HUTI
          cases B with
          | true =>
            go_wp2_with (go_at_call 33; (with_reducible refine (HB1I.out _).mono ?_); rintro e w1 ⟨rfl, hbA⟩; have hbB := hb.trans (hbA.mono hbs); have hbsB := hbB.size; obtain ⟨_, _, e2, _, hcell2⟩ := HCI.out _ hbB; cases e2; obtain ⟨g, rfl, x1, x2⟩ := HATI.out (by first | rfl | trivial) _ hbB; obtain ⟨hNl, hNs⟩ := HLT1I.out (by first | rfl | trivial); have HN2 := Lib.hid hNs; have hN1 : (N : Int) < (K1 : Int) := (by omega); have hN2 : ((N : Int) == (K1 : Int)) = false := (by rw [beq_eq_false_iff_ne]; omega); have hN3 : decide (N = K1) = false := (decide_eq_false (by omega)); have hN4 : (N == K1) = false := (by rw [beq_eq_false_iff_ne]; omega); have hN5 : ¬ (N : Int) = (K1 : Int) := (by omega); have hN6 : (0 : Int) ≤ (N : Int) := (by omega); clear hNs HATI HLT1I)
            go_quiet (fail)
            go_wp2_with (go_at_call 33; (with_reducible refine (HB2I.out _).mono ?_); rintro e w3 ⟨rfl, hbC⟩; have hbD := hbB.trans ((Lo.below_drewN _ _ hbsB).trans (hbC.mono hbsB)); have hbsD := hbD.size; obtain ⟨_, _, e4, _, hcell4⟩ := HCI.out _ hbD; cases e4; have HM2 := Lib.hid (HLF2I.out (by first | rfl | trivial)); clear HLF2I)
            go_roundw
            case rel => exact ⟨i + 1, by omega, by go_num, by rw [HBS2.out], by rw [HN2.out] <;> go_num, by rw [HM2.out] <;> go_num, hbD⟩
            case measure => simp [intOf]; omega
          | false =>
            go_wp2_with (go_at_call 33; (with_reducible refine (HB1I.out _).mono ?_); rintro e w1 ⟨rfl, hbA⟩; have hbB := hb.trans (hbA.mono hbs); have hbsB := hbB.size; obtain ⟨_, _, e2, _, hcell2⟩ := HCI.out _ hbB; cases e2; obtain ⟨g, rfl, x1, x2⟩ := HATI.out (by first | rfl | trivial) _ hbB; obtain ⟨hNl, hNs⟩ := HLT1I.out (by first | rfl | trivial); have HN2 := Lib.hid hNs; have hN1 : (N : Int) < (K1 : Int) := (by omega); have hN2 : ((N : Int) == (K1 : Int)) = false := (by rw [beq_eq_false_iff_ne]; omega); have hN3 : decide (N = K1) = false := (decide_eq_false (by omega)); have hN4 : (N == K1) = false := (by rw [beq_eq_false_iff_ne]; omega); have hN5 : ¬ (N : Int) = (K1 : Int) := (by omega); have hN6 : (0 : Int) ≤ (N : Int) := (by omega); clear hNs HATI HLT1I)
            go_quiet (fail)
            go_wp2_with (go_at_call 33; (with_reducible refine (HB2I.out _).mono ?_); rintro e w3 ⟨rfl, hbC⟩; have hbD := hbB.trans ((Lo.below_drewN _ _ hbsB).trans (hbC.mono hbsB)); have hbsD := hbD.size; obtain ⟨_, _, e4, _, hcell4⟩ := HCI.out _ hbD; cases e4; have HM2 := Lib.hid (HLF2I.out (by first | rfl | trivial)); clear HLF2I)
            go_roundw
            case rel => exact ⟨i + 1, by omega, by go_num, by rw [HBS2.out], by rw [HN2.out] <;> go_num, by rw [HM2.out] <;> go_num, hbD⟩
            case measure => simp [intOf]; omega
        | false =>
          clear hnb HLT1I HATI
          cases b2 with
          | true =>
            clear HLF2I
            cases B with
            | true =>
              go_wp2_with (first | (go_at_call 33; (with_reducible refine (HB1I.out _).mono ?_); rintro e w1 ⟨rfl, hbA⟩; have hbB := hb.trans (hbA.mono hbs); have hbsB := hbB.size; obtain ⟨_, _, e2, _, hcell2⟩ := HCI.out _ hbB; cases e2; have HN2 := Lib.hid (HLF1I.out (by first | rfl | trivial)); clear HLF1I) | (go_at_call 33; (with_reducible refine (HB2I.out _).mono ?_); rintro e w3 ⟨rfl, hbC⟩; have hbD := hbB.trans ((hbC.mono hbsB)); have hbsD := hbD.size; obtain ⟨_, _, e4, _, hcell4⟩ := HCI.out _ hbD; cases e4; obtain ⟨ub, uo, rfl, y1⟩ := HUTI.out (by first | rfl | trivial) _ hbD; obtain ⟨hMl, hMs⟩ := HLT2I.out (by first | rfl | trivial); have HM2 := Lib.hid hMs; have hM1 : (M : Int) < (K2 : Int) := (by omega); have hM2 : ((M : Int) == (K2 : Int)) = false := (by rw [beq_eq_false_iff_ne]; omega); have hM3 : decide (M = K2) = false := (decide_eq_false (by omega)); have hM4 : (M == K2) = false := (by rw [beq_eq_false_iff_ne]; omega); have hM5 : ¬ (M : Int) = (K2 : Int) := (by omega); have hM6 : (0 : Int) ≤ (M : Int) := (by omega); clear hMs HUTI HLT2I))
              go_roundw
              case rel => exact ⟨i + 1, by omega, by go_num, by rw [HBS2.out], by rw [HN2.out] <;> go_num, by rw [HM2.out] <;> go_num, hbD⟩
              case measure => simp [intOf]; omega
            | false =>
              go_wp2_with (first | (go_at_call 33; (with_reducible refine (HB1I.out _).mono ?_); rintro e w1 ⟨rfl, hbA⟩; have hbB := hb.trans (hbA.mono hbs); have hbsB := hbB.size; obtain ⟨_, _, e2, _, hcell2⟩ := HCI.out _ hbB; cases e2; have HN2 := Lib.hid (HLF1I.out (by first | rfl | trivial)); clear HLF1I) | (go_at_call 33; (with_reducible refine (HB2I.out _).mono ?_); rintro e w3 ⟨rfl, hbC⟩; have hbD := hbB.trans ((hbC.mono hbsB)); have hbsD := hbD.size; obtain ⟨_, _, e4, _, hcell4⟩ := HCI.out _ hbD; cases e4; obtain ⟨ub, uo, rfl, y1⟩ := HUTI.out (by first | rfl | trivial) _ hbD; obtain ⟨hMl, hMs⟩ := HLT2I.out (by first | rfl | trivial); have HM2 := Lib.hid hMs; have hM1 : (M : Int) < (K2 : Int) := (by omega); have hM2 : ((M : Int) == (K2 : Int)) = false := (by rw [beq_eq_false_iff_ne]; omega); have hM3 : decide (M = K2) = false := (decide_eq_false (by omega)); have hM4 : (M == K2) = false := (by rw [beq_eq_false_iff_ne]; omega); have hM5 : ¬ (M : Int) = (K2 : Int) := (by omega); have hM6 : (0 : Int) ≤ (M : Int) := (by omega); clear hMs HUTI HLT2I))
              go_roundw
              case rel => exact ⟨i + 1, by omega, by go_num, by rw [HBS2.out], by rw [HN2.out] <;> go_num, by rw [HM2.out] <;> go_num, hbD⟩
              case measure => simp [intOf]; omega
          | false =>
            clear HLT2I HUTI
            cases B with
            | true =>
              go_wp2_with (first | (go_at_call 33; (with_reducible refine (HB1I.out _).mono ?_); rintro e w1 ⟨rfl, hbA⟩; have hbB := hb.trans (hbA.mono hbs); have hbsB := hbB.size; obtain ⟨_, _, e2, _, hcell2⟩ := HCI.out _ hbB; cases e2; have HN2 := Lib.hid (HLF1I.out (by first | rfl | trivial)); clear HLF1I) | (go_at_call 33; (with_reducible refine (HB2I.out _).mono ?_); rintro e w3 ⟨rfl, hbC⟩; have hbD := hbB.trans ((hbC.mono hbsB)); have hbsD := hbD.size; obtain ⟨_, _, e4, _, hcell4⟩ := HCI.out _ hbD; cases e4; have HM2 := Lib.hid (HLF2I.out (by first | rfl | trivial)); clear HLF2I))
              go_roundw
              case rel => exact ⟨i + 1, by omega, by go_num, by rw [HBS2.out], by rw [HN2.out] <;> go_num, by rw [HM2.out] <;> go_num, hbD⟩
              case measure => simp [intOf]; omega
            | false =>
              go_wp2_with (first | (go_at_call 33; (with_reducible refine (HB1I.out _).mono ?_); rintro e w1 ⟨rfl, hbA⟩; have hbB := hb.trans (hbA.mono hbs); have hbsB := hbB.size; obtain ⟨_, _, e2, _, hcell2⟩ := HCI.out _ hbB; cases e2; have HN2 := Lib.hid (HLF1I.out (by first | rfl | trivial)); clear HLF1I) | (go_at_call 33; (with_reducible refine (HB2I.out _).mono ?_); rintro e w3 ⟨rfl, hbC⟩; have hbD := hbB.trans ((hbC.mono hbsB)); have hbsD := hbD.size; obtain ⟨_, _, e4, _, hcell4⟩ := HCI.out _ hbD; cases e4; have HM2 := Lib.hid (HLF2I.out (by first | rfl | trivial)); clear HLF2I))
              go_roundw
              case rel => exact ⟨i + 1, by omega, by go_num, by rw [HBS2.out], by rw [HN2.out] <;> go_num, by rw [HM2.out] <;> go_num, hbD⟩
              case measure => simp [intOf]; omega
    · obtain rfl : i = m := by omega
      have HV7 := Lib.hid (HV6.out.trans (hb.mono HV6.out.size))
      have HT7 := Lib.hid (HT6.out.later hb)
      have HFX7 := Lib.hid (HFX.out _ _ HT7.out HF.out)
      rw [HINB.out, ← HNN.out, ← HMM.out]
      cases hix : ixOf L s with
      | some q =>
        rw [hix] at HFX7
        have HFX8 : Hid (Calls Try.prog 20 #[.pointer (some ⟨p, 0, none⟩), .string a1] wr fun e w' => e = .returned (.tuple #[.int .i64 (q : Int), .bool true]) ∧ Below wr.heap.size wr w') := HFX7
        clear HFX7 HFX hix HINB HNN HMM
        go_wp2_with (first
          | (go_at_call 20; (with_reducible refine HFX8.out.mono ?_); rintro e v8 ⟨rfl, hb8⟩; have HV8 := Lib.hid (HV7.out.trans (hb8.mono HV7.out.size)); clear hb8)
          | (go_at_call 15; (with_reducible refine (HW.out _).mono ?_); rintro e v9 ⟨rfl, hb9⟩; have HV9 := Lib.hid (HV8.out.trans (hb9.mono HV8.out.size)); clear hb9))
        go_ret
        exact ⟨rfl, HV9.out⟩
      | none =>
        rw [hix] at HFX7
        have HFX8 : Hid (Calls Try.prog 20 #[.pointer (some ⟨p, 0, none⟩), .string a1] wr fun e w' => e = .returned (.tuple #[.int .i64 0, .bool false]) ∧ Below wr.heap.size wr w') := HFX7
        clear HFX7 HFX hix HINB HNN HMM
        go_wp2_with (first
          | (go_at_call 20; (with_reducible refine HFX8.out.mono ?_); rintro e v8 ⟨rfl, hb8⟩; have HV8 := Lib.hid (HV7.out.trans (hb8.mono HV7.out.size)); clear hb8)
          | (go_at_call 15; (with_reducible refine (HW.out _).mono ?_); rintro e v9 ⟨rfl, hb9⟩; have HV9 := Lib.hid (HV8.out.trans (hb9.mono HV8.out.size)); clear hb9))
        go_ret
        exact ⟨rfl, HV9.out⟩
theorem own : ownKnob Try.prog.godebug = none := by kernel_rfl
theorem laidOut : laidOutB Try.prog = true := by kernel_rfl

set_option maxRecDepth 100000 in
theorem lifted (os : Os) (started : os.Started) (H : Type) (enc : TypeId × Value → H) :
    ReturnsInHanded {} Try.checked os 9 .any (Rows.loudsSetSpec.pre6 enc Try.prog Try.f9 Rows.loudsSetRow.domain false) (Rows.loudsSetSpec.post enc Try.prog Try.f9 false true false false) := by
  refine returnsInHanded_of_change_shaped (C := Try.checked) own started (by kernel_rfl) Try.func9
    (ChangeSpec.witness6 (enc := enc) (C := Try.checked) false ⟨#[], #[.slice none 0 0, .string ByteArray.empty], []⟩ 8 (by kernel_rfl) (by kernel_rfl) (by kernel_rfl) (by kernel_rfl)) ?_
  intro W base args ds gs before hval0 hW hcnd hsz0 hsh _
  have hval : ∀ (j : Nat) t v, Try.f9.params[j]? = some t → args[j]? = some v → Value.okWide Try.prog W .any base t v := hval0
  have hW' := hW
  obtain ⟨p, q, hA0, hV, rfl, hfz, hnd⟩ := hW
  have hA : DataW.TrodAll enc Try.prog W 0 (fun _ => true) true Try.f9.params.toList args.toList ds p := hA0
  rw [Try.params9] at hA hval
  obtain ⟨v0, vs0, d0, ds0, p0, q0, hargs, rfl, rfl, h0, r0⟩ := trodAll_cons hA
  obtain ⟨v1, vs1, d1, ds1, p1, q1, rfl, rfl, rfl, h1, r1⟩ := trodAll_cons r0
  obtain ⟨rfl, rfl, rfl⟩ := trodAll_nil r1
  obtain rfl : args = #[v0, v1] := by cases args; simp_all
  obtain ⟨rfl, rfl⟩ := trodVars_none hV
  obtain ⟨a0, len0, cap0, rfl⟩ := okWide_slice Try.underlying22 (hval 0 22 v0 rfl rfl)
  have k0 := h0
  have lt0 : ∀ x ∈ p0, x.block < W.heap.size := by obtain ⟨m, hm⟩ := k0; exact DataW.trod_lt m _ _ _ hm
  obtain ⟨z0, w0, n0, y0⟩ : ∃ z, Reads W (.slice a0 len0 cap0) (Lo.strs z) ∧ z.length = len0 ∧ Lo.StrsOf d0 z := by
    obtain ⟨fuel, hf⟩ := h0
    exact Lo.strs_open hf
  obtain ⟨a1, rfl, rfl, rfl, w1⟩ := open_string Try.underlying9 (hval 1 9 v1 rfl rfl) h1
  clear hA0 hval0
  have hsz : (DataW.weightsEach Try.prog (Try.f9.params.toList ++ Rows.loudsSetSpec.plain.varTypes Try.prog) (_ ++ _)).all (· ≤ reachBytes) = true := hsz0
  rw [Try.params9] at hsz
  have sy0 := Lo.sized_strs hsz (j := 0) rfl rfl y0
  have sz1 := sized_string hsz (j := 1) (t := 9) rfl rfl
  refine (walk a0 len0 cap0 z0 a1 W w0 n0 sy0 w1 (by have := sz1; simp only [reachBytes, Array.length_toList] at this; exact this)).mono fun e W' ⟨he, bel⟩ => ?_
  subst he
  exact ⟨_, rfl, _, _, _, [], _, [], hW', trodAll_mk1 (shut_bool Try.underlying4 _), (trodAll_cons_mk (Below.trod laidOut (by kernel_rfl) (of_decide_eq_true (by kernel_rfl)) k0 bel lt0) (trodAll_cons_mk (shut_string Try.underlying9 w1) trodAll_mk0)), rfl, bel.frame _, fun h => by cases h⟩

theorem over : Rows.loudsSetRow.holds Try.pinned (OpenSpec.ofChange Rows.loudsSetSpec) :=
  OpenClaim.holds_of_wide 9 Try.f9 rfl rfl rfl rfl rfl rfl rfl ⟨rfl, rfl, rfl, rfl, rfl⟩ rfl rfl rfl rfl rfl (by kernel_rfl) Try.func9 (by kernel_rfl)
    (of_decide_eq_true (by kernel_rfl)) (by unfold Func.isWrapper; first | (rw [if_pos (by decide +kernel)]; kernel_rfl) | (rw [if_neg (by decide +kernel)]; exact ⟨rfl, rfl⟩))
    (fun os started H enc _ => lifted os started H enc)

theorem proved : Rows.LoudsSetSaid := over
end Go.Proofs.Ytffljcfpofhkgaa.loudsSet
