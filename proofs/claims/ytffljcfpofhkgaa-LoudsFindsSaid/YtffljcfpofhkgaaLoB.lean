/-
  Contracts of parent, number, firstUnder, lastUnder.
-/
import Derived.Test.YtffljcfpofhkgaaLoA
import Derived.RegionTactic
import Derived.ChangeAlike
import Derived.Deep.RegionLaw
import Derived.Deep.RegionHeld3
import Derived.Deep.DeepCutAuto
set_option linter.unusedVariables false
set_option linter.unusedSimpArgs false
set_option maxRecDepth 100000
namespace Go.Proofs.Ytffljcfpofhkgaa.Lo
open Go Go.RowKit Go.Proofs.Ytffljcfpofhkgaa.Kit Go.Proofs.Ytffljcfpofhkgaa.Bv Go.Proofs.Ytffljcfpofhkgaa.Pk

set_option maxHeartbeats 1000000 in
theorem parent_any {B0 B1 : Nat} {L : List Str} {p : Nat} {w : World} (h : TrieAt B0 B1 w p L) (hL : Ok L) (hN : (Gs L).length ≤ 524287) (hB : B1 ≤ w.heap.size) {k t : Nat} (hk : k < (Gs L).length) (ht : t < deg L k) :
    Calls Try.prog 49 #[.pointer (some ⟨p, 0, none⟩), .int .i64 ((off L k + t : Nat) : Int)] w fun e w' => e = .returned (.int .i64 (k : Int)) ∧ Below w.heap.size w w' := by
  obtain ⟨ps, pe, pn, pd, a, c, hp, ⟨x0, x1, x2, x3, x4⟩, hs, _, _, _, _⟩ := h.use
  have hl := shp_len hL
  have hsel := sel_t hL hk ht
  have HS := select_any hs hB (by omega) true ((off L k + t : Nat) : Int)
  rw [hsel] at HS
  have HS := Lib.hid HS
  have hoff := off_le hL (i := k + 1) (by omega)
  rw [off_succ hk] at hoff
  have hn : off L k + k + 1 + t ≤ 2000000 := by omega
  obtain ⟨z, hz⟩ : ∃ z, off L k + t = z := ⟨_, rfl⟩
  obtain ⟨y, hy⟩ : ∃ y, off L k + k + 1 + t = y := ⟨_, rfl⟩
  have hzy : y = z + k + 1 := by omega
  rw [hz] at HS ⊢
  rw [hy] at HS hn
  clear hy hz hsel hs x1 x2 x3 x4 h hl hoff hL
  go_enter Try.func49, Try.ntmps49
  go_wp2_with (go_at_call 75; (with_reducible refine HS.out.mono ?_); rintro e w1 ⟨rfl, hb1⟩)
  go_ret
  exact ⟨ret_int (by omega), hb1⟩

theorem u64_of {l : List Nat} {B : Nat} (hB : B < 18446744073709551616) (h : ∀ x ∈ l, x < B) : U64 l := fun x hx => Nat.lt_trans (h x hx) hB
theorem nums_u64 {L : List Str} (hL : Ok L) (hm : L.length ≤ 1048576) : U64 (nums L) := u64_of (B := 1048577) (by decide) fun x hx => by have := (nums_mem hL x).1 hx; omega

set_option maxHeartbeats 1000000 in
theorem number_no {B0 B1 : Nat} {L : List Str} {p : Nat} {w : World} (h : TrieAt B0 B1 w p L) (hN : (Gs L).length ≤ 524287) (hB : B1 ≤ w.heap.size) {k : Nat} (hk : k < (Gs L).length) (hs : isS L (gd L k) = false) :
    Calls Try.prog 42 #[.pointer (some ⟨p, 0, none⟩), .int .i64 (k : Int)] w fun e w' => e = .returned (.tuple #[.int .i64 0, .bool false]) ∧ w = w' := by
  obtain ⟨ps, pe, pn, pd, a, c, hp, ⟨x0, x1, x2, x3, x4⟩, _, he, _, _, _⟩ := h.use
  have HG := get_any he (by rw [ends_len]; omega) (k : Int)
  rw [gt_nat, ends_bt hk, hs] at HG
  have HG := Lib.hid HG
  clear x0 x2 x3 x4 h he hs hk hN
  go_enter Try.func42, Try.ntmps42
  go_wp2_with (go_at_call 68; (with_reducible refine HG.out.mono ?_); rintro e w1 ⟨rfl, rfl⟩)
  go_ret2
  exact ⟨rfl, rfl⟩
set_option maxHeartbeats 2000000 in
theorem number_yes {B0 B1 : Nat} {L : List Str} {p : Nat} {w : World} (h : TrieAt B0 B1 w p L) (hL : Ok L) (hN : (Gs L).length ≤ 524287) (hm : L.length ≤ 1048576) (hB : B1 ≤ w.heap.size) {k : Nat} (hk : k < (Gs L).length) (hs : isS L (gd L k) = true) :
    Calls Try.prog 42 #[.pointer (some ⟨p, 0, none⟩), .int .i64 (k : Int)] w fun e w' => e = .returned (.tuple #[.int .i64 ((gd L k).f : Nat), .bool true]) ∧ Below w.heap.size w w' := by
  obtain ⟨ps, pe, pn, pd, a, c, hp, ⟨x0, x1, x2, x3, x4⟩, _, he, _, hn, _⟩ := h.use
  have HG := get_any he (by rw [ends_len]; omega) (k : Int)
  rw [gt_nat, ends_bt hk, hs] at HG
  have HG := Lib.hid HG
  have HR := Lib.hid (fun W (hW : Below w.heap.size w W) => by
    have h1 := rank_any (he.below hW hB) (by rw [ends_len]; omega) true (k : Int)
    rw [rank_nat _ _ (by rw [ends_len]; omega)] at h1
    exact h1)
  have HF := Lib.hid (fun W (hW : Below w.heap.size w W) => Pk.get_at (hn.below hW hB) (by have := hW.size; omega) (by rw [nums_len hL]; omega) (nums_u64 hL hm) (nums_at hk hs))
  have hf : (gd L k).f < 1048576 := by
    have h1 := (isS_iff.1 hs).1
    have h2 := (node_at hL hk).tm
    omega
  obtain ⟨R, hR⟩ : ∃ R, rk (ends L) true k = R := ⟨_, rfl⟩
  obtain ⟨F, hF⟩ : ∃ F, (gd L k).f = F := ⟨_, rfl⟩
  rw [hR] at HR HF
  rw [hF] at HF hf ⊢
  have hwr : IntKind.i64.wrap (F : Int) = (F : Int) := by rw [IntKind.wrap_i64]; omega
  clear x0 x2 x4 h he hs hk hN hn hR hF hL hm
  go_enter Try.func42, Try.ntmps42
  go_wp2_with (go_at_call 68; (with_reducible refine HG.out.mono ?_); rintro e w1 ⟨rfl, rfl⟩)
  go_region_law (first
    | (go_simp; go_at_call 69; (with_reducible refine (HR.out _ (Below.refl _ _).drew).mono ?_); rintro e w1 ⟨rfl, rfl⟩)
    | (go_simp; go_at_call 47; (with_reducible refine (HF.out _ (Below.refl _ _).drew).mono ?_); rintro e w2 ⟨rfl, hb2⟩; have hb3 : Below w.heap.size w w2 := (Below.refl _ _).drew.trans hb2))
  all_goals go_wp2
  all_goals go_ret2
  all_goals exact ⟨rfl, hb3⟩

set_option maxHeartbeats 2000000 in
theorem first_any {B0 B1 : Nat} {L : List Str} {p : Nat} {w : World} (h : TrieAt B0 B1 w p L) (hL : Ok L) (hN : (Gs L).length ≤ 524287) (hm : L.length ≤ 1048576) (hB : B1 ≤ w.heap.size) {k : Nat} (hk : k < (Gs L).length) (hf : (gd L k).f < (gd L k).t) :
    Calls Try.prog 44 #[.pointer (some ⟨p, 0, none⟩), .int .i64 (k : Int)] w fun e w' => e = .returned (.int .i64 ((gd L k).f : Nat)) ∧ Below w.heap.size w w' := by
  obtain ⟨ps, pe, pn, pd, a, c, hp, ⟨x0, x1, x2, x3, x4⟩, _, he, _, hn, _⟩ := h.use
  have HX := Lib.hid (fun W (hW : Below w.heap.size w W) => show W.cell? ⟨p, 1, none⟩ = some (.pointer (some ⟨pe, 0, none⟩)) by rw [hW.cell (p := ⟨p, 1, none⟩) (by show p < _; omega)]; exact x1)
  have HG := Lib.hid (fun W (hW : Below w.heap.size w W) (j : Nat) (hj : j < (Gs L).length) => by
    have h1 := get_any (he.below hW hB) (by rw [ends_len]; omega) (j : Int)
    rw [gt_nat, ends_bt hj] at h1
    exact h1)
  have HF := Lib.hid (fun W (hW : Below w.heap.size w W) (j : Nat) (hj : j < (Gs L).length) => family_any (h.below hW hB) hL hN (by have := hW.size; omega) hj)
  have HY := Lib.hid (fun W (hW : Below w.heap.size w W) (j : Nat) (hj : j < (Gs L).length) (hs : isS L (gd L j) = true) => number_yes (h.below hW hB) hL hN hm (by have := hW.size; omega) hj hs)
  have HD := Lib.hid (fun (j : Nat) (hj : j < (Gs L).length) => @down_first L hL j hj)
  have HM := Lib.hid (fun (j : Nat) (hj : j < (Gs L).length) => (node_at hL hj).n256)
  have HKN := Lib.hid (fun (i t : Nat) (hi : i < (Gs L).length) (ht : t < deg L i) => kid_n hL hi ht)
  have HKA := Lib.hid (fun (i t : Nat) (hi : i < (Gs L).length) (ht : t < deg L i) => (kid_at hL hi ht).1)
  have HNA := Lib.hid (fun (j : Nat) (hj : j < (Gs L).length) => (node_at hL hj).lt_len)
  obtain ⟨F, hF⟩ : ∃ F, (gd L k).f = F := ⟨_, rfl⟩
  obtain ⟨N, hNN⟩ : ∃ N, (Gs L).length = N := ⟨_, rfl⟩
  rw [hNN] at hk hN HG HF HY HD HM HKN HKA HNA
  have HF0 := Lib.hid hF
  rw [hF] at hf ⊢
  have Hf := Lib.hid hf
  clear x0 x2 x3 x4 h he hn hF hNN hL hm hf
  go_enter Try.func44, Try.ntmps44
  go_wp2
  go_loopw [1] (fun y wr => ∃ j : Nat, j < N ∧ y = .int .i64 (j : Int) ∧ Hid ((gd L j).f = F ∧ (gd L j).f < (gd L j).t) ∧ Below w.heap.size w wr) (fun y _ => 257 - (gd L (intOf y).toNat).n)
  case atStart => exact ⟨k, hk, rfl, Lib.hid ⟨HF0.out, by rw [HF0.out]; exact Hf.out⟩, Below.refl _ _⟩
  case round =>
    obtain ⟨j, hj, rfl, hjf, hb⟩ := hrel
    have hx := HX.out _ hb
    have hG := HG.out _ hb j hj
    cases hs : isS L (gd L j) with
    | false =>
      rw [hs] at hG
      have HG1 := Lib.hid hG
      have HF1 := Lib.hid (HF.out _ hb j hj)
      obtain ⟨d1, d2⟩ := HD.out j hj hjf.out.2 hs
      have d3 := HKA.out j 0 hj d1
      have d4 := HKN.out j 0 hj d1
      rw [Nat.add_zero] at d3 d4
      have d5 := HM.out _ d3
      have HS : Hid ((gd L (off L j)).f = F ∧ (gd L (off L j)).f < (gd L (off L j)).t) := Lib.hid ⟨by rw [d2]; exact hjf.out.1, (HNA.out _ d3 (by omega)).1⟩
      have HME : Hid (257 - (gd L (off L j)).n < 257 - (gd L j).n) := Lib.hid (by omega)
      have hbs := hb.size
      obtain ⟨O, hO⟩ : ∃ O, off L j = O := ⟨_, rfl⟩
      rw [hO] at HF1 d3 HS HME
      clear hG hs d1 d2 d4 d5 hO
      go_wp2_with (first
        | (go_at_call 68; (with_reducible refine HG1.out.mono ?_); rintro e w1 ⟨rfl, rfl⟩)
        | (go_at_call 72; (with_reducible refine HF1.out.mono ?_); rintro e w1 ⟨rfl, hb1⟩; have hb2 := hb.trans (hb1.mono hbs)))
      go_roundw
      case rel => exact ⟨O, d3, rfl, HS, hb2⟩
      case measure => simpa [intOf] using HME.out
    | true =>
      rw [hs] at hG
      have HG1 := Lib.hid hG
      have HY1 := HY.out _ hb j hj hs
      rw [hjf.out.1] at HY1
      have HY1 := Lib.hid HY1
      have hbs := hb.size
      clear hG hs
      go_wp2_with (first
        | (go_at_call 68; (with_reducible refine HG1.out.mono ?_); rintro e w1 ⟨rfl, rfl⟩)
        | (go_at_call 42; (with_reducible refine HY1.out.mono ?_); rintro e w1 ⟨rfl, hb1⟩; have hb2 := hb.trans (hb1.mono hbs)))
      go_ret
      exact ⟨rfl, hb2⟩

set_option maxHeartbeats 2000000 in
theorem last_any {B0 B1 : Nat} {L : List Str} {p : Nat} {w : World} (h : TrieAt B0 B1 w p L) (hL : Ok L) (hN : (Gs L).length ≤ 524287) (hm : L.length ≤ 1048576) (hB : B1 ≤ w.heap.size) {k : Nat} (hk : k < (Gs L).length) (hf : (gd L k).f < (gd L k).t) :
    Calls Try.prog 45 #[.pointer (some ⟨p, 0, none⟩), .int .i64 (k : Int)] w fun e w' => e = .returned (.int .i64 (((gd L k).t : Int) - 1)) ∧ Below w.heap.size w w' := by
  have HF := Lib.hid (fun W (hW : Below w.heap.size w W) (j : Nat) (hj : j < (Gs L).length) => family_any (h.below hW hB) hL hN (by have := hW.size; omega) hj)
  have HY := Lib.hid (fun W (hW : Below w.heap.size w W) (j : Nat) (hj : j < (Gs L).length) (hs : isS L (gd L j) = true) => number_yes (h.below hW hB) hL hN hm (by have := hW.size; omega) hj hs)
  have HD := Lib.hid (fun (j : Nat) (hj : j < (Gs L).length) => @down_last L hL j hj)
  have HM := Lib.hid (fun (j : Nat) (hj : j < (Gs L).length) => (node_at hL hj).n256)
  have HKN := Lib.hid (fun (i t : Nat) (hi : i < (Gs L).length) (ht : t < deg L i) => kid_n hL hi ht)
  have HKA := Lib.hid (fun (i t : Nat) (hi : i < (Gs L).length) (ht : t < deg L i) => (kid_at hL hi ht).1)
  have HNA := Lib.hid (fun (j : Nat) (hj : j < (Gs L).length) => (node_at hL hj).lt_len)
  obtain ⟨T, hT⟩ : ∃ T, (gd L k).t = T := ⟨_, rfl⟩
  obtain ⟨N, hNN⟩ : ∃ N, (Gs L).length = N := ⟨_, rfl⟩
  rw [hNN] at hk hN HF HY HD HM HKN HKA HNA
  have HT0 := Lib.hid hT
  have Hf := Lib.hid hf
  rw [hT]
  have HF1 := Lib.hid (HF.out _ (Below.refl _ _) k hk)
  clear h hT hNN hL hm hf
  go_enter Try.func45, Try.ntmps45
  go_wp2_with (go_at_call 72; (with_reducible refine HF1.out.mono ?_); rintro e w1 ⟨rfl, hb1⟩)
  clear HF1
  go_loopw [1, 5, 6] (fun y x z wr => ∃ j : Nat, j < N ∧ y = .int .i64 (j : Int) ∧ x = .int .i64 (off L j : Nat) ∧ z = .int .i64 ((off L j + deg L j : Nat) : Int) ∧ Hid ((gd L j).t = T ∧ (gd L j).f < (gd L j).t) ∧ Below w.heap.size w wr) (fun y _ _ _ => 257 - (gd L (intOf y).toNat).n)
  case atStart => exact ⟨k, hk, rfl, rfl, rfl, Lib.hid ⟨HT0.out, Hf.out⟩, hb1⟩
  case round =>
    clear hb1
    obtain ⟨j, hj, rfl, rfl, rfl, hjf, hb⟩ := hrel
    obtain ⟨d1, d2⟩ := HD.out j hj hjf.out.2
    have hbs := hb.size
    have HKA1 := fun t => HKA.out j t hj
    by_cases h0 : 0 < deg L j
    · have d3 := HKA1 (deg L j - 1) (by omega)
      have d4 := HKN.out j (deg L j - 1) hj (by omega)
      have d5 := HM.out _ d3
      have HS : Hid ((gd L (off L j + (deg L j - 1))).t = T ∧ (gd L (off L j + (deg L j - 1))).f < (gd L (off L j + (deg L j - 1))).t) := Lib.hid ⟨by rw [d1 h0]; exact hjf.out.1, (HNA.out _ d3 (by omega)).1⟩
      have HME : Hid (257 - (gd L (off L j + (deg L j - 1))).n < 257 - (gd L j).n) := Lib.hid (by omega)
      have HF1 := HF.out _ hb _ d3
      have hz : (((off L j + (deg L j - 1) : Nat) : Int)) = ((off L j + deg L j : Nat) : Int) - 1 := by omega
      rw [hz] at HF1
      have hcmp : ((off L j : Nat) : Int) < ((off L j + deg L j : Nat) : Int) := by omega
      have hz' := hz.symm
      obtain ⟨Z, hZ⟩ : ∃ Z, off L j + (deg L j - 1) = Z := ⟨_, rfl⟩
      rw [hZ] at d3 HS HME HF1 hz'
      have HZ := Lib.hid hz'
      have hsm : off L j + deg L j ≤ 600000 := by omega
      obtain ⟨O, hO⟩ : ∃ O, off L j = O := ⟨_, rfl⟩
      obtain ⟨Y, hY⟩ : ∃ Y, O + deg L j = Y := ⟨_, rfl⟩
      rw [hO, hY] at HF1 hcmp HZ hsm ⊢
      have HF1 := Lib.hid HF1
      clear hz hz' hZ hO hY d1 d2 d4 d5 h0 HKA1
      go_wp2_with (go_at_call 72; (with_reducible refine HF1.out.mono ?_); rintro e w1 ⟨rfl, hb1⟩; have hb2 := hb.trans (hb1.mono hbs))
      go_roundw
      case rel => exact ⟨Z, d3, by rw [HZ.out], rfl, rfl, HS, hb2⟩
      case measure => rw [show (intOf (Value.int IntKind.i64 ((Y : Int) - 1))).toNat = Z by simp only [intOf]; rw [HZ.out]; simp]; simpa [intOf] using HME.out
    · have h1 : deg L j = 0 := by omega
      obtain ⟨d3, d4⟩ := d2 h1
      have HY1 := HY.out _ hb j hj d3
      have hfz : ((gd L j).f : Int) = (T : Int) - 1 := by have := hjf.out.1; omega
      rw [hfz] at HY1
      have HY1 := Lib.hid HY1
      rw [h1, Nat.add_zero]
      clear d1 d2 d3 d4 h0 h1 hfz HKA1
      go_wp2_with (go_at_call 42; (with_reducible refine HY1.out.mono ?_); rintro e w1 ⟨rfl, hb1⟩; have hb2 := hb.trans (hb1.mono hbs))
      go_ret
      exact ⟨rfl, hb2⟩
end Go.Proofs.Ytffljcfpofhkgaa.Lo
