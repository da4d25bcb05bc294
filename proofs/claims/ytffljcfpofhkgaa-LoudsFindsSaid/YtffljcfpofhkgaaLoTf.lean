/-
  The reference's Find, begins.
-/
import Derived.Test.YtffljcfpofhkgaaM2
set_option linter.unusedVariables false
set_option linter.unusedSimpArgs false
set_option maxRecDepth 100000
namespace Go.Proofs.Ytffljcfpofhkgaa.Lo
open Go Go.RowKit Go.Proofs.Ytffljcfpofhkgaa.Kit Go.Proofs.Ytffljcfpofhkgaa.Bv Go.Proofs.Ytffljcfpofhkgaa.Pk

set_option maxHeartbeats 2000000 in
theorem rfind_lo (L : List Str) (a : Option Addr) (cap : Nat) (w : World) (hR : Reads w (.slice a L.length cap) (strs L)) (s : Str) (hL : Ok L) :
    Calls Try.prog 21 #[.slice a L.length cap, .string (ba s)] w fun e w' => e = .returned (ixV (ixOf L s)) ∧ Below w.heap.size w w' := by
  have hlen := hR.len.2
  unfold maxLen at hlen
  have HR := Lib.hid (fun i (hi : i < L.length) => show ∃ b off, a = some ⟨b, off, none⟩ ∧ w.cell? ⟨b, off + i, none⟩ = some (.string (ba (sg L i))) by
    obtain ⟨b, off, e1, hb, hc⟩ := Reads.cell hR (strs_get hi)
    exact ⟨b, off, e1, hc⟩)
  have HY : Hid (∀ i, i < L.length → sg L i = s → ixV (ixOf L s) = .int .i64 (i : Int)) := Lib.hid (fun i hi e => by rw [(ixOf_some hL).2 ⟨hi, e⟩]; rfl)
  have HN : Hid ((∀ i, i < L.length → sg L i ≠ s) → ixV (ixOf L s) = .int .i64 (-1)) := Lib.hid (fun h => by rw [ixOf_none.2 h]; rfl)
  have HE := Lib.hid (fun i => ba_beq (sg L i) s)
  obtain ⟨m, hmm⟩ : ∃ m, L.length = m := ⟨_, rfl⟩
  obtain ⟨T, hT⟩ : ∃ T, ba s = T := ⟨_, rfl⟩
  rw [hmm] at HR HY HN hlen ⊢
  rw [hT] at HE ⊢
  clear hR hmm hT
  go_enter Try.func21, Try.ntmps21
  go_wp2
  go_loopw [5] (fun z wr => ∃ i : Nat, i ≤ m ∧ z = .int .i64 (i : Int) ∧ Hid (∀ j, j < i → sg L j ≠ s) ∧ wr = w) (fun z _ => m - (intOf z).toNat)
  case atStart => exact ⟨0, Nat.zero_le _, rfl, Lib.hid (fun j h => by omega), rfl⟩
  case round =>
    obtain ⟨i, hi, rfl, hno, rfl⟩ := hrel
    by_cases hlt : i < m
    · obtain ⟨b, off, rfl, hcell⟩ := HR.out i hlt
      have hq := HE.out i
      have hi0 : (0 : Int) ≤ (i : Int) := by omega
      have him : (i : Int) < (m : Int) := by omega
      by_cases he : sg L i = s
      · have HV := Lib.hid (HY.out i hlt he)
        rw [decide_eq_true he] at hq
        obtain ⟨S, hS⟩ : ∃ S, ba (sg L i) = S := ⟨_, rfl⟩
        rw [hS] at hq hcell
        clear hS he
        go_wp2
        go_ret
        exact ⟨by rw [HV.out]; rfl, by first | exact Below.refl _ _ | exact (Below.refl _ _).drew⟩
      · have HH : Hid (∀ j, j < i + 1 → sg L j ≠ s) := Lib.hid (fun j hj => by
          by_cases h : j = i
          · subst h; exact he
          · exact hno.out j (by omega))
        rw [decide_eq_false he] at hq
        obtain ⟨S, hS⟩ : ∃ S, ba (sg L i) = S := ⟨_, rfl⟩
        rw [hS] at hq hcell
        clear hS he
        go_wp2
        go_roundw
        case rel => exact ⟨i + 1, by omega, by go_num, HH, by trivial⟩
        case measure => simp [intOf]; omega
    · obtain rfl : i = m := by omega
      have HV := Lib.hid (HN.out hno.out)
      go_wp2
      go_ret
      exact ⟨by rw [HV.out]; rfl, Below.refl _ _⟩
set_option maxHeartbeats 4000000 in
theorem rprefixes_lo (L : List Str) (a : Option Addr) (cap : Nat) (w : World) (hR : Reads w (.slice a L.length cap) (strs L)) (hL : Ok L) (s : Str) (hs : s.length ≤ 281474976710656) :
    Calls Try.prog 23 #[.slice a L.length cap, .string (ba s)] w (RxP (hits L s) w) := by
  have HF := Lib.hid (fun V (hV : Below w.heap.size w V) n => rfind_lo L a cap V (hR.later hV) (s.take n) hL)
  have HX := Lib.hid (fun n => ba_take s n)
  have HH := Lib.hid (fun n h => hitI_all hL s n h)
  have H1 := Lib.hid (hitI_one hL s)
  have HQ : Hid (∀ t q, ixOf L t = some q → q < L.length) := Lib.hid (fun t q h => ((ixOf_some hL).1 h).1)
  have hlen := hR.len.2
  unfold maxLen at hlen
  have hs1 := ba_size s
  obtain ⟨i0, hi, hz0, hz1, hz2⟩ := info_parts info_rhit
  have hn0 := own_nil w w.heap.size 41 2
  rw [← hs1] at hs
  obtain ⟨N, hN⟩ : ∃ N, min s.length 256 = N := ⟨_, rfl⟩
  have HE : Hid (N = s.length ∨ (N = 256 ∧ 257 ≤ s.length)) := Lib.hid (by omega)
  obtain ⟨m, hmm⟩ : ∃ m, L.length = m := ⟨_, rfl⟩
  rw [hmm] at HF HQ hlen ⊢
  obtain ⟨T, hT⟩ : ∃ T, ba s = T := ⟨_, rfl⟩
  rw [hT] at HX hs1 hs ⊢
  rw [← hs1] at hN
  have hN2 : N ≤ T.size ∧ N ≤ 256 := by omega
  have hN3 : T.size ≤ N ∨ 256 ≤ N := by omega
  clear hR hmm hT hN hs1
  go_enter Try.func23, Try.ntmps23
  go_wp2
  go_loopw [5, 6] (fun v y wr => ∃ n : Nat, n ≤ N ∧ y = .int .i64 ((n : Int) + 1) ∧ wr.ownsRow w.heap.size 41 2 v (hitI L s (n + 1)).length (hcs (hitI L s (n + 1))) ∧ Below w.heap.size w wr) (fun _ y _ => N + 1 - (intOf y).toNat)
  case atStart => exact ⟨0, Nat.zero_le _, rfl, by rw [H1.out]; exact own_nil _ _ _ _, Below.refl _ _⟩
  case round =>
    clear hn0 H1
    obtain ⟨n, hn, rfl, hown, hb⟩ := hrel
    have hul := hitI_len L s (n + 1)
    have hbs := hb.size
    by_cases hlt : n < N
    · have hz1' : (n : Int) + 1 ≤ (T.size : Int) := by omega
      have hz2' : (n : Int) + 1 ≤ 256 := by omega
      have HSU := hitI_succ L s (n + 1)
      have HFN := Lib.hid (HF.out _ hb (n + 1))
      have hx := HX.out (n + 1)
      rw [← hx] at HFN
      obtain ⟨U, hU⟩ : ∃ U, hitI L s (n + 1) = U := ⟨_, rfl⟩
      rw [hU] at HSU hown hul
      obtain ⟨j, hj⟩ : ∃ j, U.length = j := ⟨_, rfl⟩
      have HJ := Lib.hid hj
      rw [hj] at hown hul
      obtain ⟨av, cv, rfl⟩ := own_is hown
      have HOWN := Lib.hid hown
      obtain ⟨k, hk⟩ : ∃ k, n + 1 = k := ⟨_, rfl⟩
      have hkz : (n : Int) + 1 = (k : Int) := by omega
      rw [hk] at HFN HSU hul
      rw [hkz] at hz1' hz2' ⊢
      have hk0 : (0 : Int) ≤ (k : Int) := by omega
      have HK := Lib.hid hk
      clear hU hj hown hlt hx
      cases h2 : ixOf L (s.take k) with
      | some q =>
        have hq := HQ.out _ _ h2
        rw [h2] at HFN HSU
        have HU := Lib.hid HSU
        have hq0 : (0 : Int) ≤ (q : Int) := by omega
        clear h2 HSU
        go_wp2_with (first
          | (go_at_call 21; (with_reducible refine HFN.out.mono ?_); rintro e w1 ⟨rfl, hb1⟩; unfold ixV; have hb2 := hb.trans (hb1.mono hbs); have HO1 := Lib.hid (own_later HOWN.out hb1); have hbs2 := hb2.size)
          | (at_builtin; refine wpList_append_own _ rfl _ _ _ rfl w.heap.size 41 i0 _ 2 16 Try.underlying37 ‹_› hz0 hz1 hz2 rfl (by decide) _ j (hcs U) rfl (HO1.out.alloc _) ⟨_, 0, none⟩ 1 1 [.int .i64 (q : Int), .int .i64 (k : Int)] rfl rfl (news_two (heap_alloc_new w1 _)) ?c2 ?c3 ?c4 ?c5 ?_))
        case c2 => simp [Value.oneCell']
        case c3 => unfold maxLen; omega
        case c4 => omega
        case c5 => simp; omega
        intro v' w5 hown5 hg5 _
        have hb5 := below_own (hb2.alloc hb2.size _) (HO1.out.alloc _) (Nat.le_refl _) (by simp; omega) hg5
        have HO5 : Hid (w5.ownsRow w.heap.size 41 2 v' (hitI L s (k + 1)).length (hcs (hitI L s (k + 1)))) := Lib.hid (by rw [HU.out, hcs_append, List.length_append, HJ.out]; exact hown5)
        clear hown5 hg5
        go_wp2
        go_roundw
        case rel => exact ⟨k, by omega, by go_num, HO5.out, hb5⟩
        case measure => simp [intOf]; omega
      | none =>
        rw [h2] at HFN HSU
        have HU := Lib.hid HSU
        clear h2 HSU
        go_wp2_with (go_at_call 21; (with_reducible refine HFN.out.mono ?_); rintro e w1 ⟨rfl, hb1⟩; unfold ixV; have hb2 := hb.trans (hb1.mono hbs); have HO1 := Lib.hid (own_later HOWN.out hb1))
        go_roundw
        case rel => exact ⟨k, by omega, by go_num, by rw [HU.out, List.append_nil, HJ.out]; exact HO1.out, hb2⟩
        case measure => simp [intOf]; omega
    · obtain rfl : n = N := by omega
      obtain ⟨av, cv, rfl⟩ := own_is hown
      have HP : Hid (RxP (hits L s) w (.returned (.slice av (hitI L s (n + 1)).length cv)) wr) := Lib.hid (by rw [HH.out (n + 1) (by have := HE.out; omega)] at hown ⊢; exact ⟨_, rfl, hown, hb⟩)
      clear hown
      by_cases h : n < T.size
      · have hz1' : (n : Int) + 1 ≤ (T.size : Int) := by omega
        have hz2' : ¬ (n : Int) + 1 ≤ 256 := by omega
        go_wp2
        go_ret
        exact HP.out
      · have hz1' : ¬ (n : Int) + 1 ≤ (T.size : Int) := by omega
        go_wp2
        go_ret
        exact HP.out
end Go.Proofs.Ytffljcfpofhkgaa.Lo
