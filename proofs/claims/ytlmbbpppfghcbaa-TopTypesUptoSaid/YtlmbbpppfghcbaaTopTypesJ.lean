/-
  The keys that Type returns write the text into an empty buffer, and Back takes it away.
-/
import Derived.Test.YtlmbbpppfghcbaaM16
import Derived.Test.YtlmbbpppfghcbaaM17
import Derived.OpenShut
import Derived.ShutString
import Derived.ChangeOld
import Derived.HandedShaped
import Derived.LaidMore
import Derived.Lay
import Derived.SizedLaws
import Derived.Deep.DeepHandedRow
import Derived.Test.YtlmbbpppfghcbaaM15
import Derived.Test.YtlmbbpppfghcbaaM18
set_option linter.unusedVariables false
set_option linter.unusedSimpArgs false
set_option maxRecDepth 100000
namespace Go.Proofs.Ytlmbbpppfghcbaa.topTypes
open Go Go.RowKit Go.ChangeShapes Go.WideShapes Go.ChangeAt Go.Proofs.Ytlmbbpppfghcbaa Go.Proofs.Ytlmbbpppfghcbaa.Kit Go.Proofs.Ytlmbbpppfghcbaa.Utf Go.Proofs.Ytlmbbpppfghcbaa.Rom Go.Proofs.Ytlmbbpppfghcbaa.Aut Go.Proofs.Ytlmbbpppfghcbaa.Cmp
open Go.ChangeMaps (open_string shut_string)
theorem def_500 : defL.length ≤ 500 := (ok_of_check def_check).1
theorem drop_bt (ks : ByteArray) (n : Nat) (hnl : n < ks.size) : (bs ks).drop n = bt8 ks n :: (bs ks).drop (n + 1) ∧ (bs ks).take (n + 1) = (bs ks).take n ++ [bt8 ks n] := by
  constructor
  · unfold bt8
    rw [List.drop_eq_getElem_cons (by rw [bs_len]; exact hnl), List.getD_eq_getElem?_getD, List.getElem?_eq_getElem (by rw [bs_len]; exact hnl)]; rfl
  · unfold bt8
    rw [List.take_add_one, List.getD_eq_getElem?_getD, List.getElem?_eq_getElem (by rw [bs_len]; exact hnl)]; rfl

theorem back_full {b : Bf} {n : Nat} (hn : 0 < n) (hF : Full b n) (hs : Sh b) (a : Option Addr) (k2 : Nat) (W : World) (hI : ItR W (.slice a n k2) b.is) :
    Calls Try.prog 24 #[.agg #[.slice a n k2, .int .i64 n, .string { data := #[] }]] W fun e w' => ∃ a' k', e = .returned (.agg #[.slice a' (n - 1) k', .int .i64 ((n - 1 : Nat) : Int), .string { data := #[] }]) ∧ w'.ownsRow W.heap.size 65 2 (.slice a' (n - 1) k') (n - 1) (ic (bacB b).is) ∧ Below W.heap.size W w' := by
  have emp : ∀ p : ByteArray, p.size = 0 → p = { data := #[] } := fun p h => by
    apply ba_ext
    exact Array.toList_eq_nil_iff.2 (Array.size_eq_zero_iff.1 h)
  obtain ⟨m, rfl⟩ : ∃ m, n = m + 1 := ⟨n - 1, by omega⟩
  have hB := hF.back
  obtain ⟨h1, h2, h3, h4⟩ := hF
  obtain ⟨g1, g2, g3, g4⟩ := hB
  have h := back_buf b (.agg #[.slice a (m + 1) k2, .int .i64 b.c, .string b.p]) W ⟨_, rfl, hI⟩ hs
  rw [h3, emp _ h2] at h
  refine h.mono ?_
  rintro e w' ⟨a', m', k', rfl, ho, hb⟩
  have hm := (items_of_own ho).1.len.1
  rw [g4] at hm ho
  subst hm
  rw [g3, emp _ g2]
  exact ⟨a', k', rfl, ho, hb⟩

set_option maxHeartbeats 8000000 in
theorem walk (s : ByteArray) (w : World) (w0 : s.size ≤ maxLen) (u0 : s.size ≤ 1048576) (hm : MaxL w) (hG : 0 < w.heap.size) :
    Calls Try.prog 8 #[.string s] w fun e w' => e = .returned (.bool true) ∧ Below w.heap.size w w' := by
  have HCN := Lib.hid (rcount_any s w (by omega))
  obtain ⟨C, hC⟩ : ∃ C : Int, count (bs s) = C := ⟨_, rfl⟩
  rw [hC] at HCN
  by_cases hc1 : C < 0
  · clear w0 u0 hm hG hC
    go_enter Try.func8, Try.ntmps8
    go_wp2_with (go_at_call 29; (with_reducible refine HCN.out.mono ?_); rintro e w1 ⟨rfl, hb1⟩)
    go_ret
    exact ⟨rfl, hb1⟩
  by_cases hc2 : 30 < C
  · clear w0 u0 hm hG hC
    go_enter Try.func8, Try.ntmps8
    go_wp2_with (go_at_call 29; (with_reducible refine HCN.out.mono ?_); rintro e w1 ⟨rfl, hb1⟩)
    go_ret
    exact ⟨rfl, hb1⟩
  have HDF := Lib.hid def_any
  have HNW := Lib.hid new_def
  have HTY := Lib.hid (fun (B a : Nat) (W : World) (h1 : AutoAt B W a defL) (h2 : B ≤ W.heap.size) (h3 : Below w.heap.size w W) => type_any def_okL def_500 B a s W h1 h2 (hm.later h3 hG) (Nat.lt_of_lt_of_le hG h3.size) w0)
  have HIN := Lib.hid (fun (Q q0 : Nat) (b : Bf) (k : UInt8) (v : Value) (W : World) (h1 : AutoAt Q W q0 defL) (hQ : Q ≤ W.heap.size) (h2 : BfR W v b) (h3 : Sh b) => insertkey_any def_okL Q q0 b k v W h1 hQ h2 h3)
  have HKS := Lib.hid (fun (b : Bf) (k : UInt8) (h : Sh b) => keyB_sh def_okL h k)
  clear w0 hm hG
  go_enter Try.func8, Try.ntmps8
  go_wp2_with (first
    | (go_at_call 29; (with_reducible refine HCN.out.mono ?_); rintro e w1 ⟨rfl, hB1⟩)
    | (go_at_call 27; (with_reducible refine (HDF.out _).mono ?_); rintro e w2 ⟨v, rfl, hR2, hb⟩; have hB2 := hB1.trans (hb.mono hB1.size); clear hb)
    | (go_at_call 18; (with_reducible refine (HNW.out _ _ hR2).mono ?_); rintro e w3 ⟨q, rfl, hA3, hb⟩; have hB3 := hB2.trans (hb.mono hB2.size); have HA3 := Lib.hid hA3; clear hb hA3 hR2)
    | (go_at_call 30
       (with_reducible refine (HTY.out _ _ _ HA3.out (Nat.le_refl _) hB3).mono ?_)
       rintro e w4 ⟨k, ok, rfl, hT, hkl, hb⟩
       obtain ⟨K, rfl⟩ : ∃ K : ByteArray, k = bs K := ⟨ba k, (bs_ba k).symm⟩
       rw [ba_bs]
       have hB4 := hB3.trans (hb.mono hB3.size)
       have HA4 := Lib.hid (HA3.out.later hb (Nat.le_refl _))
       have hs4 := hb.size
       have HKL := Lib.hid hkl
       have HTT : Hid (ok = true → Types defL (bs s) (bs K)) := Lib.hid fun h => by
         rcases hT with ⟨_, _, h2⟩ | ⟨_, ⟨_, h1, _⟩ | ⟨h2, _⟩⟩
         · rw [h] at h2; cases h2
         · exact h1
         · rw [h] at h2; cases h2
       clear hb hT hkl))
  · go_ret
    exact ⟨rfl, hB4⟩
  obtain rfl : ok = true := by
    have h : (!ok) = false := by assumption
    simpa using h
  simp only [Bool.not_true]
  have hty := HTT.out rfl
  have hKsz : K.size ≤ 1000000 := by have := HKL.out; rw [bs_len] at this; exact this
  have HNX := Lib.hid (fun (n : Nat) (b : Bf) (hn : n < K.size) (h : Typd defL ((bs K).take n) b) => (show (keyB defL b (bt8 K n)).2 = 0 ∧ Typd defL ((bs K).take (n + 1)) (keyB defL b (bt8 K n)).1 from by
    obtain ⟨d1, d2⟩ := drop_bt K n hn
    have e : (bs K).take n ++ bt8 K n :: (bs K).drop (n + 1) = bs K := by rw [← d1, List.take_append_drop]
    have h0 : (keyB defL b (bt8 K n)).2 = 0 := next_ok (r := (bs K).drop (n + 1)) (s := bs s) def_okL h (by rw [e]; exact hty.1) (by rw [e]; exact hty.2) (by omega)
    exact ⟨h0, by rw [d2]; exact h.step def_okL h0⟩))
  have HEND := Lib.hid (fun (b : Bf) (h : Typd defL (bs K) b) => typed_end h hty.2)
  have HTX := Lib.hid (fun (b : Bf) (hs : Sh b) (v : Value) (W : World) (h : ItR W v b.is) => text_buf b (.agg #[v, .int .i64 b.c, .string b.p]) W ⟨_, rfl, h⟩ hs)
  have HBK := Lib.hid (fun (b : Bf) (hs : Sh b) (v : Value) (W : World) (h : ItR W v b.is) => back_buf b (.agg #[v, .int .i64 b.c, .string b.p]) W ⟨_, rfl, h⟩ hs)
  clear hty HDF HNW HTY HTT u0
  go_loopw [9] (fun i wr => ∃ (n : Nat) (a : Option Addr) (m k2 : Nat) (b : Bf), i = .int .i64 n ∧ n ≤ K.size ∧ wr.heap[w4.heap.size]? = some (Obj.cells #[.slice a m k2, .int .i64 b.c, .string b.p] 24) ∧ wr.ownsRow (w4.heap.size + 1) 65 2 (.slice a m k2) b.is.length (ic b.is) ∧ Below w4.heap.size w4 wr ∧ w4.heap.size + 1 ≤ wr.heap.size ∧ Hid (Sh b) ∧ Hid (Typd defL ((bs K).take n) b)) (fun i _ => K.size - (intOf i).toNat)
  case atStart => exact ⟨0, none, 0, 0, noB, rfl, Nat.zero_le _, heap_alloc_new w4 _, World.ownsRow_nil _ _ _ _, (Below.refl _ _).alloc (Nat.le_refl _) _, by simp, Lib.hid noB_sh, Lib.hid (by rw [List.take_zero]; exact Typd.nil)⟩
  case round =>
    obtain ⟨n, a, m, k2, b, rfl, hn, hbox, hown, hbw, hws, hsb, hty⟩ := hrel
    obtain ⟨b0, b1, b2, bf⟩ := box_facts hbox
    by_cases hnl : n < K.size
    · have hrun := run_byte K n hnl
      rw [bz_bt8] at hrun
      have HN2 := Lib.hid (HNX.out n b hnl hty.out)
      have hbt0 : (0 : Int) ≤ ((bt8 K n).toNat : Int) := by omega
      generalize bt8 K n = key at hrun HN2 hbt0
      have HI := Lib.hid (fun (W : World) (h : Below wr.heap.size wr W) => HIN.out _ q b key (.agg #[.slice a m k2, .int .i64 b.c, .string b.p]) W (HA4.out.later (hbw.trans (h.mono (by omega))) hs4) (by have := h.size; omega) ⟨_, rfl, (items_of_own (own_later hown h)).1⟩ hsb.out)
      have HSR := Lib.hid (HKS.out b key hsb.out)
      generalize keyB defL b key = R at HI HSR HN2
      have hR0 := HN2.out.1
      obtain ⟨Rb, Re⟩ := R
      simp only at hR0
      subst hR0
      have HTN := Lib.hid HN2.out.2
      clear HN2
      have b0' : (wr.alloc zeroBuf).cell? ⟨w4.heap.size, 0, none⟩ = some (.slice a m k2) := by rw [World.cell?_alloc_past _ _ _ (by omega)]; exact b0
      have b1' : (wr.alloc zeroBuf).cell? ⟨w4.heap.size, 1, none⟩ = some (.int .i64 b.c) := by rw [World.cell?_alloc_past _ _ _ (by omega)]; exact b1
      have b2' : (wr.alloc zeroBuf).cell? ⟨w4.heap.size, 2, none⟩ = some (.string b.p) := by rw [World.cell?_alloc_past _ _ _ (by omega)]; exact b2
      have HSZ := Lib.hid (show wr.heap.size ≤ (wr.alloc zeroBuf).drew.heap.size ∧ wr.heap.size < (wr.alloc zeroBuf).drew.heap.size from ⟨by simp, by simp⟩)
      go_upto_region 5 with fail
      go_cut [10, 11] (fun s8 s9 wx => ∃ N a2 m2 k3, s8 = .pointer (some ⟨N, 0, none⟩) ∧ s9 = .int .i64 0 ∧ wx.heap[N]? = some (Obj.cells #[.slice a2 m2 k3, .int .i64 Rb.c, .string Rb.p] 24) ∧ wx.ownsRow wr.heap.size 65 2 (.slice a2 m2 k3) Rb.is.length (ic Rb.is) ∧ Below wr.heap.size wr wx ∧ wr.heap.size ≤ N)
      case first =>
        go_region_law (first
          | (go_simp; go_at_call 21; (with_reducible refine (HI.out (wr.alloc zeroBuf).drew (((Below.refl _ _).alloc (Nat.le_refl _) _).drew)).mono ?_); rintro e w5 ⟨a2, m2, k3, rfl, ho5, hb5⟩; have hbw5 := (((Below.refl _ _).alloc (Nat.le_refl _) _).drew).trans (hb5.mono (HSZ.out.1)); have ho6 := own_base ho5 HSZ.out.1; have hz5 := (hb5.block wr.heap.size HSZ.out.2).trans (heap_alloc_new wr zeroBuf); obtain ⟨z0, z1, z2, zf⟩ := box_facts hz5)
          | (go_simp; go_at_call 21; (with_reducible refine (HI.out wr.drew ((Below.refl _ _).drew)).mono ?_); rintro e w5 ⟨a2, m2, k3, rfl, ho5, hb5⟩; have hbw5 := ((Below.refl wr.heap.size wr).drew).trans hb5; have ho6 := own_base (base' := wr.heap.size) ho5 (Nat.le_refl _)))
        all_goals go_wp2_with fail
        all_goals go_meet
        all_goals first
          | exact ⟨_, a2, m2, k3, rfl, rfl, heap_alloc_new w5 _, ho6.alloc _, hbw5.alloc hbw5.size _, hbw5.size⟩
          | exact ⟨_, a2, m2, k3, rfl, rfl, box_set3 hz5, own_base (ownsRow_setCell_below (ownsRow_setCell_below (ownsRow_setCell_below ho5 HSZ.out.2 _) HSZ.out.2 _) HSZ.out.2 _) HSZ.out.1, Below.setCell (Below.setCell (Below.setCell hbw5 (Nat.le_refl _) _) (Nat.le_refl _) _) (Nat.le_refl _) _, Nat.le_refl _⟩
      case rest =>
        obtain ⟨N, a2, m2, k3, rfl, rfl, hN, hoN, hbN, hNl⟩ := hcut
        obtain ⟨n0, n1, n2, nf⟩ := box_facts hN
        have hx := (hbN.block w4.heap.size (by omega)).trans hbox
        obtain ⟨y0, y1, y2, yf⟩ := box_facts hx
        have hsc := hbN.size
        have hbw2 : Below w4.heap.size w4 wc := hbw.trans (hbN.mono (by omega))
        clear HI hbox hown b0 b1 b2 bf b0' b1' b2'
        go_wp2
        go_roundw
        case rel =>
          refine ⟨n + 1, a2, m2, k3, Rb, by go_num, by omega, box_set3 hx, ?_, Below.setCell (Below.setCell (Below.setCell hbw2 (Nat.le_refl _) _) (Nat.le_refl _) _) (Nat.le_refl _) _, by simp; omega, HSR, HTN⟩
          exact own_base (ownsRow_setCell_below (ownsRow_setCell_below (ownsRow_setCell_below hoN (by show w4.heap.size < _; omega) _) (by show w4.heap.size < _; omega) _) (by show w4.heap.size < _; omega) _) (by omega)
        case measure => simp [intOf]; omega
    · have hfull : (bs K).take n = bs K := List.take_of_length_le (by rw [bs_len]; omega)
      have hty2 := hty.out
      rw [hfull] at hty2
      obtain ⟨e1, e2, e3, e4⟩ := HEND.out b hty2
      have hvb := hty2.v
      clear HEND HNX hty hty2 HIN HKS
      obtain ⟨is, c, p⟩ := b
      simp only at *
      have hpe : p = { data := #[] } := by
        apply ba_ext
        exact Array.toList_eq_nil_iff.2 (Array.size_eq_zero_iff.1 e3)
      subst hpe
      have HTX2 : Hid (∀ (W : World), ItR W (.slice a m k2) is → Calls Try.prog 11 #[.agg #[.slice a m k2, .int .i64 c, .string { data := #[] }]] W fun e w' => e = .returned (.tuple #[.string s, .string ⟨#[]⟩, .string ⟨#[]⟩]) ∧ Below W.heap.size W w') := Lib.hid fun W h => by
        have := HTX.out ⟨is, c, { data := #[] }⟩ hsb.out (.slice a m k2) W h
        rw [e1, ba_bs] at this
        exact this
      have hIr := (items_of_own hown).1
      have hml := hIr.len.1
      obtain ⟨n0, rfl⟩ : ∃ n0 : Nat, C = (n0 : Int) := ⟨C.toNat, by omega⟩
      have hl0 : is.length = n0 := by have := hC; omega
      have hFu : Full ⟨is, c, { data := #[] }⟩ n0 := ⟨hvb, rfl, by show c = (n0 : Int); rw [e4]; show ((is.length : Nat) : Int) = n0; omega, hl0⟩
      have hc0 : c = (n0 : Int) := by rw [e4]; omega
      subst hc0
      obtain rfl : m = n0 := by omega
      have HFU := Lib.hid hFu
      rw [hl0] at hown
      clear HTX e1 e2 e3 e4 hC hml hl0 hFu
      go_wp2_with (go_at_call 11; (with_reducible refine (HTX2.out _ hIr).mono ?_); rintro e w6 ⟨rfl, hb⟩; have hbox6 := box_later hbox hb (by omega); have hown6 := own_later hown hb; have hbw6 := hbw.trans (hb.mono (by omega)); have hws6 := Nat.le_trans hws hb.size; clear b0 b1 b2 bf hb; obtain ⟨b0, b1, b2, bf⟩ := box_facts hbox6)
      have HBF := Lib.hid (fun (b : Bf) (n : Nat) (hn : 0 < n) (hF : Full b n) (hs : Sh b) (a : Option Addr) (k2 : Nat) (W : World) (hI : ItR W (.slice a n k2) b.is) => back_full hn hF hs a k2 W hI)
      have HBS := Lib.hid (fun (b : Bf) (hs : Sh b) => bac_sh hs)
      have HFB := Lib.hid (fun (b : Bf) (n : Nat) (hn : 0 < n) (hF : Full b n) => (show Full (bacB b) (n - 1) from by
        obtain ⟨m, rfl⟩ : ∃ m, n = m + 1 := ⟨n - 1, by omega⟩
        exact hF.back))
      clear HTX2 HBK hIr hown hbox hbw hws
      go_loopw [15] (fun i wr2 => ∃ (n : Nat) (a : Option Addr) (k2 : Nat) (b : Bf), i = .int .i64 n ∧ n ≤ 64 ∧ wr2.heap[w4.heap.size]? = some (Obj.cells #[.slice a n k2, .int .i64 n, .string { data := #[] }] 24) ∧ wr2.ownsRow (w4.heap.size + 1) 65 2 (.slice a n k2) n (ic b.is) ∧ Below w4.heap.size w4 wr2 ∧ w4.heap.size + 1 ≤ wr2.heap.size ∧ Hid (Sh b) ∧ Hid (Full b n)) (fun i _ => (intOf i).toNat)
      case atStart => exact ⟨_, a, k2, _, rfl, by omega, hbox6, hown6, hbw6, hws6, hsb, HFU⟩
      case round =>
        obtain ⟨n9, a9, k9, b9, rfl, hn9, hx9, ho9, hw9, hz9, hs9, hf9⟩ := hrel
        clear b0 b1 b2 bf
        obtain ⟨b0, b1, b2, bf⟩ := box_facts hx9
        by_cases hp : 0 < n9
        · have hpi : (0 : Int) < (n9 : Int) := by omega
          have hl9 : b9.is.length = n9 := hf9.out.2.2.2
          have hI9 : ItR wr (.slice a9 n9 k9) b9.is := (items_of_own (show wr.ownsRow (w4.heap.size + 1) 65 2 (.slice a9 n9 k9) b9.is.length (ic b9.is) by rw [hl9]; exact ho9)).1
          have HC := Lib.hid (HBF.out b9 n9 hp hf9.out hs9.out a9 k9 wr hI9)
          have HS9 := Lib.hid (HBS.out b9 hs9.out)
          have HF9 := Lib.hid (HFB.out b9 n9 hp hf9.out)
          clear hl9 hI9 HBF HBS HFB hs9 hf9
          go_wp2_with (go_at_call 24; (with_reducible refine HC.out.mono ?_); rintro e w10 ⟨a10, k10, rfl, ho10, hb⟩; have hx10 := box_later hx9 hb (by omega); have hw10 := hw9.trans (hb.mono (by omega)); have hz10 := Nat.le_trans hz9 hb.size; clear b0 b1 b2 bf; obtain ⟨b0, b1, b2, bf⟩ := box_facts hx10)
          go_roundw
          case rel =>
            refine ⟨n9 - 1, a10, k10, bacB b9, by first | go_num | (congr 1; omega), by omega, box_set3 hx10, ?_, Below.setCell (Below.setCell (Below.setCell hw10 (Nat.le_refl _) _) (Nat.le_refl _) _) (Nat.le_refl _) _, by simp; omega, HS9, HF9⟩
            exact own_base (ownsRow_setCell_below (ownsRow_setCell_below (ownsRow_setCell_below ho10 (by show w4.heap.size < _; omega) _) (by show w4.heap.size < _; omega) _) (by show w4.heap.size < _; omega) _) (by omega)
          case measure => simp [intOf]; omega
        · obtain rfl : n9 = 0 := by omega
          go_wp2
          go_ret
          exact ⟨rfl, hB4.trans (hw9.mono hB4.size)⟩
theorem own : ownKnob Try.prog.godebug = none := by kernel_rfl
theorem laidOut : laidOutB Try.prog = true := by kernel_rfl

/-- What the bound gives: a text's length. -/
theorem part_short {H : Type} {s : ByteArray} {l : List (DataW H)} (hk : Rows.uptoSmall H l = true) (hm : DataW.lit (.string s.data.toList) ∈ l) : s.size ≤ 1048576 := by
  obtain ⟨B, hB⟩ : ∃ B : Nat, B = 1048576 := ⟨_, rfl⟩
  have h : Rows.uptoBulkAll l ≤ B := by rw [hB]; exact of_decide_eq_true hk
  rw [← hB]
  clear hB hk
  have e : s.data.toList.length = s.size := by rw [Array.length_toList]; rfl
  induction l with
  | nil => cases hm
  | cons x r ih =>
    simp only [Rows.uptoBulkAll] at h
    rcases List.mem_cons.1 hm with rfl | hr
    · simp only [Rows.uptoBulk] at h; omega
    · exact ih hr (by omega)

theorem part_bulk {H : Type} {d : DataW H} {l : List (DataW H)} (hk : Rows.uptoSmall H l = true) (hm : d ∈ l) : Rows.uptoBulk d ≤ 1048576 := by
  obtain ⟨B, hB⟩ : ∃ B : Nat, B = 1048576 := ⟨_, rfl⟩
  have h : Rows.uptoBulkAll l ≤ B := by rw [hB]; exact of_decide_eq_true hk
  rw [← hB]
  exact Nat.le_trans (bulk_mem hm) h

set_option maxRecDepth 100000 in
theorem contract (H : Type) (enc : TypeId × Value → H) (W : World) (base : Nat) (args : Array Value) (ds gs : List (DataW H)) (before : List MemPlace)
    (hval0 : ∀ (j : Nat) t v, Try.f8.params[j]? = some t → args[j]? = some v → Value.okWide Try.prog W .any base t v)
    (hW : DataW.Whole enc Try.prog Try.f8.params.toList Rows.topTypesSpec.vars false W args.toList ds gs before) (hk : Rows.uptoSmall H (ds ++ gs) = true) (hsh : W.ShapedOpen Try.prog) :
    Calls Try.prog 8 args W fun e W' => ∃ v, e = .returned v ∧ Rows.topTypesSpec.post enc Try.prog Try.f8 false true false false W args v W' := by
  have hval : ∀ (j : Nat) t v, Try.f8.params[j]? = some t → args[j]? = some v → Value.okWide Try.prog W .any base t v := hval0
  have hW' := hW
  obtain ⟨p, q, hA0, hV, rfl, hfz, hnd⟩ := hW
  have hA : DataW.TrodAll enc Try.prog W 0 (fun _ => true) true Try.f8.params.toList args.toList ds p := hA0
  rw [Try.params8] at hA hval
  obtain ⟨v0, vs0, d0, ds0, p0, q0, hargs, rfl, rfl, h0, r0⟩ := trodAll_cons hA
  obtain ⟨rfl, rfl, rfl⟩ := trodAll_nil r0
  obtain rfl : args = #[v0] := by cases args; simp_all
  obtain ⟨rfl, rfl⟩ := trodVars_none hV
  obtain ⟨a0, rfl, rfl, rfl, w0⟩ := open_string Try.underlying9 (hval 0 9 v0 rfl rfl) h0
  clear hA0 hval0
  simp only [List.append_nil] at hk
  have u0 := part_short hk (.head _)
  refine (walk a0 W w0 u0 (maxL_of hsh).1 (maxL_of hsh).2).mono fun e W' ⟨he, bel⟩ => ?_
  subst he
  exact ⟨_, rfl, _, _, _, [], _, [], hW', trodAll_mk1 (shut_bool Try.underlying4 _), (trodAll_cons_mk (shut_string Try.underlying9 w0) trodAll_mk0), rfl, bel.frame _, fun h => by cases h⟩

/-- THAT THERE IS AN INPUT THAT FITS, out of a world that is laid whole. -/
theorem witness_row_shaped {H : Type} {enc : TypeId × Value → H} {C : Checked} {os : Os} {f : FuncId} {fn : Func} {s : OpenSpec} {conds : List PathCond} {apart : Bool} {laid : List (String × DataW Unit)} (modest : Bool) (w0 : World) (args : Array Value) (hos : w0.os = os)
    (hsh : (w0.forCall (fun _ _ => 0) ⟨#[], args, []⟩).Shaped C.prog)
    (hok : Input.okWideB C.prog (w0.forCall (fun _ _ => 0) ⟨#[], args, []⟩) f ⟨#[], args, []⟩ = true)
    (hrow : s.preRow enc C.prog fn conds apart laid (w0.forCall (fun _ _ => 0) ⟨#[], args, []⟩).memory args) :
    ∃ (w : World) (tape : Tape) (i : Input), w.os = os ∧ (w.forCall tape i).Shaped C.prog ∧ i.vars = [] ∧ Input.okWide C.prog (w.forCall tape i) .any w.heap.size f i ∧
      s.preRow enc C.prog fn conds apart laid (w.forCall tape i).memory i.args ∧ ({ modest := modest } : Assume).holds C.prog (lone (Frame.enter C.prog f i.args .normal) [] (w.forCall tape i)) :=
  ⟨w0, fun _ _ => 0, ⟨#[], args, []⟩, hos, hsh, (Input.okWide_of_okWideB (base := 0) hok).1, (Input.okWide_of_okWideB hok).2, hrow, by
    simp only [Assume.holds]
    exact ⟨by simp, by simp, fun _ => Modest.zero, by simp, by simp⟩⟩

set_option maxRecDepth 100000 in
theorem lifted (os : Os) (started : os.Started) (H : Type) (enc : TypeId × Value → H) (F : Stop.Interp) :
    ReturnsInHanded {} Try.checked os 8 .any ((Rows.OpenSpec.upto Rows.topTypesSpec).preRow enc Try.prog Try.f8 Rows.topTypesUptoRow.domain false Rows.topTypesUptoRow.laid) (((Rows.OpenSpec.upto Rows.topTypesSpec).at F).post enc Try.prog Try.f8 false true false false) := by
  refine returnsInHanded_of_row (C := Try.checked) (s := Rows.OpenSpec.upto Rows.topTypesSpec) own started (by kernel_rfl) Try.func8
    (witness_row_shaped (enc := enc) (C := Try.checked) (os := os) false (World.laidAll Try.prog os Rows.topTypesUptoRow.laid) #[.string ByteArray.empty] (World.laidAll_os _ _ _)
      (World.shaped_of_ZipB (by kernel_rfl) (by kernel_rfl)) (by kernel_rfl)
      (OpenSpec.preRow_of_cond 8 (x := ([.lit (.string [])], [], [])) (by kernel_rfl) (by kernel_rfl) (fun k hk => by cases hk; kernel_rfl) (by kernel_rfl)
        (by rw [MakeChecks.laidMetH_plain _ _ _ (by kernel_rfl)]; exact laidMet_laidAll _ (by kernel_rfl) (by kernel_rfl)))) ?_
  intro W base args ds gs before hval hW _ hcond _ hL hsh _
  exact contract H enc W base args ds gs before hval hW (hcond _ rfl) hsh

theorem over : Rows.topTypesUptoRow.holds Try.pinned (Rows.OpenSpec.upto Rows.topTypesSpec) :=
  OpenClaim.holds_of_cond 8 Try.f8 rfl rfl rfl rfl rfl rfl rfl ⟨rfl, rfl, rfl, rfl, rfl⟩ rfl rfl rfl rfl rfl (by kernel_rfl) Try.func8 (by kernel_rfl)
    (of_decide_eq_true (by kernel_rfl)) (by unfold Func.isWrapper; first | (rw [if_pos (by decide +kernel)]; kernel_rfl) | (rw [if_neg (by decide +kernel)]; exact ⟨rfl, rfl⟩))
    (fun os started H enc _ F => by rw [OpenClaim.pre_eq_preRow]; exact lifted os started H enc F)

theorem proved : Rows.TopTypesUptoSaid := over
end Go.Proofs.Ytlmbbpppfghcbaa.topTypes
