/-
  Contract of Decode.
-/
import Derived.Test.YtffljcfpofhkgaaBvL
import Derived.RegionTactic
import Derived.ChangeAlike
set_option linter.unusedVariables false
set_option linter.unusedSimpArgs false
set_option maxRecDepth 100000
namespace Go.Proofs.Ytffljcfpofhkgaa.Bv
open Go Go.RowKit Go.Proofs.Ytffljcfpofhkgaa.Kit

theorem bls_set (l : List Bool) (i : Nat) (b : Bool) : bls (l.set i b) = (bls l).set i (.bool b) := by simp [bls, List.map_set]
theorem VecAt.wide {B0 B1 B0' B1' : Nat} {w : World} {p : Nat} {l : List Bool} (h : VecAt B0 B1 w p l) (h0 : B0' ≤ B0) (h1 : B1 ≤ B1') : VecAt B0' B1' w p l := by
  obtain ⟨h2, h3, v1, v2, h4, h5, h6, h7, h8⟩ := h
  exact ⟨by omega, by omega, v1, v2, h4, own_base h5 h0, own_base h6 h0, fun k hk => Nat.lt_of_lt_of_le (h7 k hk) h1, fun k hk => Nat.lt_of_lt_of_le (h8 k hk) h1⟩
/-- What Decode leaves. -/
def DecPost (o : Option (List Bool)) (w : World) (e : Ending) (w' : World) : Prop :=
  match o with
  | none => e = .returned (.tuple #[.pointer none, .int .i64 5]) ∧ Below w.heap.size w w'
  | some l => NewPost l w e w'

theorem shl_i64 (t : TypeId) (b s m S : Nat) (hb : b < 256) (hs : s ≤ 24) (hm : 2 ^ s = m) (h : m * b = S) : binOp .shl t (.int .i64 (b : Int)) (.int .u64 (s : Int)) = pure (.int .i64 (S : Int)) := by
  have h1 := shift_shl .i64 .u64 (b : Int) (s : Int) (by omega) (by simp [IntKind.bits]; omega)
  rw [Int.toNat_natCast, show ((2 : Int) ^ s) = ((2 ^ s : Nat) : Int) by simp, hm] at h1
  have h2 : m ≤ 16777216 := by rw [← hm]; exact Nat.pow_le_pow_right (by decide) hs
  have h3 : m * b ≤ 16777216 * 256 := Nat.mul_le_mul h2 (by omega)
  have h4 : IntKind.i64.wrap ((b : Int) * (m : Int)) = (S : Int) := by
    rw [show (b : Int) * (m : Int) = ((m * b : Nat) : Int) by rw [Int.natCast_mul, Int.mul_comm], h, IntKind.wrap_i64]
    omega
  rw [h4] at h1
  exact h1
theorem wraps_i64 (n : Int) (h1 : 0 ≤ n) (h2 : n < 2 ^ 63) : IntKind.i64.wrap n = n := by rw [IntKind.wrap_i64]; omega
theorem or_join (t : TypeId) (a b c i m : Nat) (hm : 2 ^ i = m) (hm0 : 0 < m) (ha : a < m) (hb : b % m = 0) (hb2 : b < 9223372036854775808) (ha2 : a < 9223372036854775808) (h : a + b = c) :
    binOp .or t (.int .i64 (a : Int)) (.int .i64 (b : Int)) = pure (.int .i64 (c : Int)) := by
  have e : binOp .or t (.int .i64 (a : Int)) (.int .i64 (b : Int)) = pure (.int .i64 (bits .or .i64 (a : Int) (b : Int))) := by simp [binOp, Op.intBits, bits]
  rw [e]
  have h1 := (bits_nat .i64 63 (by decide) wraps_i64 a b ha2 hb2).2
  have h2 : a ||| b = c := by
    have hq : b = 2 ^ i * (b / m) := by rw [hm]; have := Nat.div_add_mod b m; omega
    rw [Nat.or_comm, hq, ← Nat.two_pow_add_eq_or_of_lt (by rw [hm]; exact ha), ← hq]
    omega
  rw [h1, h2]
theorem shr_u8 (t : TypeId) (W r V : Nat) (hr : r < 8) (h : W / 2 ^ r = V) : binOp .shr t (.int .u8 (W : Int)) (.int .i64 (r : Int)) = pure (.int .u8 (V : Int)) := by
  have h1 := shift_shr .u8 .i64 (W : Int) (r : Int) (by omega) (by simp [IntKind.bits]; omega)
  rw [Int.toNat_natCast, show ((2 : Int) ^ r) = ((2 ^ r : Nat) : Int) by simp, ← Int.natCast_ediv, h] at h1
  exact h1
theorem and_one_u8 (t : TypeId) (V u : Nat) (hV : V < 256) (h : V % 2 = u) : binOp .and t (.int .u8 (V : Int)) (.int .u8 1) = pure (.int .u8 (u : Int)) := by
  have h1 := u8_and_nat V 1 hV (by decide)
  rw [Nat.and_one_is_mod, h] at h1
  have e : binOp .and t (.int .u8 (V : Int)) (.int .u8 1) = pure (.int .u8 (bits .and .u8 (V : Int) ((1 : Nat) : Int))) := by simp [binOp, Op.intBits, bits]
  rw [e, h1]
/-- The first k bits read, the others false. -/
def dk (l : List Bool) (k : Nat) : List Bool := l.take k ++ List.replicate (l.length - k) false
theorem dk_len (l : List Bool) (k : Nat) : (dk l k).length = l.length := by simp [dk]; omega
theorem dk_zero (l : List Bool) : dk l 0 = List.replicate l.length false := by simp [dk]
theorem dk_all (l : List Bool) : dk l l.length = l := by simp [dk]
theorem dk_set (l : List Bool) {k : Nat} (h : k < l.length) : (dk l k).set k (bt l k) = dk l (k + 1) := by
  unfold dk
  rw [List.set_append_right _ _ (by simp; omega)]
  have e : l.take (k + 1) = l.take k ++ [bt l k] := by rw [List.take_add_one, bt_lt h]; rfl
  rw [e, List.append_assoc]
  congr 1
  rw [List.length_take, Nat.min_eq_left (Nat.le_of_lt h), Nat.sub_self, show l.length - k = (l.length - (k + 1)) + 1 by omega, List.replicate_succ]
  rfl
theorem bt_dbits {bs : List UInt8} {i : Nat} (h : i < num4 bs) : bt (dbits bs) i = dbit bs i := by
  unfold bt dbits
  rw [List.getD_eq_getElem?_getD, List.getElem?_map, List.getElem?_range h]; rfl

set_option maxHeartbeats 4000000 in
theorem decode_short (bs : List UInt8) (a : Option Addr) (cap : Nat) (w : World) (h : bs.length < 4) :
    Calls Try.prog 83 #[.slice a bs.length cap] w (DecPost (decL bs) w) := by
  have hd : decL bs = none := by unfold decL; rw [if_pos h]
  rw [hd]
  have hz : (bs.length : Int) < 4 := by omega
  have HP : Hid (DecPost none w (.returned (.tuple #[.pointer none, .int .i64 5])) w) := Lib.hid ⟨rfl, Below.refl _ _⟩
  clear h hd
  go_enter Try.func83, Try.ntmps83
  go_wp2
  go_ret2
  exact HP.out
set_option maxHeartbeats 4000000 in
theorem decode_any (bs : List UInt8) (a : Option Addr) (cap : Nat) (w : World) (hR : Reads w (.slice a bs.length cap) (u8s bs)) (hl : bs.length ≤ 1099511627776) :
    Calls Try.prog 83 #[.slice a bs.length cap] w (DecPost (decL bs) w) := by
  by_cases h4 : bs.length < 4
  · exact decode_short bs a cap w h4
  have hlen := hR.len.2
  unfold maxLen at hlen
  obtain ⟨b, off, ha, hblt, c0⟩ := Reads.cell hR (b8_get (bs := bs) (i := 0) (by omega))
  obtain ⟨b', off', ha', _, c1⟩ := Reads.cell hR (b8_get (bs := bs) (i := 1) (by omega))
  obtain ⟨b'', off'', ha'', _, c2⟩ := Reads.cell hR (b8_get (bs := bs) (i := 2) (by omega))
  obtain ⟨b3, off3, ha3, _, c3⟩ := Reads.cell hR (b8_get (bs := bs) (i := 3) (by omega))
  subst ha
  cases ha'; cases ha''; cases ha3
  have HR := Lib.hid hR
  have hnum : num4 bs = b8 bs 0 + 256 * b8 bs 1 + 65536 * b8 bs 2 + 16777216 * b8 bs 3 := rfl
  have l0 := b8_lt bs 0
  have l1 := b8_lt bs 1
  have l2 := b8_lt bs 2
  have l3 := b8_lt bs 3
  obtain ⟨x0, e0⟩ : ∃ x, b8 bs 0 = x := ⟨_, rfl⟩
  obtain ⟨x1, e1⟩ : ∃ x, b8 bs 1 = x := ⟨_, rfl⟩
  obtain ⟨x2, e2⟩ : ∃ x, b8 bs 2 = x := ⟨_, rfl⟩
  obtain ⟨x3, e3⟩ : ∃ x, b8 bs 3 = x := ⟨_, rfl⟩
  rw [e0] at c0 hnum l0
  rw [e1] at c1 hnum l1
  rw [e2] at c2 hnum l2
  rw [e3] at c3 hnum l3
  obtain ⟨n, hn⟩ : ∃ n, num4 bs = n := ⟨_, rfl⟩
  have HN := Lib.hid hn
  rw [hn] at hnum
  obtain ⟨y1, f1⟩ : ∃ y, 256 * x1 = y := ⟨_, rfl⟩
  obtain ⟨y2, f2⟩ : ∃ y, 65536 * x2 = y := ⟨_, rfl⟩
  obtain ⟨y3, f3⟩ : ∃ y, 16777216 * x3 = y := ⟨_, rfl⟩
  obtain ⟨z1, g1⟩ : ∃ z, x0 + y1 = z := ⟨_, rfl⟩
  obtain ⟨z2, g2⟩ : ∃ z, z1 + y2 = z := ⟨_, rfl⟩
  have g3 : z2 + y3 = n := by omega
  have s1 := shl_i64 3 x1 8 256 y1 l1 (by decide) rfl f1
  have s2 := shl_i64 3 x2 16 65536 y2 l2 (by decide) rfl f2
  have s3 := shl_i64 3 x3 24 16777216 y3 l3 (by decide) rfl f3
  have o1 := or_join 3 x0 y1 z1 8 256 rfl (by decide) l0 (by omega) (by omega) (by omega) g1
  have o2 := or_join 3 z1 y2 z2 16 65536 rfl (by decide) (by omega) (by omega) (by omega) (by omega) g2
  have o3 := or_join 3 z2 y3 n 24 16777216 rfl (by decide) (by omega) (by omega) (by omega) (by omega) g3
  simp only [Int.cast_ofNat_Int] at s1 s2 s3
  have k0 : IntKind.i64.wrap (x0 : Int) = (x0 : Int) := by rw [IntKind.wrap_i64]; omega
  have k1 : IntKind.i64.wrap (x1 : Int) = (x1 : Int) := by rw [IntKind.wrap_i64]; omega
  have k2 : IntKind.i64.wrap (x2 : Int) = (x2 : Int) := by rw [IntKind.wrap_i64]; omega
  have k3 : IntKind.i64.wrap (x3 : Int) = (x3 : Int) := by rw [IntKind.wrap_i64]; omega
  clear e0 e1 e2 e3 hn hnum f1 f2 f3 g1 g2 g3 l0 l1 l2 l3
  obtain ⟨L, hL⟩ : ∃ L, bs.length = L := ⟨_, rfl⟩
  have HLL := Lib.hid hL
  rw [hL] at h4 hl hlen HR ⊢
  have h4z : (4 : Int) ≤ (L : Int) := by omega
  have i0 : (0 : Int) < (L : Int) := by omega
  have i1 : (1 : Int) < (L : Int) := by omega
  have i2 : (2 : Int) < (L : Int) := by omega
  have i3 : (3 : Int) < (L : Int) := by omega
  rw [Nat.add_zero] at c0
  obtain ⟨o, ho⟩ : ∃ o, decL bs = o := ⟨_, rfl⟩
  have HO := Lib.hid ho
  rw [ho]
  have hdec : Hid (4 ≤ bs.length ∧ decL bs = if 1048576 < num4 bs ∨ 8 * (bs.length - 4) < num4 bs then none else if code (dbits bs) = bs then some (dbits bs) else none) := Lib.hid ⟨by omega, by unfold decL; rw [if_neg (by omega)]⟩
  have HP : Hid (∀ W, Below w.heap.size w W → o = none → DecPost o w (.returned (.tuple #[.pointer none, .int .i64 5])) W) := Lib.hid (fun W hW h => by rw [h]; exact ⟨rfl, hW⟩)
  have HQ : Hid (∀ W e' l, o = some l → NewPost l w e' W → DecPost o w e' W) := Lib.hid (fun W e' l h h2 => by rw [h]; exact h2)
  have HCELL : Hid (∀ j, j < L → w.cell? ⟨b, off + j, none⟩ = some (.int .u8 (b8 bs j : Nat))) := Lib.hid (fun j hj => by
    obtain ⟨b9, off9, ha9, _, c9⟩ := Reads.cell hR (b8_get (bs := bs) (i := j) (by omega))
    cases ha9
    exact c9)
  have hL4 : 4 ≤ L := by omega
  clear h4 hR hL ho
  obtain ⟨j0, hj, hjz0, hjz1, hjz2⟩ := info_parts info_bool
  have HDL : Hid ((dbits bs).length = n) := Lib.hid (by rw [dbits_len, HN.out])
  by_cases hcap : cap = 4
  · subst hcap
    have hLe : L ≤ 4 := by omega
    by_cases hn1 : 1048576 < n
    · have hnz : (1048576 : Int) < (n : Int) := by omega
      have ho : Hid (o = none) := Lib.hid (by rw [← HO.out, hdec.out.2, HN.out, HLL.out, if_pos (.inl hn1)])
      go_enter Try.func83, Try.ntmps83
      go_wp2
      go_quiet (fail)
      go_wp2
      go_ret2
      exact HP.out _ (below_drewN (Below.refl _ _) _) ho.out
    · have hnz : (n : Int) ≤ 1048576 := by omega
      by_cases hn2 : 8 * (L - 4) < n
      · have hnz2 : 8 * ((L - 4 : Nat) : Int) < (n : Int) := by omega
        have ho : Hid (o = none) := Lib.hid (by rw [← HO.out, hdec.out.2, HN.out, HLL.out, if_pos (.inr hn2)])
        go_enter Try.func83, Try.ntmps83
        go_wp2
        go_quiet (fail)
        go_wp2
        go_ret2
        exact HP.out _ (below_drewN (Below.refl _ _) _) ho.out
      · have hnz2 : (n : Int) ≤ 8 * ((L - 4 : Nat) : Int) := by omega
        have hn3 : n ≤ 1048576 := by omega
        clear hn1
        go_enter Try.func83, Try.ntmps83
        go_wp2
        go_quiet (fail)
        have hW0 : ∃ W0, w.drewN nq = W0 := ⟨_, rfl⟩
        obtain ⟨W0, hW0⟩ := hW0
        have hb0 : Below w.heap.size w W0 := by rw [← hW0]; exact below_drewN (Below.refl _ _) _
        have hs0 : W0.heap.size = w.heap.size := by rw [← hW0]; rfl
        have HB0 := Lib.hid hb0
        have HS0 := Lib.hid hs0
        rw [hW0]
        clear hb0 hs0 hW0 s1 s2 s3 o1 o2 o3 k0 k1 k2 k3 c0 c1 c2 c3
        go_wp2_with (at_make; refine wpList_make_full _ rfl _ _ _ rfl W0.heap.size 4 j0 (.bool false) 1 Try.underlying78 hj hjz0 hjz1 _ _ _ _ n rfl rfl rfl rfl (by rw [hjz2]; omega) (by unfold maxLen; omega) (Nat.le_refl _) ?_; intro w2 hown2 hg2)
        have hown3 : w2.ownsRow W0.heap.size 4 1 (.slice (some ⟨W0.heap.size, 0, none⟩) n n) n (bls (dk (dbits bs) 0)) := by
          have h := hown2
          rw [show (Value.bool false).cells = #[Value.bool false] from rfl, toList_madeCells_one, Nat.mul_one] at h
          rw [dk_zero, HDL.out]
          unfold bls
          rw [List.map_replicate]
          exact h
        have hb3 : Below W0.heap.size W0 w2 := (Below.refl _ W0).grown hg2 (Nat.le_refl _) (fun j hj => by cases hj)
        have hs3 := hb3.size
        obtain ⟨g, hg⟩ : ∃ g, W0.heap.size = g := ⟨_, rfl⟩
        have HG := Lib.hid hg
        rw [hg] at hown3 hb3 ⊢
        clear hown2 hg2 hg hs3
        go_loopw [50] (fun i wr => ∃ k : Nat, k ≤ n ∧ i = .int .i64 k ∧ wr.ownsRow g 4 1 (.slice (some ⟨g, 0, none⟩) n n) n (bls (dk (dbits bs) k)) ∧ Below g W0 wr) (fun i _ => n - (intOf i).toNat)
        case atStart => exact ⟨0, Nat.zero_le _, rfl, hown3, hb3⟩
        case round =>
          clear hown3 hb3
          obtain ⟨k, hk, rfl, hown, hbw⟩ := hrel
          by_cases hlt : k < n
          · exfalso; omega
          · obtain rfl : k = n := by omega
            have hall : dk (dbits bs) k = dbits bs := by have := dk_all (dbits bs); rw [HDL.out] at this; exact this
            rw [hall] at hown
            have hr := own_reads hown
            have hsg : g ≤ wr.heap.size := by rw [← HG.out]; exact hbw.size
            have hbw2 : Below w.heap.size w wr := HB0.out.trans (by have := hbw; rw [← HG.out, HS0.out] at this; exact this)
            have HBW2 := Lib.hid hbw2
            have HNW : Hid (Calls Try.prog 89 #[.slice (some ⟨g, 0, none⟩) k k] wr (NewPost (dbits bs) wr)) := Lib.hid (by
              have h := new_ok (dbits bs) (some ⟨g, 0, none⟩) k wr (by rw [HDL.out]; omega) (by rw [HDL.out]; exact hr)
              rw [HDL.out] at h
              exact h)
            obtain ⟨l, hl⟩ : ∃ l, dbits bs = l := ⟨_, rfl⟩
            rw [hl] at HNW HDL hdec
            have hll : l.length ≤ 1048576 := by rw [HDL.out]; omega
            have HLL2 := Lib.hid hll
            clear hown hr hall hl hbw hll
            by_cases hcode : code l = bs
            · have ho : Hid (o = some l) := Lib.hid (by rw [← HO.out, hdec.out.2, HN.out, HLL.out, if_neg (by omega), if_pos hcode])
              have hd : Hid (decide (code l = bs) = true) := Lib.hid (decide_eq_true hcode)
              clear hcode hdec
              go_wp2_with (first
                | (go_at_call 89; (with_reducible refine HNW.out.mono ?_); rintro e w5 ⟨p, rfl, hv, hb5⟩; have HV := Lib.hid hv; have hs5 := hb5.size; have HB5 := Lib.hid (HBW2.out.trans (hb5.mono HBW2.out.size)); have HE := Lib.hid (encode_any hv (Nat.le_refl _) HLL2.out); clear hv hb5)
                | (go_at_call 51; (with_reducible refine HE.out.mono ?_); rintro e w6 ⟨a6, c6, rfl, ho6, hb6⟩; have HB6 := Lib.hid (HB5.out.trans (hb6.mono HB5.out.size)); have hs6 := hb6.size; have HV6 := Lib.hid (HV.out.below hb6 (Nat.le_refl _)); have HQ6 := Lib.hid (eq_any (code l) bs _ _ w6 (own_reads ho6) (HR.out.later HB6.out)); rw [hd.out] at HQ6; clear ho6 hb6)
                | (go_at_call 58; (with_reducible refine HQ6.out.mono ?_); rintro e w7 ⟨rfl, rfl⟩))
              have HF := Lib.hid (HQ.out w6 (.returned (.tuple #[.pointer (some ⟨p, 0, none⟩), .int .i64 0])) l ho.out ⟨p, rfl, VecAt.wide HV6.out HBW2.out.size hs6, HB6.out⟩)
              go_ret2
              exact HF.out
            · have ho : Hid (o = none) := Lib.hid (by rw [← HO.out, hdec.out.2, HN.out, HLL.out, if_neg (by omega), if_neg hcode])
              have hd : Hid (decide (code l = bs) = false) := Lib.hid (decide_eq_false hcode)
              clear hcode hdec
              go_wp2_with (first
                | (go_at_call 89; (with_reducible refine HNW.out.mono ?_); rintro e w5 ⟨p, rfl, hv, hb5⟩; have HV := Lib.hid hv; have hs5 := hb5.size; have HB5 := Lib.hid (HBW2.out.trans (hb5.mono HBW2.out.size)); have HE := Lib.hid (encode_any hv (Nat.le_refl _) HLL2.out); clear hv hb5)
                | (go_at_call 51; (with_reducible refine HE.out.mono ?_); rintro e w6 ⟨a6, c6, rfl, ho6, hb6⟩; have HB6 := Lib.hid (HB5.out.trans (hb6.mono HB5.out.size)); have HQ6 := Lib.hid (eq_any (code l) bs _ _ w6 (own_reads ho6) (HR.out.later HB6.out)); rw [hd.out] at HQ6; clear ho6 hb6)
                | (go_at_call 58; (with_reducible refine HQ6.out.mono ?_); rintro e w7 ⟨rfl, rfl⟩))
              have HF := Lib.hid (HP.out w6 HB6.out ho.out)
              go_ret2
              exact HF.out
  · have hc5 : 4 < cap := by omega
    clear hcap
    by_cases hn1 : 1048576 < n
    · have hnz : (1048576 : Int) < (n : Int) := by omega
      have ho : Hid (o = none) := Lib.hid (by rw [← HO.out, hdec.out.2, HN.out, HLL.out, if_pos (.inl hn1)])
      go_enter Try.func83, Try.ntmps83
      go_wp2
      go_quiet (fail)
      go_wp2
      go_ret2
      exact HP.out _ (below_drewN (Below.refl _ _) _) ho.out
    · have hnz : (n : Int) ≤ 1048576 := by omega
      by_cases hn2 : 8 * (L - 4) < n
      · have hnz2 : 8 * ((L - 4 : Nat) : Int) < (n : Int) := by omega
        have ho : Hid (o = none) := Lib.hid (by rw [← HO.out, hdec.out.2, HN.out, HLL.out, if_pos (.inr hn2)])
        go_enter Try.func83, Try.ntmps83
        go_wp2
        go_quiet (fail)
        go_wp2
        go_ret2
        exact HP.out _ (below_drewN (Below.refl _ _) _) ho.out
      · have hnz2 : (n : Int) ≤ 8 * ((L - 4 : Nat) : Int) := by omega
        have hn3 : n ≤ 1048576 := by omega
        clear hn1
        go_enter Try.func83, Try.ntmps83
        go_wp2
        go_quiet (fail)
        have hW0 : ∃ W0, w.drewN nq = W0 := ⟨_, rfl⟩
        obtain ⟨W0, hW0⟩ := hW0
        have hb0 : Below w.heap.size w W0 := by rw [← hW0]; exact below_drewN (Below.refl _ _) _
        have hs0 : W0.heap.size = w.heap.size := by rw [← hW0]; rfl
        have HB0 := Lib.hid hb0
        have HS0 := Lib.hid hs0
        rw [hW0]
        clear hb0 hs0 hW0 s1 s2 s3 o1 o2 o3 k0 k1 k2 k3 c0 c1 c2 c3
        go_wp2_with (at_make; refine wpList_make_full _ rfl _ _ _ rfl W0.heap.size 4 j0 (.bool false) 1 Try.underlying78 hj hjz0 hjz1 _ _ _ _ n rfl rfl rfl rfl (by rw [hjz2]; omega) (by unfold maxLen; omega) (Nat.le_refl _) ?_; intro w2 hown2 hg2)
        have hown3 : w2.ownsRow W0.heap.size 4 1 (.slice (some ⟨W0.heap.size, 0, none⟩) n n) n (bls (dk (dbits bs) 0)) := by
          have h := hown2
          rw [show (Value.bool false).cells = #[Value.bool false] from rfl, toList_madeCells_one, Nat.mul_one] at h
          rw [dk_zero, HDL.out]
          unfold bls
          rw [List.map_replicate]
          exact h
        have hb3 : Below W0.heap.size W0 w2 := (Below.refl _ W0).grown hg2 (Nat.le_refl _) (fun j hj => by cases hj)
        have hs3 := hb3.size
        obtain ⟨g, hg⟩ : ∃ g, W0.heap.size = g := ⟨_, rfl⟩
        have HG := Lib.hid hg
        rw [hg] at hown3 hb3 ⊢
        clear hown2 hg2 hg hs3
        go_loopw [50] (fun i wr => ∃ k : Nat, k ≤ n ∧ i = .int .i64 k ∧ wr.ownsRow g 4 1 (.slice (some ⟨g, 0, none⟩) n n) n (bls (dk (dbits bs) k)) ∧ Below g W0 wr) (fun i _ => n - (intOf i).toNat)
        case atStart => exact ⟨0, Nat.zero_le _, rfl, hown3, hb3⟩
        case round =>
          clear hown3 hb3
          obtain ⟨k, hk, rfl, hown, hbw⟩ := hrel
          by_cases hlt : k < n
          · have hkL : 4 + k / 8 < L := by omega
            have hbg : b < g := by rw [← HG.out, HS0.out]; exact hblt
            have hc0 := HCELL.out (4 + k / 8) hkL
            have hc1 : wr.cell? ⟨b, off + 4 + k / 8, none⟩ = some (.int .u8 (b8 bs (4 + k / 8) : Nat)) := by
              rw [hbw.cell (p := ⟨b, off + 4 + k / 8, none⟩) hbg, HB0.out.cell (p := ⟨b, off + 4 + k / 8, none⟩) hblt, Nat.add_assoc]
              exact hc0
            have hdb : dbit bs k = decide (b8 bs (4 + k / 8) / 2 ^ (k % 8) % 2 = 1) := rfl
            have hb8 := b8_lt bs (4 + k / 8)
            obtain ⟨g', e1, _, _, hcs, hfr⟩ := own_cells hown (by omega)
            cases e1
            have hf2 := hfr k
            have hset := own_set hown hlt (.bool (dbit bs k))
            rw [← bls_set, ← bt_dbits (by rw [HN.out]; exact hlt), dk_set _ (by rw [HDL.out]; exact hlt)] at hset
            rw [bt_dbits (by rw [HN.out]; exact hlt)] at hset
            have hold : ∃ z, wr.cell? ⟨g, k, none⟩ = some z := ⟨_, hcs k _ (List.getElem?_eq_getElem (by rw [bls_len, dk_len, HDL.out]; exact hlt))⟩
            obtain ⟨z, hz⟩ := hold
            obtain ⟨X, hX⟩ : ∃ X, b8 bs (4 + k / 8) = X := ⟨_, rfl⟩
            rw [hX] at hc1 hdb hb8
            obtain ⟨q, hqq⟩ : ∃ q, k / 8 = q := ⟨_, rfl⟩
            obtain ⟨r, hrr⟩ : ∃ r, k % 8 = r := ⟨_, rfl⟩
            rw [hqq] at hc1 hkL
            rw [hrr] at hdb
            have hquo := quo_nat 3 k 8 q (by omega) (by decide) hqq
            have hrem := rem_nat 3 k 8 r (by decide) hrr
            obtain ⟨V, hV⟩ : ∃ V, X / 2 ^ r = V := ⟨_, rfl⟩
            have hVl : V < 256 := by rw [← hV]; exact Nat.lt_of_le_of_lt (Nat.div_le_self _ _) hb8
            have hshr := shr_u8 5 X r V (by omega) hV
            rw [hV] at hdb
            have hqi : (q : Int) < ((L - 4 : Nat) : Int) := by omega
            have hqi0 : (0 : Int) ≤ q := by omega
            have hki : (k : Int) < (n : Int) := by omega
            have HBW := Lib.hid (hbw.setCell (p := ⟨g, k, none⟩) (Nat.le_refl g) (.bool (dbit bs k)))
            obtain ⟨u, hu⟩ : ∃ u, V % 2 = u := ⟨_, rfl⟩
            rw [hu] at hdb
            have hand := and_one_u8 5 V u hVl hu
            have hu2 : u = 0 ∨ u = 1 := by omega
            clear hqq hrr hV hc0 hX hcs hfr hown hVl hb8 hu
            simp only [Int.cast_ofNat_Int] at hquo hrem
            rcases hu2 with rfl | rfl
            · rw [show dbit bs k = false by rw [hdb]; rfl] at hset HBW
              have HSET := Lib.hid hset
              simp only [Int.cast_ofNat_Int] at hand
              clear hset hdb
              go_wp2
              go_roundw
              case rel => exact ⟨k + 1, by omega, by go_num, HSET.out, HBW.out⟩
              case measure => simp [intOf]; omega
            · rw [show dbit bs k = true by rw [hdb]; rfl] at hset HBW
              have HSET := Lib.hid hset
              simp only [Int.cast_ofNat_Int] at hand
              clear hset hdb
              go_wp2
              go_roundw
              case rel => exact ⟨k + 1, by omega, by go_num, HSET.out, HBW.out⟩
              case measure => simp [intOf]; omega
          · obtain rfl : k = n := by omega
            have hall : dk (dbits bs) k = dbits bs := by have := dk_all (dbits bs); rw [HDL.out] at this; exact this
            rw [hall] at hown
            have hr := own_reads hown
            have hsg : g ≤ wr.heap.size := by rw [← HG.out]; exact hbw.size
            have hbw2 : Below w.heap.size w wr := HB0.out.trans (by have := hbw; rw [← HG.out, HS0.out] at this; exact this)
            have HBW2 := Lib.hid hbw2
            have HNW : Hid (Calls Try.prog 89 #[.slice (some ⟨g, 0, none⟩) k k] wr (NewPost (dbits bs) wr)) := Lib.hid (by
              have h := new_ok (dbits bs) (some ⟨g, 0, none⟩) k wr (by rw [HDL.out]; omega) (by rw [HDL.out]; exact hr)
              rw [HDL.out] at h
              exact h)
            obtain ⟨l, hl⟩ : ∃ l, dbits bs = l := ⟨_, rfl⟩
            rw [hl] at HNW HDL hdec
            have hll : l.length ≤ 1048576 := by rw [HDL.out]; omega
            have HLL2 := Lib.hid hll
            clear hown hr hall hl hbw hll
            by_cases hcode : code l = bs
            · have ho : Hid (o = some l) := Lib.hid (by rw [← HO.out, hdec.out.2, HN.out, HLL.out, if_neg (by omega), if_pos hcode])
              have hd : Hid (decide (code l = bs) = true) := Lib.hid (decide_eq_true hcode)
              clear hcode hdec
              go_wp2_with (first
                | (go_at_call 89; (with_reducible refine HNW.out.mono ?_); rintro e w5 ⟨p, rfl, hv, hb5⟩; have HV := Lib.hid hv; have hs5 := hb5.size; have HB5 := Lib.hid (HBW2.out.trans (hb5.mono HBW2.out.size)); have HE := Lib.hid (encode_any hv (Nat.le_refl _) HLL2.out); clear hv hb5)
                | (go_at_call 51; (with_reducible refine HE.out.mono ?_); rintro e w6 ⟨a6, c6, rfl, ho6, hb6⟩; have HB6 := Lib.hid (HB5.out.trans (hb6.mono HB5.out.size)); have hs6 := hb6.size; have HV6 := Lib.hid (HV.out.below hb6 (Nat.le_refl _)); have HQ6 := Lib.hid (eq_any (code l) bs _ _ w6 (own_reads ho6) (HR.out.later HB6.out)); rw [hd.out] at HQ6; clear ho6 hb6)
                | (go_at_call 58; (with_reducible refine HQ6.out.mono ?_); rintro e w7 ⟨rfl, rfl⟩))
              have HF := Lib.hid (HQ.out w6 (.returned (.tuple #[.pointer (some ⟨p, 0, none⟩), .int .i64 0])) l ho.out ⟨p, rfl, VecAt.wide HV6.out HBW2.out.size hs6, HB6.out⟩)
              go_ret2
              exact HF.out
            · have ho : Hid (o = none) := Lib.hid (by rw [← HO.out, hdec.out.2, HN.out, HLL.out, if_neg (by omega), if_neg hcode])
              have hd : Hid (decide (code l = bs) = false) := Lib.hid (decide_eq_false hcode)
              clear hcode hdec
              go_wp2_with (first
                | (go_at_call 89; (with_reducible refine HNW.out.mono ?_); rintro e w5 ⟨p, rfl, hv, hb5⟩; have HV := Lib.hid hv; have hs5 := hb5.size; have HB5 := Lib.hid (HBW2.out.trans (hb5.mono HBW2.out.size)); have HE := Lib.hid (encode_any hv (Nat.le_refl _) HLL2.out); clear hv hb5)
                | (go_at_call 51; (with_reducible refine HE.out.mono ?_); rintro e w6 ⟨a6, c6, rfl, ho6, hb6⟩; have HB6 := Lib.hid (HB5.out.trans (hb6.mono HB5.out.size)); have HQ6 := Lib.hid (eq_any (code l) bs _ _ w6 (own_reads ho6) (HR.out.later HB6.out)); rw [hd.out] at HQ6; clear ho6 hb6)
                | (go_at_call 58; (with_reducible refine HQ6.out.mono ?_); rintro e w7 ⟨rfl, rfl⟩))
              have HF := Lib.hid (HP.out w6 HB6.out ho.out)
              go_ret2
              exact HF.out
end Go.Proofs.Ytffljcfpofhkgaa.Bv
