/-
  Packed numbers: contract of Decode.
-/
import Derived.Test.YtffljcfpofhkgaaPkJ
set_option linter.unusedVariables false
set_option linter.unusedSimpArgs false
set_option maxRecDepth 100000
namespace Go.Proofs.Ytffljcfpofhkgaa.Pk
open Go Go.RowKit Go.Proofs.Ytffljcfpofhkgaa.Kit Go.Proofs.Ytffljcfpofhkgaa.Bv

/-! ### reading a code, as mathematics -/
/-- What follows the head, as numbers, and as one number. -/
def dN (bs : List UInt8) : List Nat := (bs.drop 5).map UInt8.toNat
def dT (bs : List UInt8) : Nat := dg 8 (dN bs)
theorem dN_lt (bs : List UInt8) : ∀ x ∈ dN bs, x < 2 ^ 8 := by
  intro x hx
  obtain ⟨b, _, rfl⟩ := List.mem_map.1 hx
  exact b.toNat_lt
theorem dN_len (bs : List UInt8) : (dN bs).length = bs.length - 5 := by simp [dN]
theorem dN_get {bs : List UInt8} {k : Nat} (h : k < bs.length - 5) : (dN bs)[k]? = some (b8 bs (5 + k)) := by
  unfold dN b8
  rw [List.getElem?_map, List.getElem?_drop, List.getElem?_eq_getElem (by omega), List.getD_eq_getElem?_getD, List.getElem?_eq_getElem (by omega)]
  rfl
def pnums (bs : List UInt8) : List Nat := gvs (dT bs) (b8 bs 4) (num4 bs)
theorem pnums_len (bs : List UInt8) : (pnums bs).length = num4 bs := gvs_len _ _ _
/-- The list in some bytes. -/
def decP (bs : List UInt8) : Option (List Nat) :=
  if bs.length < 5 then none else if 1048576 < num4 bs ∨ bs.length - 5 ≠ (num4 bs * b8 bs 4 + 7) / 8 then none else if pcode (pnums bs) = bs then some (pnums bs) else none
theorem decP_some {bs : List UInt8} {l : List Nat} (h : decP bs = some l) : pcode l = bs ∧ l.length ≤ 1048576 ∧ U64 l := by
  unfold decP at h
  split at h
  · cases h
  · split at h
    · cases h
    · split at h
      · rename_i h1 h2
        cases h
        exact ⟨h2, by rw [pnums_len]; omega, gvs_lt _ _ _⟩
      · cases h
theorem wds_step1 {S P x q r N : Nat} (h : S < 2 ^ P) (hq : P / 64 = q) (hr : P % 64 = r) (hx : x < 256) (hr56 : r ≤ 56) (hN : q < N) :
    (wds S N).set q (wd S q ||| (x * 2 ^ r % 18446744073709551616)) = wds (S + 2 ^ P * x) N := by
  apply List.ext_getElem?
  intro j
  rw [List.getElem?_set, wds_len]
  by_cases hj : j < N
  · rw [wds_get hj, wds_get hj]
    by_cases h2 : q = j
    · subst h2; rw [if_pos rfl, if_pos (by omega), wd_add_at h hq hr]
    · rw [if_neg h2]
      by_cases h1 : q + 1 = j
      · subst h1
        have h3 : x / 2 ^ (64 - r) = 0 := by
          apply Nat.div_eq_of_lt
          exact Nat.lt_of_lt_of_le hx (Nat.pow_le_pow_right (n := 2) (by decide) (show 8 ≤ 64 - r by omega))
        rw [wd_add_next h hq hr (by omega), h3, Nat.or_zero]
      · rw [wd_add_else h hq hr (by omega) (fun e => h2 e.symm) (fun e => h1 e.symm)]
  · rw [List.getElem?_eq_none (by rw [wds_len]; omega), List.getElem?_eq_none (by rw [wds_len]; omega), if_neg (by omega)]

/-- What Decode leaves. -/
def DecP (o : Option (List Nat)) (w : World) (e : Ending) (w' : World) : Prop :=
  match o with
  | none => e = .returned (.tuple #[.pointer none, .int .i64 5]) ∧ Below w.heap.size w w'
  | some l => ∃ p, e = .returned (.tuple #[.pointer (some ⟨p, 0, none⟩), .int .i64 0]) ∧ PkAt w.heap.size w'.heap.size w' p l ∧ Below w.heap.size w w'

set_option maxHeartbeats 4000000 in
theorem pdec_short (bs : List UInt8) (a : Option Addr) (cap : Nat) (w : World) (h : bs.length < 5) :
    Calls Try.prog 84 #[.slice a bs.length cap] w (DecP (decP bs) w) := by
  have hd : decP bs = none := by unfold decP; rw [if_pos h]
  rw [hd]
  have hz : (bs.length : Int) < 5 := by omega
  have HP : Hid (DecP none w (.returned (.tuple #[.pointer none, .int .i64 5])) w) := Lib.hid ⟨rfl, Below.refl _ _⟩
  clear h hd
  go_enter Try.func84, Try.ntmps84
  go_wp2
  go_ret2
  exact HP.out
set_option maxHeartbeats 8000000 in
theorem pdec_any (bs : List UInt8) (a : Option Addr) (cap : Nat) (w : World) (hR : Reads w (.slice a bs.length cap) (u8s bs)) (hl : bs.length ≤ 1099511627776) :
    Calls Try.prog 84 #[.slice a bs.length cap] w (DecP (decP bs) w) := by
  by_cases h5 : bs.length < 5
  · exact pdec_short bs a cap w h5
  have hlen := hR.len.2
  unfold maxLen at hlen
  obtain ⟨b, off, ha, hblt, c0⟩ := Reads.cell hR (b8_get (bs := bs) (i := 0) (by omega))
  obtain ⟨b', off', ha', _, c1⟩ := Reads.cell hR (b8_get (bs := bs) (i := 1) (by omega))
  obtain ⟨b'', off'', ha'', _, c2⟩ := Reads.cell hR (b8_get (bs := bs) (i := 2) (by omega))
  obtain ⟨b3, off3, ha3, _, c3⟩ := Reads.cell hR (b8_get (bs := bs) (i := 3) (by omega))
  obtain ⟨b4, off4, ha4, _, c4⟩ := Reads.cell hR (b8_get (bs := bs) (i := 4) (by omega))
  subst ha
  cases ha'; cases ha''; cases ha3; cases ha4
  have HR := Lib.hid hR
  have hnum : num4 bs = b8 bs 0 + 256 * b8 bs 1 + 65536 * b8 bs 2 + 16777216 * b8 bs 3 := rfl
  have l0 := b8_lt bs 0
  have l1 := b8_lt bs 1
  have l2 := b8_lt bs 2
  have l3 := b8_lt bs 3
  have l4 := b8_lt bs 4
  obtain ⟨x0, e0⟩ : ∃ x, b8 bs 0 = x := ⟨_, rfl⟩
  obtain ⟨x1, e1⟩ : ∃ x, b8 bs 1 = x := ⟨_, rfl⟩
  obtain ⟨x2, e2⟩ : ∃ x, b8 bs 2 = x := ⟨_, rfl⟩
  obtain ⟨x3, e3⟩ : ∃ x, b8 bs 3 = x := ⟨_, rfl⟩
  obtain ⟨V, e4⟩ : ∃ x, b8 bs 4 = x := ⟨_, rfl⟩
  rw [e0] at c0 hnum l0
  rw [e1] at c1 hnum l1
  rw [e2] at c2 hnum l2
  rw [e3] at c3 hnum l3
  rw [e4] at c4 l4
  obtain ⟨n, hn⟩ : ∃ n, num4 bs = n := ⟨_, rfl⟩
  have HN := Lib.hid hn
  have HV := Lib.hid e4
  rw [hn] at hnum
  obtain ⟨y1, f1⟩ : ∃ y, 256 * x1 = y := ⟨_, rfl⟩
  obtain ⟨y2, f2⟩ : ∃ y, 65536 * x2 = y := ⟨_, rfl⟩
  obtain ⟨y3, f3⟩ : ∃ y, 16777216 * x3 = y := ⟨_, rfl⟩
  obtain ⟨z1, g1⟩ : ∃ z, x0 + y1 = z := ⟨_, rfl⟩
  obtain ⟨z2, g2⟩ : ∃ z, z1 + y2 = z := ⟨_, rfl⟩
  have g3 : z2 + y3 = n := by omega
  have s1 := shl_i64 3 x1 8 256 y1 l1 (by decide) rfl f1
  have s2 := shl_i64 3 x2 16 65536 y2 l2 (by decide) rfl f2
  have s3 := shl_i64 3 x3 24 16777216 y3 l3 (by decide) rfl f3
  have o1 := or_join 3 x0 y1 z1 8 256 rfl (by decide) l0 (by omega) (by omega) (by omega) g1
  have o2 := or_join 3 z1 y2 z2 16 65536 rfl (by decide) (by omega) (by omega) (by omega) (by omega) g2
  have o3 := or_join 3 z2 y3 n 24 16777216 rfl (by decide) (by omega) (by omega) (by omega) (by omega) g3
  simp only [Int.cast_ofNat_Int] at s1 s2 s3
  have k0 : IntKind.i64.wrap (x0 : Int) = (x0 : Int) := by rw [IntKind.wrap_i64]; omega
  have k1 : IntKind.i64.wrap (x1 : Int) = (x1 : Int) := by rw [IntKind.wrap_i64]; omega
  have k2 : IntKind.i64.wrap (x2 : Int) = (x2 : Int) := by rw [IntKind.wrap_i64]; omega
  have k3 : IntKind.i64.wrap (x3 : Int) = (x3 : Int) := by rw [IntKind.wrap_i64]; omega
  have k4 : IntKind.i64.wrap (V : Int) = (V : Int) := by rw [IntKind.wrap_i64]; omega
  have hnb : n < 4294967296 := by omega
  clear e0 e1 e2 e3 e4 hn hnum f1 f2 f3 g1 g2 g3 l0 l1 l2 l3
  obtain ⟨M, hM⟩ : ∃ M, n * V = M := ⟨_, rfl⟩
  obtain ⟨D, hD⟩ : ∃ D, (M + 7) / 8 = D := ⟨_, rfl⟩
  have HD : Hid (∀ W : World, n ≤ 1048576 → Calls Try.prog 77 #[.int .i64 (n : Int), .int .i64 (V : Int)] W fun e w' => e = .returned (.int .i64 (D : Int)) ∧ W = w') := Lib.hid (fun W hn => by
    have hMl : M ≤ 1048576 * 256 := by rw [← hM]; exact Nat.mul_le_mul hn (by omega)
    rw [← hD]
    exact (data_any n V M hM (by omega) W).mono fun e w' h => ⟨h.1, h.2.symm⟩)
  obtain ⟨L, hL⟩ : ∃ L, bs.length = L := ⟨_, rfl⟩
  have HLL := Lib.hid hL
  rw [hL] at h5 hl hlen HR ⊢
  have h5z : (5 : Int) ≤ (L : Int) := by omega
  have h5n : ¬ (L : Int) < 5 := by omega
  have i0 : (0 : Int) < (L : Int) := by omega
  have i1 : (1 : Int) < (L : Int) := by omega
  have i2 : (2 : Int) < (L : Int) := by omega
  have i3 : (3 : Int) < (L : Int) := by omega
  have i4 : (4 : Int) < (L : Int) := by omega
  rw [Nat.add_zero] at c0
  obtain ⟨o, ho⟩ : ∃ o, decP bs = o := ⟨_, rfl⟩
  have HO := Lib.hid ho
  rw [ho]
  have hdec : Hid (decP bs = if 1048576 < n ∨ L - 5 ≠ D then none else if pcode (pnums bs) = bs then some (pnums bs) else none) := Lib.hid (by unfold decP; rw [if_neg (by omega), HN.out, HV.out, hM, hD, hL])
  have HP : Hid (∀ W, Below w.heap.size w W → o = none → DecP o w (.returned (.tuple #[.pointer none, .int .i64 5])) W) := Lib.hid (fun W hW h => by rw [h]; exact ⟨rfl, hW⟩)
  have HQ : Hid (∀ W e' l, o = some l → (∃ p, e' = .returned (.tuple #[.pointer (some ⟨p, 0, none⟩), .int .i64 0]) ∧ PkAt w.heap.size W.heap.size W p l ∧ Below w.heap.size w W) → DecP o w e' W) := Lib.hid (fun W e' l h h2 => by rw [h]; exact h2)
  have HCELL : Hid (∀ j, j < L → w.cell? ⟨b, off + j, none⟩ = some (.int .u8 (b8 bs j : Nat))) := Lib.hid (fun j hj => by
    obtain ⟨b9, off9, ha9, _, c9⟩ := Reads.cell hR (b8_get (bs := bs) (i := j) (by omega))
    cases ha9
    exact c9)
  have HE := Lib.hid (fun W (hn : n ≤ 1048576) => empty_any n V W (by omega) (by omega))
  have HNW : Hid (∀ k, k < D → k / 8 < nws n V) := Lib.hid (fun k hk => by unfold nws; rw [hM]; omega)
  have HM := Lib.hid hM
  have HDD := Lib.hid hD
  have HTL := Lib.hid (dg_take_lt (dN_lt bs))
  have HTK := Lib.hid (fun k x (h : (dN bs)[k]? = some x) => dg_take 8 h)
  have HDN : Hid (∀ k, k < L - 5 → (dN bs)[k]? = some (b8 bs (5 + k))) := Lib.hid (fun k hk => dN_get (by omega))
  have HDL : Hid ((dN bs).length = L - 5) := Lib.hid (by rw [dN_len, hL])
  have HB8 := Lib.hid (b8_lt bs)
  have HPL : Hid ((pnums bs).length = n) := Lib.hid (by rw [pnums_len, HN.out])
  have HPX : Hid (U64 (pnums bs)) := Lib.hid (gvs_lt _ _ _)
  have HPG : Hid (gvs (dT bs) V n = pnums bs) := Lib.hid (by unfold pnums; rw [HV.out, HN.out])
  have hL5 : 5 ≤ L := by omega
  have HL5 := Lib.hid hL5
  have hVl : V < 256 := l4
  obtain ⟨K, hK⟩ : ∃ K, L - 5 = K := ⟨_, rfl⟩
  have hKL : K + 5 = L := by omega
  have HKL := Lib.hid hKL
  rw [hK] at hdec HDN HDL
  have HKz : Hid (((L - 5 : Nat) : Int) = (K : Int)) := Lib.hid (by rw [hK])
  clear h5 hR hL ho hM hD hKL
  by_cases hcap : cap = 5
  · subst hcap
    have hK0 : K = 0 := by omega
    subst hK0
    have hL5e : L = 5 := by omega
    subst hL5e
    by_cases hn1 : 1048576 < n
    · have hnz : (1048576 : Int) < (n : Int) := by omega
      have ho : Hid (o = none) := Lib.hid (by rw [← HO.out, hdec.out, if_pos (.inl hn1)])
      go_enter Try.func84, Try.ntmps84
      go_wp2
      go_quiet (fail)
      go_wp2
      go_quiet (fail)
      go_wp2
      go_ret2
      exact HP.out _ (below_drewN (Below.refl _ _) _) ho.out
    · have hnz : (n : Int) ≤ 1048576 := by omega
      have hn3 : n ≤ 1048576 := by omega
      have HDn := Lib.hid (fun W => HD.out W hn3)
      by_cases hn2 : 0 = D
      · have HEn := Lib.hid (fun W => HE.out W hn3)
        have hMl : Hid (M ≤ 1048576 * 255) := Lib.hid (by rw [← HM.out]; exact Nat.mul_le_mul hn3 (by omega))
        have hKb : 0 ≤ 33423361 := by have := hMl.out; have := HDD.out; omega
        subst hn2
        have hkd : ((0 : Int) != (0 : Int)) = false := by rw [bne_eq_false_iff_eq]
        have HOK : Hid (decP bs = if pcode (pnums bs) = bs then some (pnums bs) else none) := Lib.hid (by rw [hdec.out, if_neg (by omega)])
        go_enter Try.func84, Try.ntmps84
        go_wp2
        go_quiet (fail)
        obtain ⟨m1, hm1⟩ : ∃ m, m = nq := ⟨_, rfl⟩
        subst hm1
        go_wp2
        go_quiet (fail)
        have hb0 : Below w.heap.size w ((w.drewN m1).drewN nq) := below_drewN (below_drewN (Below.refl _ _) _) _
        obtain ⟨W0, hW0⟩ : ∃ W0, (w.drewN m1).drewN nq = W0 := ⟨_, rfl⟩
        rw [hW0] at hb0
        have hs0 : W0.heap.size = w.heap.size := by rw [← hW0]; rfl
        rw [hW0]
        have HB0 := Lib.hid hb0
        have HS0 := Lib.hid hs0
        clear hW0 hb0 hs0 hdec
        go_wp2_with (first
          | (go_at_call 77; (with_reducible refine (HDn.out _).mono ?_); rintro e w1 ⟨rfl, rfl⟩)
          | (go_at_call 95; (with_reducible refine (HEn.out _).mono ?_); rintro e w1 ⟨p, rfl, hI, hb1⟩))
        have hb1' : Below w.heap.size w w1 := HB0.out.trans (hb1.mono (by rw [HS0.out]; exact Nat.le_refl _))
        have hsz1 := hb1.size
        obtain ⟨B1, hB1⟩ : ∃ B1, w1.heap.size = B1 := ⟨_, rfl⟩
        obtain ⟨B0, hB0⟩ : ∃ B0, W0.heap.size = B0 := ⟨_, rfl⟩
        have HB00 : Hid (B0 = w.heap.size) := Lib.hid (by rw [← hB0, HS0.out])
        rw [hB1, hB0] at hI
        rw [hB1, hB0] at hsz1
        have hBB : B1 ≤ w1.heap.size := by omega
        have HT0 : Hid (dg 8 ((dN bs).take 0) = 0) := Lib.hid rfl
        have HTA : Hid (dg 8 ((dN bs).take 0) = dT bs) := Lib.hid (by rw [← HDL.out, List.take_length]; rfl)
        clear hB1 hB0 HEn HDn hb1
        go_loopw [58] (fun i W => ∃ k : Nat, k ≤ 0 ∧ i = .int .i64 (k : Int) ∧ IntsAt B0 B1 W p n V (dg 8 ((dN bs).take k)) ∧ Below w.heap.size w W ∧ B1 ≤ W.heap.size) (fun i _ => 0 - (intOf i).toNat)
        case atStart => exact ⟨0, Nat.zero_le _, rfl, by rw [HT0.out]; exact hI, hb1', hBB⟩
        case round =>
          clear hI hb1' hBB
          obtain ⟨k, hk, rfl, hI, hb, hBB⟩ := hrel
          by_cases hkl : k < 0
          · exfalso; omega
          · obtain rfl : k = 0 := by omega
            rw [HTA.out] at hI
            have hbs := hb.size
            have HNM := Lib.hid (numbers_pk hI hBB (by omega) (by omega))
            rw [HPG.out] at HNM
            have HLN := HPL
            have HNEW := Lib.hid (fun (W : World) (a' : Option Addr) (c' : Nat) (h : Reads W (.slice a' (pnums bs).length c') (u64s (pnums bs))) => pnew_at (pnums bs) a' c' W (by rw [HPL.out]; exact hn3) HPX.out h)
            have HENC := Lib.hid (fun (B0 B1 p : Nat) (W : World) (h : PkAt B0 B1 W p (pnums bs)) (hB : B1 ≤ W.heap.size) => encode_at h hB (by rw [HPL.out]; omega) HPX.out)
            obtain ⟨l, hl'⟩ : ∃ l, pnums bs = l := ⟨_, rfl⟩
            rw [hl'] at HNM HNEW HENC HOK
            have HB := Lib.hid hb
            have HEQ : Hid (∀ (v : Value) (c : Bool) (W : World), decide (pcode l = bs) = c → Reads W v (u8s (pcode l)) → Below w.heap.size w W → Calls Try.prog 58 #[v, .slice (some ⟨b, off, none⟩) 5 5] W fun e w' => e = .returned (.bool c) ∧ W = w') := Lib.hid (fun v c W hc h1 h2 => by rw [← hc]; exact eq_any (pcode l) bs v _ W h1 (HR.out.later h2))
            clear hI hb hBB hl' hkl hk
            by_cases hcode : pcode l = bs
            · have ho : Hid (o = some l) := Lib.hid (by rw [← HO.out, HOK.out, if_pos hcode])
              have hd : Hid (decide (pcode l = bs) = true) := Lib.hid (decide_eq_true hcode)
              clear hcode HOK
              go_wp2_with (first
                | (go_at_call 96; (with_reducible refine HNM.out.mono ?_); rintro e w5 ⟨a5, rfl, hr5, hb5⟩; have HB5 := Lib.hid (HB.out.trans (hb5.mono hbs)); have HN5 := Lib.hid (HNEW.out _ _ _ hr5); clear hr5 hb5)
                | (go_at_call 90; (with_reducible refine HN5.out.mono ?_); rintro e w6 ⟨p6, rfl, hv6, hb6⟩; have HV6 := Lib.hid (IntsAt.wide hv6 HB5.out.size (Nat.le_refl _)); have HB6 := Lib.hid (HB5.out.trans (hb6.mono HB5.out.size)); have HE6 := Lib.hid (HENC.out _ _ _ _ hv6 (Nat.le_refl _)); clear hv6 hb6)
                | (go_at_call 52; (with_reducible refine HE6.out.mono ?_); rintro e w7 ⟨a7, c7, rfl, ho7, hb7⟩; have HB7 := Lib.hid (HB6.out.trans (hb7.mono HB6.out.size)); have HV7 := Lib.hid (IntsAt.wide (IntsAt.below HV6.out hb7 (Nat.le_refl _)) (Nat.le_refl _) hb7.size); have HQ7 := Lib.hid (HEQ.out _ true w7 hd.out (own_reads ho7) HB7.out); clear ho7 hb7)
                | (go_at_call 58; (with_reducible refine HQ7.out.mono ?_); rintro e w8 ⟨rfl, rfl⟩))
              have HF := Lib.hid (HQ.out w7 (.returned (.tuple #[.pointer (some ⟨p6, 0, none⟩), .int .i64 0])) l ho.out ⟨p6, rfl, HV7.out, HB7.out⟩)
              go_ret2
              exact HF.out
            · have ho : Hid (o = none) := Lib.hid (by rw [← HO.out, HOK.out, if_neg hcode])
              have hd : Hid (decide (pcode l = bs) = false) := Lib.hid (decide_eq_false hcode)
              clear hcode HOK
              go_wp2_with (first
                | (go_at_call 96; (with_reducible refine HNM.out.mono ?_); rintro e w5 ⟨a5, rfl, hr5, hb5⟩; have HB5 := Lib.hid (HB.out.trans (hb5.mono hbs)); have HN5 := Lib.hid (HNEW.out _ _ _ hr5); clear hr5 hb5)
                | (go_at_call 90; (with_reducible refine HN5.out.mono ?_); rintro e w6 ⟨p6, rfl, hv6, hb6⟩; have HB6 := Lib.hid (HB5.out.trans (hb6.mono HB5.out.size)); have HE6 := Lib.hid (HENC.out _ _ _ _ hv6 (Nat.le_refl _)); clear hv6 hb6)
                | (go_at_call 52; (with_reducible refine HE6.out.mono ?_); rintro e w7 ⟨a7, c7, rfl, ho7, hb7⟩; have HB7 := Lib.hid (HB6.out.trans (hb7.mono HB6.out.size)); have HQ7 := Lib.hid (HEQ.out _ false w7 hd.out (own_reads ho7) HB7.out); clear ho7 hb7)
                | (go_at_call 58; (with_reducible refine HQ7.out.mono ?_); rintro e w8 ⟨rfl, rfl⟩))
              have HF := Lib.hid (HP.out w7 HB7.out ho.out)
              go_ret2
              exact HF.out
      · have hkd : ((0 : Int) != (D : Int)) = true := by rw [bne_iff_ne]; omega
        have ho : Hid (o = none) := Lib.hid (by rw [← HO.out, hdec.out, if_pos (.inr hn2)])
        go_enter Try.func84, Try.ntmps84
        go_wp2
        go_quiet (fail)
        go_wp2
        go_quiet (fail)
        go_wp2_with (go_at_call 77; (with_reducible refine (HDn.out _).mono ?_); rintro e w1 ⟨rfl, rfl⟩)
        go_ret2
        exact HP.out _ (below_drewN (Below.refl _ _) _) ho.out
  · have hc5 : 5 < cap := by omega
    have hk5 : ((L - 5 : Nat) : Int) = (K : Int) := HKz.out
    clear hcap
    by_cases hn1 : 1048576 < n
    · have hnz : (1048576 : Int) < (n : Int) := by omega
      have ho : Hid (o = none) := Lib.hid (by rw [← HO.out, hdec.out, if_pos (.inl hn1)])
      go_enter Try.func84, Try.ntmps84
      go_wp2
      go_quiet (fail)
      go_wp2
      go_quiet (fail)
      go_wp2
      go_ret2
      exact HP.out _ (below_drewN (Below.refl _ _) _) ho.out
    · have hnz : (n : Int) ≤ 1048576 := by omega
      have hn3 : n ≤ 1048576 := by omega
      have HDn := Lib.hid (fun W => HD.out W hn3)
      by_cases hn2 : K = D
      · have HEn := Lib.hid (fun W => HE.out W hn3)
        have hMl : Hid (M ≤ 1048576 * 255) := Lib.hid (by rw [← HM.out]; exact Nat.mul_le_mul hn3 (by omega))
        have hKb : K ≤ 33423361 := by have := hMl.out; have := HDD.out; omega
        subst hn2
        have hkd : ((K : Int) != (K : Int)) = false := by rw [bne_eq_false_iff_eq]
        have HOK : Hid (decP bs = if pcode (pnums bs) = bs then some (pnums bs) else none) := Lib.hid (by rw [hdec.out, if_neg (by omega)])
        go_enter Try.func84, Try.ntmps84
        go_wp2
        go_quiet (fail)
        obtain ⟨m1, hm1⟩ : ∃ m, m = nq := ⟨_, rfl⟩
        subst hm1
        go_wp2
        go_quiet (fail)
        have hb0 : Below w.heap.size w ((w.drewN m1).drewN nq) := below_drewN (below_drewN (Below.refl _ _) _) _
        obtain ⟨W0, hW0⟩ : ∃ W0, (w.drewN m1).drewN nq = W0 := ⟨_, rfl⟩
        rw [hW0] at hb0
        have hs0 : W0.heap.size = w.heap.size := by rw [← hW0]; rfl
        rw [hW0]
        have HB0 := Lib.hid hb0
        have HS0 := Lib.hid hs0
        clear hW0 hb0 hs0 hdec
        go_wp2_with (first
          | (go_at_call 77; (with_reducible refine (HDn.out _).mono ?_); rintro e w1 ⟨rfl, rfl⟩)
          | (go_at_call 95; (with_reducible refine (HEn.out _).mono ?_); rintro e w1 ⟨p, rfl, hI, hb1⟩))
        have hb1' : Below w.heap.size w w1 := HB0.out.trans (hb1.mono (by rw [HS0.out]; exact Nat.le_refl _))
        have hsz1 := hb1.size
        obtain ⟨B1, hB1⟩ : ∃ B1, w1.heap.size = B1 := ⟨_, rfl⟩
        obtain ⟨B0, hB0⟩ : ∃ B0, W0.heap.size = B0 := ⟨_, rfl⟩
        have HB00 : Hid (B0 = w.heap.size) := Lib.hid (by rw [← hB0, HS0.out])
        rw [hB1, hB0] at hI
        rw [hB1, hB0] at hsz1
        have hBB : B1 ≤ w1.heap.size := by omega
        have HT0 : Hid (dg 8 ((dN bs).take 0) = 0) := Lib.hid rfl
        have HTA : Hid (dg 8 ((dN bs).take K) = dT bs) := Lib.hid (by rw [← HDL.out, List.take_length]; rfl)
        clear hB1 hB0 HEn HDn hb1
        go_loopw [58] (fun i W => ∃ k : Nat, k ≤ K ∧ i = .int .i64 (k : Int) ∧ IntsAt B0 B1 W p n V (dg 8 ((dN bs).take k)) ∧ Below w.heap.size w W ∧ B1 ≤ W.heap.size) (fun i _ => K - (intOf i).toNat)
        case atStart => exact ⟨0, Nat.zero_le _, rfl, by rw [HT0.out]; exact hI, hb1', hBB⟩
        case round =>
          clear hI hb1' hBB
          obtain ⟨k, hk, rfl, hI, hb, hBB⟩ := hrel
          by_cases hkl : k < K
          · have hc0 := HCELL.out (5 + k) (by omega)
            have hcell : wr.cell? ⟨b, off + 5 + k, none⟩ = some (.int .u8 (b8 bs (5 + k) : Nat)) := by rw [hb.cell (p := ⟨b, off + 5 + k, none⟩) hblt, Nat.add_assoc]; exact hc0
            have hSl := HTL.out k (by rw [HDL.out]; omega)
            have hSn := HTK.out k _ (HDN.out k hkl)
            have hxl := HB8.out (5 + k)
            obtain ⟨x, hx⟩ : ∃ x, b8 bs (5 + k) = x := ⟨_, rfl⟩
            rw [hx] at hcell hSn hxl
            obtain ⟨S, hS⟩ : ∃ S, dg 8 ((dN bs).take k) = S := ⟨_, rfl⟩
            rw [hS] at hSl hSn hI
            have hqN := HNW.out k hkl
            obtain ⟨q, hq⟩ : ∃ q, k / 8 = q := ⟨_, rfl⟩
            obtain ⟨r, hr⟩ : ∃ r, k % 8 = r := ⟨_, rfl⟩
            obtain ⟨s, hs⟩ : ∃ s, r * 8 = s := ⟨_, rfl⟩
            rw [hq] at hqN
            obtain ⟨N, hN⟩ : ∃ N, nws n V = N := ⟨_, rfl⟩
            rw [hN] at hqN
            have hstep := wds_step1 (N := N) hSl (q := q) (r := s) (by omega) (by omega) hxl (by omega) hqN
            rw [← hSn] at hstep
            have hquo := quo_nat 3 k 8 q (by omega) (by decide) hq
            have hrem := rem_nat 3 k 8 r (by decide) hr
            have hsz : (r : Int) * 8 = (s : Int) := by omega
            have hrz : (r : Int) < 8 := by omega
            obtain ⟨X1, hX1⟩ : ∃ X, x * 2 ^ s % 18446744073709551616 = X := ⟨_, rfl⟩
            have hshl := shl_min 69 x s X1 (by rw [Nat.min_eq_left (by omega)]; exact hX1)
            have hX1l : X1 < 18446744073709551616 := by rw [← hX1]; exact Nat.mod_lt _ (by decide)
            rw [hX1] at hstep
            obtain ⟨A, hA⟩ : ∃ A, wd S q = A := ⟨_, rfl⟩
            have hAl : A < 18446744073709551616 := by rw [← hA]; exact wd_lt _ _
            rw [hA] at hstep
            obtain ⟨U1, hU1⟩ : ∃ U, A ||| X1 = U := ⟨_, rfl⟩
            rw [hU1] at hstep
            have hor1 := or_nat 69 A X1 U1 hAl hX1l hU1
            have hwx : IntKind.u64.wrap (x : Int) = (x : Int) := by rw [IntKind.wrap_u64]; omega
            have hmx : (x : Int) % 18446744073709551616 = (x : Int) := by omega
            have hkz : (k : Int) < (K : Int) := by omega
            have hqz : (q : Int) < (N : Int) := by omega
            have hqz0 : (0 : Int) ≤ (q : Int) := by omega
            obtain ⟨g, hg0, hgp, hp1, hpw, y0, y1', y2', hNm, hc, hf, hown⟩ := hI.use
            have h4 : wr.heap[p]? = some (.cells #[.int .i64 (n : Int), .int .i64 (V : Int), .slice (some ⟨g, 0, none⟩) N N] 103 (0, 0)) := by
              obtain ⟨_, g', _, _, h4, _⟩ := hI
              rw [hN] at h4
              have h6 := y2'
              rw [cell_of_row _ _ 2 _ _ _ h4, hN] at h6
              simp at h6
              subst h6
              exact h4
            rw [hN] at y2' hc hown hNm
            unfold maxLen at hNm
            have c1' := hc q hqN
            rw [hA] at c1'
            have f1 := hf q
            have hset := own_set hown hqN (.int .u64 (U1 : Int))
            rw [← u64s_set, hstep] at hset
            have HF : Hid (IntsAt B0 B1 (wr.setCell ⟨g, q, none⟩ (.int .u64 (U1 : Int))) p n V (dg 8 ((dN bs).take (k + 1)))) := Lib.hid ⟨hp1, g, hg0, hgp, by rw [hN, Below.heap_setCell _ _ _ _ (fun e => by have e2 : p = g := e; omega)]; exact h4, by rw [hN]; exact hset⟩
            have HG := Lib.hid (hb.setCell (p := ⟨g, q, none⟩) (by show _ ≤ g; rw [← HB00.out]; exact hg0) (.int .u64 (U1 : Int)))
            have HBB := Lib.hid hBB
            clear hc0 hSl hSn hxl hx hS hq hr hs hstep hN hX1 hX1l hA hAl hU1 hc hf hown h4 hset hI hb hBB y0 y1'
            simp only [Int.cast_ofNat_Int] at hquo hrem
            go_wp2
            go_region
            all_goals go_wp2
            all_goals
              go_roundw
              case rel => exact ⟨k + 1, by omega, by go_num, HF.out, HG.out.drew, by simp; exact HBB.out⟩
              case measure => simp [intOf]; omega
          · obtain rfl : k = K := by omega
            rw [HTA.out] at hI
            have hbs := hb.size
            have HNM := Lib.hid (numbers_pk hI hBB (by omega) (by omega))
            rw [HPG.out] at HNM
            have HLN := HPL
            have HNEW := Lib.hid (fun (W : World) (a' : Option Addr) (c' : Nat) (h : Reads W (.slice a' (pnums bs).length c') (u64s (pnums bs))) => pnew_at (pnums bs) a' c' W (by rw [HPL.out]; exact hn3) HPX.out h)
            have HENC := Lib.hid (fun (B0 B1 p : Nat) (W : World) (h : PkAt B0 B1 W p (pnums bs)) (hB : B1 ≤ W.heap.size) => encode_at h hB (by rw [HPL.out]; omega) HPX.out)
            obtain ⟨l, hl'⟩ : ∃ l, pnums bs = l := ⟨_, rfl⟩
            rw [hl'] at HNM HNEW HENC HOK
            have HB := Lib.hid hb
            have HEQ : Hid (∀ (v : Value) (c : Bool) (W : World), decide (pcode l = bs) = c → Reads W v (u8s (pcode l)) → Below w.heap.size w W → Calls Try.prog 58 #[v, .slice (some ⟨b, off, none⟩) L cap] W fun e w' => e = .returned (.bool c) ∧ W = w') := Lib.hid (fun v c W hc h1 h2 => by rw [← hc]; exact eq_any (pcode l) bs v _ W h1 (HR.out.later h2))
            clear hI hb hBB hl' hkl hk
            by_cases hcode : pcode l = bs
            · have ho : Hid (o = some l) := Lib.hid (by rw [← HO.out, HOK.out, if_pos hcode])
              have hd : Hid (decide (pcode l = bs) = true) := Lib.hid (decide_eq_true hcode)
              clear hcode HOK
              go_wp2_with (first
                | (go_at_call 96; (with_reducible refine HNM.out.mono ?_); rintro e w5 ⟨a5, rfl, hr5, hb5⟩; have HB5 := Lib.hid (HB.out.trans (hb5.mono hbs)); have HN5 := Lib.hid (HNEW.out _ _ _ hr5); clear hr5 hb5)
                | (go_at_call 90; (with_reducible refine HN5.out.mono ?_); rintro e w6 ⟨p6, rfl, hv6, hb6⟩; have HV6 := Lib.hid (IntsAt.wide hv6 HB5.out.size (Nat.le_refl _)); have HB6 := Lib.hid (HB5.out.trans (hb6.mono HB5.out.size)); have HE6 := Lib.hid (HENC.out _ _ _ _ hv6 (Nat.le_refl _)); clear hv6 hb6)
                | (go_at_call 52; (with_reducible refine HE6.out.mono ?_); rintro e w7 ⟨a7, c7, rfl, ho7, hb7⟩; have HB7 := Lib.hid (HB6.out.trans (hb7.mono HB6.out.size)); have HV7 := Lib.hid (IntsAt.wide (IntsAt.below HV6.out hb7 (Nat.le_refl _)) (Nat.le_refl _) hb7.size); have HQ7 := Lib.hid (HEQ.out _ true w7 hd.out (own_reads ho7) HB7.out); clear ho7 hb7)
                | (go_at_call 58; (with_reducible refine HQ7.out.mono ?_); rintro e w8 ⟨rfl, rfl⟩))
              have HF := Lib.hid (HQ.out w7 (.returned (.tuple #[.pointer (some ⟨p6, 0, none⟩), .int .i64 0])) l ho.out ⟨p6, rfl, HV7.out, HB7.out⟩)
              go_ret2
              exact HF.out
            · have ho : Hid (o = none) := Lib.hid (by rw [← HO.out, HOK.out, if_neg hcode])
              have hd : Hid (decide (pcode l = bs) = false) := Lib.hid (decide_eq_false hcode)
              clear hcode HOK
              go_wp2_with (first
                | (go_at_call 96; (with_reducible refine HNM.out.mono ?_); rintro e w5 ⟨a5, rfl, hr5, hb5⟩; have HB5 := Lib.hid (HB.out.trans (hb5.mono hbs)); have HN5 := Lib.hid (HNEW.out _ _ _ hr5); clear hr5 hb5)
                | (go_at_call 90; (with_reducible refine HN5.out.mono ?_); rintro e w6 ⟨p6, rfl, hv6, hb6⟩; have HB6 := Lib.hid (HB5.out.trans (hb6.mono HB5.out.size)); have HE6 := Lib.hid (HENC.out _ _ _ _ hv6 (Nat.le_refl _)); clear hv6 hb6)
                | (go_at_call 52; (with_reducible refine HE6.out.mono ?_); rintro e w7 ⟨a7, c7, rfl, ho7, hb7⟩; have HB7 := Lib.hid (HB6.out.trans (hb7.mono HB6.out.size)); have HQ7 := Lib.hid (HEQ.out _ false w7 hd.out (own_reads ho7) HB7.out); clear ho7 hb7)
                | (go_at_call 58; (with_reducible refine HQ7.out.mono ?_); rintro e w8 ⟨rfl, rfl⟩))
              have HF := Lib.hid (HP.out w7 HB7.out ho.out)
              go_ret2
              exact HF.out
      · have hkd : ((K : Int) != (D : Int)) = true := by rw [bne_iff_ne]; omega
        have ho : Hid (o = none) := Lib.hid (by rw [← HO.out, hdec.out, if_pos (.inr hn2)])
        go_enter Try.func84, Try.ntmps84
        go_wp2
        go_quiet (fail)
        go_wp2
        go_quiet (fail)
        go_wp2_with (go_at_call 77; (with_reducible refine (HDn.out _).mono ?_); rintro e w1 ⟨rfl, rfl⟩)
        go_ret2
        exact HP.out _ (below_drewN (Below.refl _ _) _) ho.out
end Go.Proofs.Ytffljcfpofhkgaa.Pk
