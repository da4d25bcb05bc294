/-
  Packed numbers: contracts of dataBytes, numbers and Encode.
-/
import Derived.Test.YtffljcfpofhkgaaPkD
set_option linter.unusedVariables false
set_option linter.unusedSimpArgs false
set_option maxRecDepth 100000
namespace Go.Proofs.Ytffljcfpofhkgaa.Pk
open Go Go.RowKit Go.Proofs.Ytffljcfpofhkgaa.Kit Go.Proofs.Ytffljcfpofhkgaa.Bv

theorem data_any (n W M : Nat) (hM : n * W = M) (hl : M < 1099511627776) (w : World) :
    Calls Try.prog 77 #[.int .i64 (n : Int), .int .i64 (W : Int)] w fun e w' => e = .returned (.int .i64 (((M + 7) / 8 : Nat) : Int)) ∧ w' = w := by
  have hmul := mul_nat 3 n W M hM (by omega)
  obtain ⟨D, hD⟩ : ∃ D, (M + 7) / 8 = D := ⟨_, rfl⟩
  have h7 : (M : Int) + 7 = ((M + 7 : Nat) : Int) := by omega
  have hquo := quo_nat 3 (M + 7) 8 D (by omega) (by decide) hD
  rw [← h7] at hquo
  rw [hD]
  clear hM hD h7
  simp only [Int.cast_ofNat_Int] at hquo
  go_enter Try.func77, Try.ntmps77
  go_wp2
  go_ret
  exact ⟨rfl, rfl⟩

/-- All numbers. -/
def gvs (S W n : Nat) : List Nat := (List.range n).map (gv S W)
theorem gvs_len (S W n : Nat) : (gvs S W n).length = n := by simp [gvs]
theorem gvs_get {S W n i : Nat} (h : i < n) : (gvs S W n)[i]? = some (gv S W i) := by unfold gvs; rw [List.getElem?_map, List.getElem?_range h]; rfl
theorem gvs_lt (S W n : Nat) : ∀ x ∈ gvs S W n, x < 18446744073709551616 := by
  intro x hx
  unfold gvs at hx
  obtain ⟨i, _, rfl⟩ := List.mem_map.1 hx
  exact gv_lt S W i
/-- The first k written, the others zero. -/
def gk (S W n k : Nat) : List Nat := gvs S W k ++ List.replicate (n - k) 0
theorem gk_len {S W n k : Nat} (h : k ≤ n) : (gk S W n k).length = n := by simp [gk, gvs_len]; omega
theorem gk_zero (S W n : Nat) : gk S W n 0 = List.replicate n 0 := by simp [gk, gvs]
theorem gk_all (S W n : Nat) : gk S W n n = gvs S W n := by simp [gk]
theorem gk_set {S W n k : Nat} (h : k < n) : (gk S W n k).set k (gv S W k) = gk S W n (k + 1) := by
  unfold gk
  rw [List.set_append_right _ _ (by rw [gvs_len]; exact Nat.le_refl _)]
  have e : gvs S W (k + 1) = gvs S W k ++ [gv S W k] := by unfold gvs; rw [List.range_succ, List.map_append]; rfl
  rw [e, List.append_assoc]
  congr 1
  rw [gvs_len, Nat.sub_self, show n - k = (n - (k + 1)) + 1 by omega, List.replicate_succ]
  rfl

def NumsPost (ns : List Nat) (w : World) (e : Ending) (w' : World) : Prop := ∃ a, e = .returned (.slice a ns.length ns.length) ∧ Reads w' (.slice a ns.length ns.length) (u64s ns) ∧ Below w.heap.size w w'
set_option maxHeartbeats 1000000 in
theorem numbers_pk {B0 B1 p n W S : Nat} {w : World} (h : IntsAt B0 B1 w p n W S) (hB : B1 ≤ w.heap.size) (hn : n ≤ 1048577) (hW : W ≤ 255) :
    Calls Try.prog 96 #[.pointer (some ⟨p, 0, none⟩)] w (NumsPost (gvs S W n) w) := by
  obtain ⟨i0, hi, hz0, hz1, hz2⟩ := info_parts info_u64
  obtain ⟨g0, _, _, _, _, x0, _, _⟩ := h.use
  have HG := Lib.hid (fun W' (hW' : Below w.heap.size w W') i (hi : i < n) => get_pk (h.below hW' hB) (by have := hW'.size; omega) hn hW i hi)
  clear h hB hW
  go_enter Try.func96, Try.ntmps96
  go_wp2_with (at_make; refine wpList_make_full _ rfl _ _ _ rfl w.heap.size 69 i0 (.int .u64 0) 1 Try.underlying79 hi hz0 hz1 _ _ _ _ n rfl rfl rfl rfl (by rw [hz2]; omega) (by unfold maxLen; omega) (Nat.le_refl _) ?_; intro w2 hown2 hg2)
  have hw0 : w2.ownsRow w.heap.size 69 1 (.slice (some ⟨w.heap.size, 0, none⟩) n n) n (u64s (gk S W n 0)) := by
    have h := hown2
    rw [show (Value.int IntKind.u64 0).cells = #[Value.int IntKind.u64 0] from rfl, toList_madeCells_one, Nat.mul_one] at h
    rw [gk_zero]
    unfold u64s
    rw [List.map_replicate]
    exact h
  have hb2 : Below w.heap.size w w2 := (Below.refl _ w).grown hg2 (Nat.le_refl _) (fun j hj => by cases hj)
  obtain ⟨g, hg⟩ : ∃ g, w.heap.size = g := ⟨_, rfl⟩
  have HGG := Lib.hid hg
  rw [hg] at hw0 hb2 HG ⊢
  clear hown2 hg2 hg x0
  go_loopw [12] (fun i wr => ∃ k : Nat, k ≤ n ∧ i = .int .i64 k ∧ wr.ownsRow g 69 1 (.slice (some ⟨g, 0, none⟩) n n) n (u64s (gk S W n k)) ∧ Below g w wr) (fun i _ => n - (intOf i).toNat)
  case atStart => exact ⟨0, Nat.zero_le _, rfl, hw0, hb2⟩
  case round =>
    clear hw0 hb2
    obtain ⟨k, hk, rfl, hown, hbw⟩ := hrel
    by_cases hlt : k < n
    · have hG := Lib.hid (HG.out _ hbw k hlt)
      have hkz : (k : Int) < (n : Int) := by omega
      have HOWN := Lib.hid hown
      have HBW := Lib.hid hbw
      have HS := Lib.hid (gk_set (S := S) (W := W) hlt)
      obtain ⟨R, hR⟩ : ∃ R, gv S W k = R := ⟨_, rfl⟩
      rw [hR] at hG HS
      have hgw := own_row_lt hown g rfl
      have HGW := Lib.hid hgw
      clear hR hown hbw hgw
      have HGZ : Hid (g ≤ wr.heap.size) := Lib.hid (by have := HGW.out; omega)
      go_wp2_with (go_at_call 47; (with_reducible refine hG.out.mono ?_); rintro e w5 ⟨rfl, hb5⟩
                   have hown5 := own_later HOWN.out hb5
                   have hbw5 : Below g w w5 := HBW.out.trans (hb5.mono HGZ.out)
                   obtain ⟨g', e1, _, _, hcs, hfr⟩ := own_cells hown5 (by omega)
                   cases e1
                   obtain ⟨z, hz⟩ : ∃ z, w5.cell? ⟨g, k, none⟩ = some z := ⟨_, hcs k _ (List.getElem?_eq_getElem (by rw [u64s_len, gk_len (by omega)]; exact hlt))⟩
                   have hf := hfr k
                   have hset := own_set hown5 hlt (.int .u64 (R : Int))
                   rw [← u64s_set, HS.out] at hset
                   have HSET := Lib.hid hset
                   have HBS := Lib.hid (hbw5.setCell (p := ⟨g, k, none⟩) (Nat.le_refl g) (.int .u64 (R : Int)))
                   clear hset hcs hfr hown5 hbw5 hb5 HOWN HBW)
      go_roundw
      case rel => exact ⟨k + 1, by omega, by go_num, HSET.out, HBS.out⟩
      case measure => simp [intOf]; omega
    · obtain rfl : k = n := by omega
      rw [gk_all] at hown
      have HP : Hid (NumsPost (gvs S W k) w (.returned (.slice (some ⟨g, 0, none⟩) k k)) wr) := Lib.hid ⟨_, by rw [gvs_len], by rw [gvs_len]; exact own_reads hown, by rw [HGG.out]; exact hbw⟩
      clear hown hbw
      go_wp2
      go_ret
      exact HP.out
/-! ### the code -/
theorem shr_i64 (t : TypeId) (n s X : Nat) (hs : s < 64) (h : n / 2 ^ s = X) : binOp .shr t (.int .i64 (n : Int)) (.int .i64 (s : Int)) = pure (.int .i64 (X : Int)) := by
  have h1 := shift_shr .i64 .i64 (n : Int) (s : Int) (by omega) (by simp [IntKind.bits]; omega)
  rw [Int.toNat_natCast, show ((2 : Int) ^ s) = ((2 ^ s : Nat) : Int) by simp, ← Int.natCast_ediv, h] at h1
  exact h1
/-- The first m bytes of the number S. -/
def bys (S m : Nat) : List UInt8 := (byts S m).map UInt8.ofNat
theorem bys_len (S m : Nat) : (bys S m).length = m := by simp [bys, byts_len]
theorem bys_succ (S m : Nat) : bys S (m + 1) = bys S m ++ [UInt8.ofNat (byt S m)] := by unfold bys; rw [byts_succ, List.map_append]; rfl
def codeP (n W S : Nat) : List UInt8 := le 4 n ++ (UInt8.ofNat W :: bys S ((n * W + 7) / 8))
theorem codeP_len (n W S : Nat) : (codeP n W S).length = 5 + (n * W + 7) / 8 := by unfold codeP; rw [List.length_append, le_len, List.length_cons, bys_len]; omega
/-- The code so far. -/
def codeK (n W S k : Nat) : List UInt8 := le 4 n ++ [UInt8.ofNat W] ++ bys S k
theorem codeK_len (n W S k : Nat) : (codeK n W S k).length = 5 + k := by unfold codeK; rw [List.length_append, List.length_append, le_len, bys_len]; simp
theorem codeK_zero (n W S : Nat) : codeK n W S 0 = le 4 n ++ [UInt8.ofNat W] := by unfold codeK; simp [bys, byts]
theorem codeK_succ (n W S k : Nat) : codeK n W S (k + 1) = codeK n W S k ++ [UInt8.ofNat (byt S k)] := by unfold codeK; rw [bys_succ, ← List.append_assoc]
theorem codeK_all (n W S : Nat) : codeK n W S ((n * W + 7) / 8) = codeP n W S := by unfold codeK codeP; rw [List.append_assoc]; rfl
theorem byte_lt (X : Nat) (h : X < 256) : u8s [UInt8.ofNat X] = [Value.int .u8 (X : Int)] := by
  have := byte_nat X
  rwa [Nat.mod_eq_of_lt h] at this

set_option maxHeartbeats 4000000 in
theorem encode_pk {B0 B1 p n W S : Nat} {w : World} (h : IntsAt B0 B1 w p n W S) (hB : B1 ≤ w.heap.size) (hn : n ≤ 1048577) (hW : W ≤ 64) :
    Calls Try.prog 52 #[.pointer (some ⟨p, 0, none⟩)] w (EncPost (codeP n W S) w) := by
  obtain ⟨i0, hi, hz0, hz1, hz2⟩ := info_parts info_u8
  have HI := Lib.hid (fun W' (hW' : Below w.heap.size w W') => h.below hW' hB)
  have hn0 := own_nil w w.heap.size 5 1
  have HALL := Lib.hid (codeK_all n W S)
  have HZ := Lib.hid (codeK_zero n W S)
  have HCL := Lib.hid (codeK_len n W S)
  have HCS := Lib.hid (codeK_succ n W S)
  obtain ⟨M, hM⟩ : ∃ M, n * W = M := ⟨_, rfl⟩
  have hMl : M ≤ 1048577 * 64 := by rw [← hM]; exact Nat.mul_le_mul hn hW
  have HD := Lib.hid (fun w' => data_any n W M hM (by omega) w')
  have hNW : Hid (∀ k, k < (M + 7) / 8 → k / 8 < nws n W) := Lib.hid (fun k hk => by unfold nws; rw [hM]; omega)
  rw [hM] at HALL
  obtain ⟨D, hD⟩ : ∃ D, (M + 7) / 8 = D := ⟨_, rfl⟩
  have hDl : D ≤ 8388617 := by omega
  rw [hD] at HALL HD hNW
  clear hM hMl hD h
  go_enter Try.func52, Try.ntmps52
  go_wp2
  go_loopw [3, 8] (fun x i wr => ∃ k : Nat, k ≤ 4 ∧ i = .int .i64 k ∧ wr.ownsRow w.heap.size 5 1 x k (u8s (le k n)) ∧ Below w.heap.size w wr) (fun _ i _ => 4 - (intOf i).toNat)
  case atStart => exact ⟨0, by omega, rfl, hn0, Below.refl _ _⟩
  case round =>
    clear hn0
    obtain ⟨k, hk, rfl, hown, hb⟩ := hrel
    obtain ⟨g, _, _, _, _, x0, x1, x2, hNm, hc, _, _⟩ := (HI.out _ hb).use
    by_cases hlt : k < 4
    · obtain ⟨s, hs⟩ : ∃ s, 8 * k = s := ⟨_, rfl⟩
      have hsz : (8 : Int) * (k : Int) = (s : Int) := by omega
      obtain ⟨X, hX⟩ : ∃ X, n / 2 ^ s = X := ⟨_, rfl⟩
      have hXl : X ≤ 1048577 := by rw [← hX]; exact Nat.le_trans (Nat.div_le_self _ _) hn
      have hshr := shr_i64 3 n s X (by omega) hX
      have HS : Hid (le (k + 1) n = le k n ++ [UInt8.ofNat (X % 256)]) := Lib.hid (by rw [le_succ, ← hX, ← hs, Nat.pow_mul])
      have HB8 : Hid (u8s [UInt8.ofNat (X % 256)] = [Value.int .u8 ((X % 256 : Nat) : Int)]) := Lib.hid (byte_nat X)
      obtain ⟨B, hB8⟩ : ∃ B, X % 256 = B := ⟨_, rfl⟩
      have hBz : (X : Int) % 256 = (B : Int) := by omega
      have hwr : IntKind.u8.wrap (X : Int) = (B : Int) := by rw [IntKind.wrap_u8]; omega
      rw [hB8] at HS HB8
      have hkz : (k : Int) < 4 := by omega
      have hs0 : (s : Int) < 64 := by omega
      clear hs hX hc hNm hB8
      go_wp2_with (at_builtin; refine wpList_append_own _ rfl _ _ _ rfl w.heap.size 5 i0 (.int .u8 0) 1 1 Try.underlying51 hi hz0 hz1 hz2 rfl (by decide) _ k (u8s (le k n)) rfl (hown.alloc _) ⟨_, 0, none⟩ 1 1 [.int .u8 (B : Int)] rfl rfl (cell_one_new _ _ _) ?c2 ?c3 ?c4 ?c5 ?_)
      case c2 => simp [Value.oneCell']
      case c3 => unfold maxLen; omega
      case c4 => omega
      case c5 => have := hb.size; simp; omega
      intro v' w5 hown5 hg5 _
      have hb5 := below_own (hb.alloc (by have := hb.size; omega) _) (hown.alloc _) (Nat.le_refl _) (by have := hb.size; simp; omega) hg5
      have HO : Hid (w5.ownsRow w.heap.size 5 1 v' (k + 1) (u8s (le (k + 1) n))) := Lib.hid (by rw [HS.out, u8s_append, HB8.out]; exact hown5)
      clear hown hown5 hg5 hwr hBz x0 x1 x2
      go_wp2
      go_roundw
      case rel => exact ⟨k + 1, by omega, by go_num, HO.out, hb5⟩
      case measure => simp [intOf]; omega
    · obtain rfl : k = 4 := by omega
      have hwr : IntKind.u8.wrap (W : Int) = (W : Int) := by rw [IntKind.wrap_u8]; omega
      have hWz : (W : Int) % 256 = (W : Int) := by omega
      have HB8 := Lib.hid (byte_lt W (by omega))
      clear hc hNm hlt
      go_wp2_with (at_builtin; refine wpList_append_own _ rfl _ _ _ rfl w.heap.size 5 i0 (.int .u8 0) 1 1 Try.underlying51 hi hz0 hz1 hz2 rfl (by decide) _ 4 (u8s (le 4 n)) rfl (hown.alloc _) ⟨_, 0, none⟩ 1 1 [.int .u8 (W : Int)] rfl rfl (cell_one_new _ _ _) ?c2 ?c3 ?c4 ?c5 ?_)
      case c2 => simp [Value.oneCell']
      case c3 => unfold maxLen; omega
      case c4 => omega
      case c5 => have := hb.size; simp; omega
      intro v' w5 hown5 hg5 _
      have hb5 := below_own (hb.alloc (by have := hb.size; omega) _) (hown.alloc _) (Nat.le_refl _) (by have := hb.size; simp; omega) hg5
      have hO : w5.ownsRow w.heap.size 5 1 v' (codeK n W S 0).length (u8s (codeK n W S 0)) := by rw [HCL.out, HZ.out, u8s_append, HB8.out]; exact hown5
      clear hown hown5 hg5 hwr hWz x0 x1 x2 hb
      obtain ⟨g5, _, _, _, _, x0, x1, x2, _, _, _, _⟩ := (HI.out _ hb5).use
      go_wp2
      go_quiet (first | (go_at_call 77; with_reducible refine Calls.quiet_of_same (HD.out _)))
      have hb6 := below_drewN hb5 nq
      have hO6 : (w5.drewN nq).ownsRow w.heap.size 5 1 v' (codeK n W S 0).length (u8s (codeK n W S 0)) := hO
      clear hO hb5 x0 x1 x2
      go_wp2
      go_loopw [3, 40] (fun x i wr => ∃ k : Nat, k ≤ D ∧ i = .int .i64 k ∧ wr.ownsRow w.heap.size 5 1 x (codeK n W S k).length (u8s (codeK n W S k)) ∧ Below w.heap.size w wr) (fun _ i _ => D - (intOf i).toNat)
      case atStart => exact ⟨0, Nat.zero_le _, rfl, hO6, hb6⟩
      case round =>
        clear hO6 hb6
        obtain ⟨k, hk, rfl, hown, hb⟩ := hrel
        obtain ⟨g, _, _, _, _, x0, x1, x2, hNm, hc, _, _⟩ := (HI.out _ hb).use
        unfold maxLen at hNm
        by_cases hlt : k < D
        · have hqN := hNW.out k hlt
          have hc1 := hc _ hqN
          have HBY := Lib.hid (wd_byt S k)
          have HWL := wd_lt S (k / 8)
          obtain ⟨q, hq⟩ : ∃ q, k / 8 = q := ⟨_, rfl⟩
          obtain ⟨r, hr⟩ : ∃ r, k % 8 = r := ⟨_, rfl⟩
          rw [hq] at hqN hc1 HBY HWL
          rw [hr] at HBY
          obtain ⟨N, hN⟩ : ∃ N, nws n W = N := ⟨_, rfl⟩
          rw [hN] at hqN x2 hNm
          have hquo := quo_nat 3 k 8 q (by omega) (by decide) hq
          have hrem := rem_nat 3 k 8 r (by decide) hr
          obtain ⟨s, hs⟩ : ∃ s, r * 8 = s := ⟨_, rfl⟩
          have hsz : (r : Int) * 8 = (s : Int) := by omega
          rw [hs] at HBY
          obtain ⟨V, hV⟩ : ∃ V, wd S q = V := ⟨_, rfl⟩
          rw [hV] at hc1 HBY HWL
          obtain ⟨X, hX⟩ : ∃ X, V / 2 ^ s = X := ⟨_, rfl⟩
          have hshr := shr_min 69 V s X (by rw [Nat.min_eq_left (by omega)]; exact hX)
          have hXl : X < 18446744073709551616 := by rw [← hX]; exact Nat.lt_of_le_of_lt (Nat.div_le_self _ _) HWL
          rw [hX] at HBY
          have HS : Hid (codeK n W S (k + 1) = codeK n W S k ++ [UInt8.ofNat (X % 256)]) := Lib.hid (by rw [HCS.out, HBY.out])
          have HB8 : Hid (u8s [UInt8.ofNat (X % 256)] = [Value.int .u8 ((X % 256 : Nat) : Int)]) := Lib.hid (byte_nat X)
          obtain ⟨B, hB8⟩ : ∃ B, X % 256 = B := ⟨_, rfl⟩
          have hBz : (X : Int) % 256 = (B : Int) := by omega
          have hwr : IntKind.u8.wrap (X : Int) = (B : Int) := by rw [IntKind.wrap_u8]; omega
          rw [hB8] at HS HB8
          have hkz : (k : Int) < (D : Int) := by omega
          have hqz : (q : Int) < (N : Int) := by omega
          have hqz0 : (0 : Int) ≤ (q : Int) := by omega
          have hrz : (r : Int) < 8 := by omega
          have hL := HCL.out k
          obtain ⟨L, hLL⟩ : ∃ L, codeK n W S k = L := ⟨_, rfl⟩
          rw [hLL] at hown HS hL
          have hL2 : L.length ≤ 8388622 := by omega
          clear hc hq hr hs hV hX HBY HWL hB8 hLL hL hN
          simp only [Int.cast_ofNat_Int] at hquo hrem
          go_wp2_with (at_builtin; refine wpList_append_own _ rfl _ _ _ rfl w.heap.size 5 i0 (.int .u8 0) 1 1 Try.underlying51 hi hz0 hz1 hz2 rfl (by decide) _ L.length (u8s L) rfl (hown.alloc _) ⟨_, 0, none⟩ 1 1 [.int .u8 (B : Int)] rfl rfl (cell_one_new _ _ _) ?c2 ?c3 ?c4 ?c5 ?_)
          case c2 => simp [Value.oneCell']
          case c3 => unfold maxLen; omega
          case c4 => omega
          case c5 => have := hb.size; simp; omega
          intro v' w7 hown7 hg7 _
          have hb7 := below_own (hb.alloc (by have := hb.size; omega) _) (hown.alloc _) (Nat.le_refl _) (by have := hb.size; simp; omega) hg7
          have HO : Hid (w7.ownsRow w.heap.size 5 1 v' (codeK n W S (k + 1)).length (u8s (codeK n W S (k + 1)))) := Lib.hid (by rw [HS.out, u8s_append, HB8.out, List.length_append]; exact hown7)
          clear hown hown7 hg7 hwr hBz x0 x1 x2 hc1
          go_wp2
          go_roundw
          case rel => exact ⟨k + 1, by omega, by go_num, HO.out, hb7⟩
          case measure => simp [intOf]; omega
        · obtain rfl : k = D := by omega
          rw [HALL.out] at hown
          obtain ⟨a5, c5, h5⟩ := own_is hown
          subst h5
          clear hc x0 x1 x2
          go_wp2
          go_ret
          exact ⟨a5, c5, rfl, hown, hb⟩
theorem encode_pk_nil (w : World) :
    Calls Try.prog 52 #[.pointer none] w fun e w' => e = .returned (.slice none 0 0) ∧ w = w' := by
  go_enter Try.func52, Try.ntmps52
  go_wp2
  go_ret
  exact ⟨rfl, rfl⟩
end Go.Proofs.Ytffljcfpofhkgaa.Pk
