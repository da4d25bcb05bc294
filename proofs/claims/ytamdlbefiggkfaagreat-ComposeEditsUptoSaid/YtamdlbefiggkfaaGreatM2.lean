/-
  Joined texts: RomA, RomIA, UtfA, UtfB, UtfC, UtfD, UtfE, UtfMathB, UtfF.
-/
import Derived.Test.YtamdlbefiggkfaaGreatM1
import Derived.Test.YtamdlbefiggkfaaGreatRows
import Derived.WalkMore
import Derived.ScopeJumps
set_option linter.unusedVariables false
set_option linter.unusedSimpArgs false
set_option maxRecDepth 100000
namespace Go.Proofs.YtamdlbefiggkfaaGreat.Rom
open Go Go.RowKit Go.Proofs.YtamdlbefiggkfaaGreat.Kit Go.Proofs.YtamdlbefiggkfaaGreat.Utf

theorem idx_other (b : Int) (h0 : 0 ≤ b) (h1 : b < 256) : decide (0 ≤ Lib.indexByte [45, 44, 46, 39] b.toNat.toUInt8) = decide (b = 45 ∨ b = 44 ∨ b = 46 ∨ b = 39) := by
  obtain ⟨n, rfl⟩ : ∃ n : Nat, b = n := ⟨b.toNat, by omega⟩
  have h : ∀ n, n < 256 → decide (0 ≤ Lib.indexByte [45, 44, 46, 39] n.toUInt8) = decide (n = 45 ∨ n = 44 ∨ n = 46 ∨ n = 39) := by decide +kernel
  rw [show ((n : Int)).toNat = n by omega, h n (by omega)]
  congr 1
  exact propext ⟨fun h => by omega, fun h => by omega⟩

theorem isKey_any (b : Int) (w : World) (h0 : 0 ≤ b) (h1 : b < 256) :
    Calls Tryz.prog 111 #[.int .u8 b] w fun e w' => e = .returned (.bool (isKeyZ b)) ∧ w' = w := by
  have HI := Lib.hid (Tryz.strings_IndexByte { data := #[45, 44, 46, 39] } b)
  have HE := Lib.hid (idx_other b h0 h1)
  generalize Lib.indexByte [45, 44, 46, 39] b.toNat.toUInt8 = x at HI HE
  by_cases h2 : 97 ≤ b ∧ b ≤ 122
  · obtain ⟨h3, h4⟩ := h2
    go_enter Tryz.func111, Tryz.ntmps111
    go_wp2
    go_ret
    refine ⟨ret_bool ?_, rfl⟩
    simp [isKeyZ]; omega
  · have e1 : isKeyZ b = decide (0 ≤ x) := by
      rw [HE.out]; unfold isKeyZ
      congr 1
      exact propext ⟨fun h => by omega, fun h => by omega⟩
    rw [e1]
    clear e1 HE
    go_enter Tryz.func111, Tryz.ntmps111
    go_wp2_with (go_at_call 116; (with_reducible refine (HI.out _).mono ?_); rintro e w1 ⟨rfl, hw1⟩; obtain rfl := hw1.symm)
    all_goals first | (exfalso; omega) | skip
    all_goals go_ret
    all_goals exact ⟨ret_bool (by first | (simp; done) | (simp; omega)), rfl⟩

/-- What a byte of a string is, as a number. -/
def bz (s : ByteArray) (i : Nat) : Int := ((bs s).getD i 0).toNat
theorem bz_bound (s : ByteArray) (i : Nat) : 0 ≤ bz s i ∧ bz s i < 256 := by unfold bz; have := ((bs s).getD i 0).toNat_lt; omega
theorem keys_take_all (s : ByteArray) (k : Nat) (h : s.size ≤ k) : keysOK ((bs s).take k) = keysOK (bs s) := by rw [List.take_of_length_le (by rw [bs_len]; exact h)]
theorem keys_succ (s : ByteArray) (k : Nat) (h : k < s.size) : keysOK ((bs s).take (k + 1)) = (keysOK ((bs s).take k) && isKeyZ (bz s k)) := by
  unfold keysOK bz
  rw [List.take_add_one, List.all_append, List.getD_eq_getElem?_getD, List.getElem?_eq_getElem (by rw [bs_len]; exact h)]
  simp
theorem keys_bad (s : ByteArray) (k : Nat) (h : keysOK ((bs s).take k) = false) : keysOK (bs s) = false := by
  cases h2 : keysOK (bs s)
  · rfl
  · unfold keysOK at *
    rw [List.all_eq_true] at h2
    have : ((bs s).take k).all (fun b => isKeyZ b.toNat) = true := List.all_eq_true.2 fun x hx => h2 x (List.mem_of_mem_take hx)
    rw [this] at h; cases h
theorem run_byte (s : ByteArray) (i : Nat) (h : i < s.size) (w : World) : (Instr.index 9 (.string s) (.int .i64 i)).run Tryz.prog w = .ok (.int .u8 (bz s i)) w := by
  rw [run_index_string w 9 s .i64 i Tryz.underlying9, dif_pos ⟨by omega, by omega⟩]
  congr 2
  unfold bz
  rw [List.getD_eq_getElem?_getD, List.getElem?_eq_getElem (by rw [bs_len]; exact h)]
  simp
  rfl

theorem areKeys_any (s : ByteArray) (a b : Int) (w : World) (hs : s.size ≤ 281474976710656) (ha : 0 ≤ a) (ha2 : a ≤ 4) (hb : -1 ≤ b) (hb2 : b ≤ 1000000000000000) :
    Calls Tryz.prog 101 #[.string s, .int .i64 a, .int .i64 b] w fun e w' => e = .returned (.bool (decide (a ≤ s.size ∧ s.size ≤ b) && keysOK (bs s))) ∧ w' = w := by
  by_cases h1 : (s.size : Int) < a
  · go_enter Tryz.func101, Tryz.ntmps101
    go_wp2
    go_ret
    refine ⟨ret_bool ?_, rfl⟩
    rw [decide_eq_false (by omega)]; rfl
  by_cases h2 : b < (s.size : Int)
  · go_enter Tryz.func101, Tryz.ntmps101
    go_wp2
    go_ret
    refine ⟨ret_bool ?_, rfl⟩
    rw [decide_eq_false (by omega)]; rfl
  have e1 : (decide (a ≤ (s.size : Int) ∧ (s.size : Int) ≤ b) && keysOK (bs s)) = keysOK (bs s) := by rw [decide_eq_true (by omega)]; rfl
  rw [e1]; clear e1
  go_enter Tryz.func101, Tryz.ntmps101
  go_wp2
  go_loopw [20] (fun i wr => ∃ k : Nat, i = .int .i64 k ∧ k ≤ s.size ∧ keysOK ((bs s).take k) = true ∧ wr = w) (fun i _ => s.size - (intOf i).toNat)
  case atStart => exact ⟨0, rfl, Nat.zero_le _, rfl, rfl⟩
  case round =>
    obtain ⟨k, rfl, hk, hok, rfl⟩ := hrel
    by_cases hkl : k < s.size
    · have hrun := run_byte s k hkl
      have hbz := bz_bound s k
      have hsu := Lib.hid (keys_succ s k hkl)
      have HO := Lib.hid hok; clear hok
      generalize bz s k = x at hrun hbz hsu
      obtain ⟨hb0, hb1⟩ := hbz
      cases hx : isKeyZ x
      · have HK := isKey_any x wr hb0 hb1
        rw [hx] at HK hsu
        clear hx hb0 hb1
        have HB := Lib.hid (keys_bad s (k + 1) (by rw [hsu.out]; simp))
        go_wp2_with (go_at_call 111; (with_reducible refine HK.mono ?_); rintro e w1 ⟨rfl, hw1⟩; obtain rfl := hw1.symm)
        go_ret
        exact ⟨ret_bool HB.out.symm, rfl⟩
      · have HK := isKey_any x wr hb0 hb1
        rw [hx] at HK hsu
        clear hx hb0 hb1
        go_wp2_with (go_at_call 111; (with_reducible refine HK.mono ?_); rintro e w1 ⟨rfl, hw1⟩; obtain rfl := hw1.symm)
        go_roundw
        case rel => exact ⟨k + 1, by go_num, by omega, by rw [hsu.out, HO.out]; rfl, trivial⟩
        case measure => simp [intOf]; omega
    · have e1 := Lib.hid (keys_take_all s k (by omega))
      rw [hok] at e1
      clear hok
      go_wp2
      go_ret
      exact ⟨ret_bool e1.out, rfl⟩

end Go.Proofs.YtamdlbefiggkfaaGreat.Rom

set_option linter.unusedVariables false
set_option linter.unusedSimpArgs false
namespace Go.Proofs.YtamdlbefiggkfaaGreat.Rom
open Go Go.RowKit Go.Proofs.YtamdlbefiggkfaaGreat.Kit Go.Proofs.YtamdlbefiggkfaaGreat.Utf

theorem wp_scope_forward {P : Program} {a : Act} {w : World} {Q : Exit → Act → World → Prop} {c rest : Code} (l : Nat) (hf : findLabel c l = some rest)
    (first : c.wp P (Exit.jump l (fun a w => rest.wp P (Exit.noGoto Q) a w) Q) a w) : (Code.scope c).wp P Q a w :=
  wp_scope_jumps l (fun a w => rest.wp P (Exit.noGoto Q) a w) (fun _ _ => 0) hf first (fun a w h => wp_mono h (fun e a w hq => by cases e <;> first | exact hq | exact hq.elim))

theorem below_drews {B : Nat} {w w' : World} (h : Below B w w') (n : Nat) : Below B w (w'.drewN n) := h.trans ⟨rfl, rfl, rfl, Nat.le_refl _, fun _ _ => rfl⟩
theorem jump_ret {l : Nat} {J : Act → World → Prop} {Q : Exit → Act → World → Prop} {a : Act} {w : World} : Exit.jump l J Q Exit.ret a w ↔ Q Exit.ret a w := Iff.rfl
theorem jump_goto {l : Nat} {J : Act → World → Prop} {Q : Exit → Act → World → Prop} {a : Act} {w : World} : Exit.jump l J Q (Exit.goto l) a w ↔ J a w := ⟨fun h => h.2, fun h => ⟨rfl, h⟩⟩
def sepL : List UInt8 := [227, 131, 188, 227, 128, 129, 227, 128, 130]
def sb (i : Nat) : Int := ((sepL.getD i 0).toNat : Int)
theorem ib_at (s : ByteArray) (c : Int) (w : World) (v : Int) (hv : Lib.indexByte s.data.toList c.toNat.toUInt8 = v) :
    Calls Tryz.prog 116 #[.string s, .int .u8 c] w fun e w' => e = .returned (.int .i64 v) ∧ w' = w := by
  rw [← hv]
  exact Tryz.strings_IndexByte s c w
theorem sb_at (i : Nat) (h : i < 9) (w : World) : (Instr.index 9 (.string { data := #[227, 131, 188, 227, 128, 129, 227, 128, 130] }) (.int .i64 i)).run Tryz.prog w = .ok (.int .u8 (sb i)) w := by
  have : i = 0 ∨ i = 1 ∨ i = 2 ∨ i = 3 ∨ i = 4 ∨ i = 5 ∨ i = 6 ∨ i = 7 ∨ i = 8 := by omega
  rcases this with rfl | rfl | rfl | rfl | rfl | rfl | rfl | rfl | rfl <;> (show _ = _; kernel_rfl)
/-- How many of the first k bytes are z. -/
def cn (z : Int) (k : Nat) : Nat := ((List.range k).filter fun j => decide (sb j = z)).length
theorem cn_succ (z : Int) (k : Nat) : cn z (k + 1) = cn z k + if sb k = z then 1 else 0 := by
  unfold cn
  rw [List.range_succ, List.filter_append, List.length_append]
  congr 1
  by_cases h : sb k = z <;> simp [h]
theorem cn_mono (z : Int) {a b : Nat} (h : a ≤ b) : cn z a ≤ cn z b := by
  induction b with
  | zero => rw [show a = 0 by omega]; exact Nat.le_refl _
  | succ b ih =>
    rcases Nat.lt_or_ge b a with h1 | h1
    · rw [show a = b + 1 by omega]; exact Nat.le_refl _
    · have := ih h1; rw [cn_succ]; omega
theorem cn_all : ∀ z, z < 192 → 128 ≤ z → cn ((z : Nat) : Int) 9 ≤ 2 := by decide +kernel
theorem cn_le (z : Int) (h0 : 128 ≤ z) (h1 : z < 192) (k : Nat) (hk : k ≤ 9) : cn z k ≤ 2 := by
  obtain ⟨n, rfl⟩ : ∃ n : Nat, z = n := ⟨z.toNat, by omega⟩
  exact Nat.le_trans (cn_mono _ hk) (cn_all n (by omega) (by omega))
/-- The next place of a byte behind k. -/
def nxt (k : Nat) (z : Nat) : Option Nat := (List.range 9).find? fun j => decide (k < j ∧ sb j = z)
def nxtV (k : Nat) (z : Nat) : Int := match nxt k z with | none => -1 | some j => (j : Int) - (k + 1)
theorem nxt_is : ∀ k, k < 9 → ∀ z, z < 256 → Lib.indexByte (sepL.drop (k + 1)) z.toUInt8 = nxtV k z := by decide +kernel

theorem ext_bytes (k : Nat) (h : k < 9) : (({ data := #[227, 131, 188, 227, 128, 129, 227, 128, 130] } : ByteArray).extract (k + 1) 9).data.toList = sepL.drop (k + 1) := by
  have : k = 0 ∨ k = 1 ∨ k = 2 ∨ k = 3 ∨ k = 4 ∨ k = 5 ∨ k = 6 ∨ k = 7 ∨ k = 8 := by omega
  rcases this with rfl | rfl | rfl | rfl | rfl | rfl | rfl | rfl | rfl <;> decide +kernel
theorem ib_is (k : Nat) (hk : k < 9) (z : Int) (z0 : 128 ≤ z) (z1 : z < 192) : Lib.indexByte (({ data := #[227, 131, 188, 227, 128, 129, 227, 128, 130] } : ByteArray).extract (k + 1) 9).data.toList z.toNat.toUInt8 = nxtV k z.toNat := by
  rw [ext_bytes k hk]
  exact nxt_is k hk z.toNat (by omega)
theorem ib_none (k : Nat) (hk : k < 9) (z : Int) (z0 : 128 ≤ z) (z1 : z < 192) (h : ∀ j, k < j → j < 9 → sb j ≠ z) : Lib.indexByte (({ data := #[227, 131, 188, 227, 128, 129, 227, 128, 130] } : ByteArray).extract (k + 1) 9).data.toList z.toNat.toUInt8 = -1 := by
  rw [ib_is k hk z z0 z1]
  unfold nxtV
  cases hn : nxt k z.toNat with
  | none => rfl
  | some j =>
    have h1 := List.find?_some hn
    have h2 := List.mem_range.1 (List.mem_of_find?_eq_some hn)
    simp only [decide_eq_true_eq] at h1
    exact absurd (by rw [h1.2]; omega) (h j h1.1 h2)
/-- .. and it is the first one. -/
theorem ib_some (k : Nat) (hk : k < 9) (z : Int) (z0 : 128 ≤ z) (z1 : z < 192) (h : ¬ ∀ j, k < j → j < 9 → sb j ≠ z) : ∃ j, k < j ∧ j < 9 ∧ sb j = z ∧ (∀ i, k < i → i < j → sb i ≠ z) ∧ Lib.indexByte (({ data := #[227, 131, 188, 227, 128, 129, 227, 128, 130] } : ByteArray).extract (k + 1) 9).data.toList z.toNat.toUInt8 = (j : Int) - (k + 1) := by
  rw [ib_is k hk z z0 z1]
  unfold nxtV
  cases hn : nxt k z.toNat with
  | none =>
    exfalso
    apply h
    intro j h1 h2 e
    have := List.find?_eq_none.1 hn j (List.mem_range.2 h2)
    apply this
    simp only [decide_eq_true_eq]
    exact ⟨h1, by rw [e]; omega⟩
  | some j =>
    have h1 := List.find?_some hn
    have h2 := List.mem_range.1 (List.mem_of_find?_eq_some hn)
    simp only [decide_eq_true_eq] at h1
    refine ⟨j, h1.1, h2, by rw [h1.2]; omega, fun i hi hij e => ?_, rfl⟩
    have h3 := (List.find?_range_eq_some.1 hn).2.2 i hij
    simp only [Bool.not_eq_true', decide_eq_false_iff_not] at h3
    exact h3 ⟨hi, by rw [e]; omega⟩

/-- A rune's bytes, the last one at place l. -/
structure RB (R : ByteArray) (l : Nat) (rb : Nat → Int) : Prop where
  size : R.size = l + 1
  l1 : 1 ≤ l
  l3 : l ≤ 3
  at_ : ∀ j, j ≤ l → ∀ w : World, (Instr.index 9 (.string R) (.int .i64 j)).run Tryz.prog w = .ok (.int .u8 (rb j)) w
  z0 : 128 ≤ rb l
  z1 : rb l < 192

def Occ (l : Nat) (rb : Nat → Int) : Prop := ∃ p, p + l < 9 ∧ ∀ j, j ≤ l → sb (p + j) = rb j
/-- None that ends before place k. -/
def NoOcc (l : Nat) (rb : Nat → Int) (k : Nat) : Prop := ∀ p, p + l < k → ¬ ∀ j, j ≤ l → sb (p + j) = rb j
theorem NoOcc.all {l : Nat} {rb : Nat → Int} (h : NoOcc l rb 9) : ¬ Occ l rb := fun ⟨p, h1, h2⟩ => h p h1 h2
theorem NoOcc.step {l : Nat} {rb : Nat → Int} {k : Nat} (h : NoOcc l rb k) (hk : ∀ p, p + l = k → ¬ ∀ j, j ≤ l → sb (p + j) = rb j) : NoOcc l rb (k + 1) := fun p hp => by
  rcases Nat.lt_or_ge (p + l) k with h1 | h1
  · exact h p h1
  · exact hk p (by omega)
theorem NoOcc.skip {l : Nat} {rb : Nat → Int} {k g : Nat} (h : NoOcc l rb k) (hg : ∀ i, k ≤ i → i < g → sb i ≠ rb l) : NoOcc l rb g := fun p hp ho => by
  rcases Nat.lt_or_ge (p + l) k with h1 | h1
  · exact h p h1 ho
  · exact hg (p + l) h1 hp (ho l (Nat.le_refl _))

set_option maxRecDepth 100000 in
set_option maxHeartbeats 8000000 in
theorem ir_at (r : Int) (R : ByteArray) (l : Nat) (rb : Nat → Int) (g1 : 128 ≤ r) (h2 : (r == 65533) = false) (hvr : Lib.validRune r = true) (hE : Utf8.encode r = R) (hb : RB R l rb) (w : World) :
    Calls Tryz.prog 119 #[.string { data := #[227, 131, 188, 227, 128, 129, 227, 128, 130] }, .int .i32 r] w fun e w' => ∃ v, e = .returned (.int .i64 v) ∧ (0 ≤ v ↔ Occ l rb) ∧ Below w.heap.size w w' := by
  have HV := Lib.hid (Tryz.utf8_ValidRune r)
  rw [hvr] at HV
  have t1 : decide ((0 : Int) ≤ r) = true := by simp; omega
  have t2 : decide (r < 128) = false := by simp; omega
  have hs := hb.size
  have l1 := hb.l1
  have l3 := hb.l3
  have HB := Lib.hid hb
  obtain ⟨z, hz⟩ : ∃ z, rb l = z := ⟨_, rfl⟩
  have z0 : 128 ≤ z := by rw [← hz]; exact hb.z0
  have z1 : z < 192 := by rw [← hz]; exact hb.z1
  have HZ := Lib.hid hz
  clear hvr g1 hb hz
  go_enter Tryz.func119, Tryz.ntmps119
  go_wp2_with (first
    | (go_at_call 121; (with_reducible refine (HV.out _).mono ?_); rintro e w1 ⟨rfl, hw1⟩; obtain rfl := hw1.symm))
  go_step3
  go_wp2
  clear HV t1 t2 h2
  go_loopw [9, 10] (fun i f wr => ∃ (k : Nat) (q : Int), i = .int .i64 k ∧ l ≤ k ∧ k ≤ 9 ∧ f = .int .i64 q ∧ 0 ≤ q ∧ q ≤ cn z k ∧ NoOcc l rb k ∧ Below w.heap.size w wr) (fun i _ _ => 9 - (intOf i).toNat)
  case atStart => exact ⟨l, 0, rfl, Nat.le_refl _, by omega, rfl, by omega, by omega, fun p hp => by omega, Below.refl _ _⟩
  case round =>
    obtain ⟨k, q, rfl, hk0, hk, rfl, hq0, hqc, hno, hbel⟩ := hrel
    by_cases hk11 : k < 9
    · have hxk := sb_at k hk11
      have hxz := HB.out.at_ l (Nat.le_refl _)
      rw [HZ.out] at hxz
      have k0 : (0 : Int) ≤ k := by omega
      have k1 : (k : Int) < 9 := by omega
      have j0 : (0 : Int) ≤ l := by omega
      have HN := Lib.hid hno
      obtain ⟨wo, hwo⟩ : ∃ wo, wo = wr := ⟨_, rfl⟩
      subst hwo
      by_cases hA : sb k = z
      · have hne : (sb k != z) = false := by simpa using hA
        have HA := Lib.hid hA
        have hq1 : q ≤ 1 := by
          have e1 := cn_le z z0 z1 (k + 1) (by omega)
          rw [cn_succ, if_pos hA] at e1
          omega
        have HC := Lib.hid (show q + 1 ≤ cn z (k + 1) from by rw [cn_succ, if_pos hA]; omega)
        have HNG := HN
        clear hA hqc hno
        go_wp2
        refine wp_scope_forward 0 rfl ?_
        go_wp2
        go_quiet (fail)
        have hb2 := below_drews hbel nq
        obtain ⟨W, hW⟩ : ∃ W, wo.drewN nq = W := ⟨_, rfl⟩
        rw [hW] at hb2 ⊢
        clear hW
        go_wp2
        go_loopw [12] (fun jv wr => ∃ j : Nat, jv = .int .i64 j ∧ 1 ≤ j ∧ j ≤ l + 1 ∧ Hid (∀ i, i < j → sb (k - i) = rb (l - i)) ∧ Below w.heap.size w wr) (fun jv _ => l + 1 - (intOf jv).toNat)
        case atStart => exact ⟨1, rfl, Nat.le_refl _, by omega, Lib.hid (fun i hi => by rw [show i = 0 by omega]; exact HA.out.trans HZ.out.symm), hb2⟩
        case round =>
          obtain ⟨j, rfl, hj1, hjk, hall, hb3⟩ := hrel
          by_cases hj : j < l + 1
          · have hy := sb_at (k - j) (by omega)
            have hyz := HB.out.at_ (l - j) (by omega)
            have hcast : ((k - j : Nat) : Int) = (k : Int) - j := by omega
            have hcast2 : ((l - j : Nat) : Int) = (l : Int) - j := by omega
            rw [hcast] at hy
            rw [hcast2] at hyz
            have y0 : (0 : Int) ≤ (k : Int) - j := by omega
            have y1 : (k : Int) - j < 9 := by omega
            have y3 : (0 : Int) ≤ (l : Int) - j := by omega
            have y2 : (l : Int) - j < (l : Int) + 1 := by omega
            have j5 : (j : Int) < (l : Int) + 1 := by omega
            by_cases hq : sb (k - j) = rb (l - j)
            · have hneq : (sb (k - j) != rb (l - j)) = false := by simpa using hq
              have HQ := Lib.hid (show ∀ i, i < j + 1 → sb (k - i) = rb (l - i) from fun i hi => by
                by_cases e : i = j
                · rw [e]; exact hq
                · exact hall.out i (by omega))
              clear hq hcast hcast2
              go_wp2
              go_quiet (fail)
              go_wp2
              exact ⟨⟨j + 1, by go_num, by omega, by omega, HQ, below_drews hb3 _⟩, by simp [intOf]; omega⟩
            · have hneq : (sb (k - j) != rb (l - j)) = true := by simpa using hq
              have HNO := Lib.hid (show NoOcc l rb (k + 1) from HNG.out.step fun p hp ho => by
                have e3 := ho (l - j) (by omega)
                rw [show p + (l - j) = k - j by omega] at e3
                exact hq e3)
              clear hq hcast hcast2
              go_wp2
              go_quiet (fail)
              have hb4 := below_drews hb3 nq
              obtain ⟨W2, hW2⟩ : ∃ W2, wr.drewN nq = W2 := ⟨_, rfl⟩
              rw [hW2] at hb4 ⊢
              clear hW2
              go_wp2
              go_step3
              simp (config := { zetaDelta := true }) only [jump_goto, Exit.then, Exit.inBlock, Exit.noGoto_ret]
              go_wp2
              change _ ∧ _
              go_roundw
              case rel => exact ⟨k + 1, q + 1, by go_num, by omega, by omega, by go_num, by omega, HC.out, HNO.out, hb4⟩
              case measure => simp [intOf]; omega
          · obtain rfl : j = l + 1 := by omega
            have HOC := Lib.hid (show Occ l rb from ⟨k - l, by omega, fun i hi =>
              (show sb (k - l + i) = sb (k - (l - i)) by rw [show k - (l - i) = k - l + i by omega]).trans ((hall.out (l - i) (by omega)).trans (by rw [show l - (l - i) = i by omega]))⟩)
            have hj6 : ¬ (((l + 1 : Nat) : Int) < (l : Int) + 1) := by omega
            clear hall
            go_wp2
            simp (config := { zetaDelta := true }) only [jump_ret, Exit.then, Exit.inBlock, Exit.noGoto_ret]
            go_ret
            exact ⟨_, rfl, ⟨fun _ => HOC.out, fun _ => by omega⟩, hb3⟩
      · have hne : (sb k != z) = true := by simpa using hA
        by_cases hN : ∀ j, k < j → j < 9 → sb j ≠ z
        · have HIB := Lib.hid (fun W => ib_at (({ data := #[227, 131, 188, 227, 128, 129, 227, 128, 130] } : ByteArray).extract (k + 1) 9) z W (-1) (ib_none k hk11 z z0 z1 hN))
          have HNO := Lib.hid (show ¬ Occ l rb from NoOcc.all (hno.skip fun i h1 h2 => by
            rw [HZ.out]
            rcases Nat.lt_or_ge k i with h3 | h3
            · exact hN i h3 h2
            · rw [show i = k by omega]; exact hA))
          clear hA hN hno hqc
          go_wp2
          refine wp_scope_forward 0 rfl ?_
          go_wp2
          go_quiet (fail)
          have hb2 := below_drews hbel nq
          obtain ⟨W, hW⟩ : ∃ W, wo.drewN nq = W := ⟨_, rfl⟩
          rw [hW] at hb2 ⊢
          clear hW
          go_wp2
          go_quiet (first | (go_at_call 116; with_reducible refine Calls.quiet_of_same (HIB.out _)))
          go_wp2
          simp (config := { zetaDelta := true }) only [jump_ret, Exit.then, Exit.inBlock, Exit.noGoto_ret]
          go_ret
          exact ⟨_, rfl, ⟨fun h => absurd h (by decide), fun h => absurd h HNO.out⟩, below_drews hb2 _⟩
        · obtain ⟨g, g1, g2, g3, g5, g4⟩ := ib_some k hk11 z z0 z1 hN
          obtain ⟨o, ho⟩ : ∃ o : Int, (g : Int) - (k + 1) = o := ⟨_, rfl⟩
          rw [ho] at g4
          have HIB := Lib.hid (fun W => ib_at (({ data := #[227, 131, 188, 227, 128, 129, 227, 128, 130] } : ByteArray).extract (k + 1) 9) z W o g4)
          have HNG := Lib.hid (show NoOcc l rb g from hno.skip fun i h1 h2 => by
            rw [HZ.out]
            rcases Nat.lt_or_ge k i with h3 | h3
            · exact g5 i h3 h2
            · rw [show i = k by omega]; exact hA)
          have hqm := cn_mono z (show k ≤ g by omega)
          have hq1 : q ≤ 1 := by
            have e1 := cn_le z z0 z1 (g + 1) (by omega)
            rw [cn_succ, if_pos g3] at e1
            omega
          have HC := Lib.hid (show q + 1 ≤ cn z (g + 1) from by rw [cn_succ, if_pos g3]; omega)
          have HA := Lib.hid g3
          have o0 : ¬ o < 0 := by omega
          have o2 : o ≤ 8 := by omega
          have o1 : (k : Int) + (o + 1) = g := by omega
          clear hA hN g3 g4 ho hno hqc hqm g5
          go_wp2
          refine wp_scope_forward 0 rfl ?_
          go_wp2
          go_quiet (fail)
          have hb1 := below_drews hbel nq
          obtain ⟨W0, hW0⟩ : ∃ W0, wo.drewN nq = W0 := ⟨_, rfl⟩
          rw [hW0] at hb1 ⊢
          clear hW0
          go_wp2
          go_quiet (first | (go_at_call 116; with_reducible refine Calls.quiet_of_same (HIB.out _)))
          have hb2 := below_drews hb1 nq
          obtain ⟨W, hW⟩ : ∃ W, W0.drewN nq = W := ⟨_, rfl⟩
          rw [hW] at hb2 ⊢
          clear hW
          go_wp2
          go_loopw [12] (fun jv wr => ∃ j : Nat, jv = .int .i64 j ∧ 1 ≤ j ∧ j ≤ l + 1 ∧ Hid (∀ i, i < j → sb (g - i) = rb (l - i)) ∧ Below w.heap.size w wr) (fun jv _ => l + 1 - (intOf jv).toNat)
          case atStart => exact ⟨1, rfl, Nat.le_refl _, by omega, Lib.hid (fun i hi => by rw [show i = 0 by omega]; exact HA.out.trans HZ.out.symm), hb2⟩
          case round =>
            obtain ⟨j, rfl, hj1, hjk, hall, hb3⟩ := hrel
            by_cases hj : j < l + 1
            · have hy := sb_at (g - j) (by omega)
              have hyz := HB.out.at_ (l - j) (by omega)
              have hcast : ((g - j : Nat) : Int) = (g : Int) - j := by omega
              have hcast2 : ((l - j : Nat) : Int) = (l : Int) - j := by omega
              rw [hcast] at hy
              rw [hcast2] at hyz
              have y0 : (0 : Int) ≤ (g : Int) - j := by omega
              have y1 : (g : Int) - j < 9 := by omega
              have y3 : (0 : Int) ≤ (l : Int) - j := by omega
              have y2 : (l : Int) - j < (l : Int) + 1 := by omega
              have j5 : (j : Int) < (l : Int) + 1 := by omega
              by_cases hq : sb (g - j) = rb (l - j)
              · have hneq : (sb (g - j) != rb (l - j)) = false := by simpa using hq
                have HQ := Lib.hid (show ∀ i, i < j + 1 → sb (g - i) = rb (l - i) from fun i hi => by
                  by_cases e : i = j
                  · rw [e]; exact hq
                  · exact hall.out i (by omega))
                clear hq hcast hcast2
                go_wp2
                go_quiet (fail)
                go_wp2
                exact ⟨⟨j + 1, by go_num, by omega, by omega, HQ, below_drews hb3 _⟩, by simp [intOf]; omega⟩
              · have hneq : (sb (g - j) != rb (l - j)) = true := by simpa using hq
                have HNO := Lib.hid (show NoOcc l rb (g + 1) from HNG.out.step fun p hp ho => by
                  have e3 := ho (l - j) (by omega)
                  rw [show p + (l - j) = g - j by omega] at e3
                  exact hq e3)
                clear hq hcast hcast2
                go_wp2
                go_quiet (fail)
                have hb4 := below_drews hb3 nq
                obtain ⟨W2, hW2⟩ : ∃ W2, wr.drewN nq = W2 := ⟨_, rfl⟩
                rw [hW2] at hb4 ⊢
                clear hW2
                go_wp2
                go_step3
                simp (config := { zetaDelta := true }) only [jump_goto, Exit.then, Exit.inBlock, Exit.noGoto_ret]
                go_wp2
                change _ ∧ _
                go_roundw
                case rel => exact ⟨g + 1, q + 1, by go_num, by omega, by omega, by go_num, by omega, HC.out, HNO.out, hb4⟩
                case measure => simp [intOf]; omega
            · obtain rfl : j = l + 1 := by omega
              have HOC := Lib.hid (show Occ l rb from ⟨g - l, by omega, fun i hi =>
                (show sb (g - l + i) = sb (g - (l - i)) by rw [show g - (l - i) = g - l + i by omega]).trans ((hall.out (l - i) (by omega)).trans (by rw [show l - (l - i) = i by omega]))⟩)
              have hj6 : ¬ (((l + 1 : Nat) : Int) < (l : Int) + 1) := by omega
              clear hall
              go_wp2
              simp (config := { zetaDelta := true }) only [jump_ret, Exit.then, Exit.inBlock, Exit.noGoto_ret]
              go_ret
              exact ⟨_, rfl, ⟨fun _ => HOC.out, fun _ => by omega⟩, hb3⟩
    · obtain rfl : k = 9 := by omega
      have HNO := Lib.hid hno.all
      clear hno
      go_wp2
      (try simp only [jump_ret, Exit.then, Exit.inBlock, Exit.noGoto_ret])
      go_ret
      exact ⟨_, rfl, ⟨fun h => absurd h (by decide), fun h => absurd h HNO.out⟩, hbel⟩

end Go.Proofs.YtamdlbefiggkfaaGreat.Rom

set_option linter.unusedVariables false
set_option linter.unusedSimpArgs false
namespace Go.Proofs.YtamdlbefiggkfaaGreat.Utf
open Go Go.RowKit Go.Proofs.YtamdlbefiggkfaaGreat.Kit

theorem character_any (c : Int) (w : World) :
    Calls Tryz.prog 89 #[.int .i32 c] w fun e w' => e = .returned (.bool (validRune c)) ∧ w = w' := by
  have hv : validRune c = decide ((0 ≤ c ∧ c < 55296) ∨ (57343 < c ∧ c ≤ 1114111)) := rfl
  have H := Lib.hid hv; clear hv
  by_cases h0 : 0 ≤ c <;> by_cases h1 : c < 55296 <;> by_cases h2 : 57343 < c <;> by_cases h3 : c ≤ 1114111 <;> first | (exfalso; omega) | skip
  all_goals
    go_enter Tryz.func89, Tryz.ntmps89
    go_wp2
    go_ret
    exact ⟨by rw [H.out]; simp; omega, rfl⟩

/-- Whether s begins with p. -/
def begins (s p : ByteArray) : Bool := decide (p.size ≤ s.size) && ((s.extract 0 p.size).toList == p.toList)

theorem beginsWith_any (s p : ByteArray) (w : World) :
    Calls Tryz.prog 81 #[.string s, .string p] w fun e w' => e = .returned (.bool (begins s p)) ∧ w = w' := by
  have hv : begins s p = (decide (p.size ≤ s.size) && ((s.extract 0 p.size).toList == p.toList)) := rfl
  have H := Lib.hid hv; clear hv
  by_cases h : p.size ≤ s.size
  all_goals
    go_enter Tryz.func81, Tryz.ntmps81
    go_wp2
    go_ret
    exact ⟨by rw [H.out]; simp [h], rfl⟩

end Go.Proofs.YtamdlbefiggkfaaGreat.Utf

set_option linter.unusedVariables false
set_option linter.unusedSimpArgs false
namespace Go.Proofs.YtamdlbefiggkfaaGreat.Utf
open Go Go.RowKit Go.Proofs.YtamdlbefiggkfaaGreat.Kit

/-- The number of characters, or -1. -/
def count (l : List UInt8) : Int := match chars l with | none => -1 | some cs => cs.length

theorem enc_mark : enc 65533 = [239, 191, 189] := by decide
theorem mark_toList : ({ data := #[239, 191, 189] } : ByteArray).toList = [239, 191, 189] := by rw [ByteArray.toList_eq]
theorem mark_size : ({ data := #[239, 191, 189] } : ByteArray).size = 3 := rfl
theorem take_extract (s : ByteArray) (pos k : Nat) : ((s.extract pos s.size).extract 0 k).toList = ((bs s).drop pos).take k := by
  rw [ByteArray.toList_eq, Lib.extract_data, Lib.extract_data]
  rw [List.drop_zero, Nat.sub_zero, List.take_of_length_le (l := (bs s).drop pos) (by rw [List.length_drop, bs_len]; omega)]
theorem begins_bad {s : ByteArray} {pos : Nat} (hp : pos < s.size) (h : dec1 ((bs s).drop pos) = none) : begins (s.extract pos s.size) { data := #[239, 191, 189] } = false := by
  rw [Bool.eq_false_iff]
  intro hb
  unfold begins at hb
  simp only [Bool.and_eq_true, decide_eq_true_eq, beq_iff_eq] at hb
  obtain ⟨h1, h2⟩ := hb
  have e1 := take_extract s pos 3
  have h3 : ((bs s).drop pos).take 3 = [239, 191, 189] := by rw [← e1, ← mark_toList]; exact h2
  have h4 : (bs s).drop pos = enc 65533 ++ ((bs s).drop pos).drop 3 := by rw [enc_mark, ← h3, List.take_append_drop]
  rw [h4, dec1_enc 65533 (by decide)] at h
  cases h
theorem begins_good {s : ByteArray} {pos : Nat} {n : Nat} (hp : pos < s.size) (h : dec1 ((bs s).drop pos) = some (65533, n)) : begins (s.extract pos s.size) { data := #[239, 191, 189] } = true := by
  obtain ⟨hv, hn, hl⟩ := dec1_some h
  have e1 := take_extract s pos 3
  have h3 : ((bs s).drop pos).take 3 = [239, 191, 189] := by rw [hl, enc_mark]; rfl
  have h5 : 3 ≤ ((bs s).drop pos).length := by rw [hl, enc_mark]; simp
  rw [List.length_drop, bs_len] at h5
  unfold begins
  simp only [Bool.and_eq_true, decide_eq_true_eq, beq_iff_eq]
  refine ⟨?_, ?_⟩
  · rw [mark_size, ByteArray.size_extract]; omega
  · rw [mark_toList, mark_size, ← h3]; exact e1

set_option maxRecDepth 100000 in
theorem count_any (s : ByteArray) (w : World) (hs : s.size ≤ maxLen) :
    Calls Tryz.prog 63 #[.string s] w fun e w' => e = .returned (.int .i64 (count (bs s))) ∧ Below w.heap.size w w' := by
  unfold maxLen at hs
  go_enter Tryz.func63, Tryz.ntmps63
  go_wp2
  go_loopw [3] (fun n w' => ∃ (pos : Nat) (pre : List Int), w' = w.iter s pos ∧ n = .int .i64 pre.length ∧ pos ≤ s.size ∧ pre.length ≤ pos ∧ chars (bs s) = (chars ((bs s).drop pos)).map (pre ++ ·)) (fun _ w' => s.size - w'.iterPos w.heap.size)
  case atStart => exact ⟨0, [], rfl, rfl, by omega, Nat.le_refl _, by rw [List.drop_zero]; exact map_nil _⟩
  case round =>
    obtain ⟨pos, pre, rfl, rfl, hps, hpl, hc⟩ := hrel
    by_cases hp : pos < s.size
    · cases hd : dec1 ((bs s).drop pos) with
      | none =>
        have hcn : count (bs s) = -1 := by unfold count; rw [hc, chars_bad (drop_ne hp) hd]; rfl
        have hnx : ∀ ty, (Instr.next (.pointer (some ⟨w.heap.size, 0, none⟩)) true ty).run Tryz.prog (w.iter s pos) = .ok (.tuple #[.bool true, .int .i64 pos, .int .i32 65533]) (w.iter s (pos + 1)) := fun ty => by
          have := run_next_any (P := Tryz.prog) w s pos ty hp; rw [dec_bad hp hd] at this; exact this
        have HB := begins_bad hp hd
        have HC := Lib.hid hcn; clear hcn
        clear hc hd
        go_wp2_with (go_at_call 81; refine (beginsWith_any _ _ _).mono ?_; rintro e w' ⟨rfl, rfl⟩)
        go_ret
        exact ⟨by rw [HC.out]; rfl, (Below.refl _ _).alloc (Nat.le_refl _) _⟩
      | some p =>
        obtain ⟨c, n⟩ := p
        have hdp := dec1_pos hd
        rw [List.length_drop, bs_len] at hdp
        have hv := (dec1_some hd).1
        have hvv := (valid_iff c).1 hv
        have hnx : ∀ ty, (Instr.next (.pointer (some ⟨w.heap.size, 0, none⟩)) true ty).run Tryz.prog (w.iter s pos) = .ok (.tuple #[.bool true, .int .i64 pos, .int .i32 c]) (w.iter s (pos + n)) := fun ty => by
          have := run_next_any (P := Tryz.prog) w s pos ty hp; rw [dec_good hp hd] at this; simp only [Int.toNat_of_nonneg (show 0 ≤ c by omega)] at this; exact this
        have hc2 := Lib.hid (runes_len hc hd)
        by_cases h5 : c = 65533
        · subst h5
          have HB := begins_good hp hd
          clear hd hc hv
          go_wp2_with (go_at_call 81; refine (beginsWith_any _ _ _).mono ?_; rintro e w' ⟨rfl, rfl⟩)
          go_roundw
          case rel => exact ⟨pos + n, pre ++ [65533], rfl, by simp, by omega, by simp; omega, hc2.out⟩
          case measure => simp; omega
        · have h5b : (c == 65533) = false := by simpa using h5
          clear hd hc hv
          go_wp2
          go_roundw
          case rel => exact ⟨pos + n, pre ++ [c], rfl, by simp, by omega, by simp; omega, hc2.out⟩
          case measure => simp; omega
    · have hnx : ∀ ty, (Instr.next (.pointer (some ⟨w.heap.size, 0, none⟩)) true ty).run Tryz.prog (w.iter s pos) = _ := fun ty => run_next_end w s pos ty hp
      have hcn : count (bs s) = (pre.length : Int) := by
        unfold count
        rw [hc, List.drop_of_length_le (by rw [bs_len]; omega), chars_nil]; simp
      have HC := Lib.hid hcn; clear hcn hc
      go_wp2
      go_ret
      exact ⟨by rw [HC.out]; rfl, (Below.refl _ _).alloc (Nat.le_refl _) _⟩

end Go.Proofs.YtamdlbefiggkfaaGreat.Utf

set_option linter.unusedVariables false
set_option linter.unusedSimpArgs false
set_option maxRecDepth 100000
namespace Go.Proofs.YtamdlbefiggkfaaGreat.Utf
open Go Go.RowKit Go.Proofs.YtamdlbefiggkfaaGreat.Kit

theorem info_i32 : (Tryz.prog.info? 21).map (fun i => (i.zero, i.size, i.bytes)) = some (some (.int .i32 0), 1, 4) := by kernel_rfl

abbrev ints (cs : List Int) : List Value := cs.map (Value.int .i32)

theorem chars_le {l : List UInt8} {cs : List Int} (h : chars l = some cs) : cs.length ≤ l.length := by
  obtain ⟨h1, h2⟩ := chars_some h
  rw [h2]; exact encs_length_ge h1

theorem count_some {l : List UInt8} {cs : List Int} (h : chars l = some cs) : count l = cs.length := by unfold count; rw [h]
theorem count_none {l : List UInt8} (h : chars l = none) : count l = -1 := by unfold count; rw [h]

theorem runes_bad (s : ByteArray) (w : World) (hs : s.size ≤ 1099511627776) (hc : chars (bs s) = none) :
    Calls Tryz.prog 33 #[.string s] w fun e w' => e = .returned (.tuple #[.slice none 0 0, .bool false]) ∧ Below w.heap.size w w' := by
  have hcn := count_none hc
  go_enter Tryz.func33, Tryz.ntmps33
  go_wp2_with (go_at_call 63; refine (count_any _ _ (by unfold maxLen; omega)).mono ?_; rw [hcn]; rintro e w' ⟨rfl, hb⟩)
  go_ret2
  exact ⟨rfl, hb⟩

theorem runes_good (s : ByteArray) (w : World) (hs : s.size ≤ 1099511627776) (cs : List Int) (hc : chars (bs s) = some cs) :
    Calls Tryz.prog 33 #[.string s] w fun e w' => ∃ v, e = .returned (.tuple #[v, .bool true]) ∧ w'.ownsRow w.heap.size 21 1 v cs.length (ints cs) ∧ v ≠ .slice none 0 0 ∧ Below w.heap.size w w' := by
  have hcn := count_some hc
  have hle := chars_le hc
  rw [bs_len] at hle
  have hc0 := Lib.hid hc; clear hc
  obtain ⟨i0, hi, hz0, hz1, hz2⟩ := info_parts info_i32
  go_enter Tryz.func33, Tryz.ntmps33
  go_wp2_with (first
    | (go_at_call 63; refine (count_any _ _ (by unfold maxLen; omega)).mono ?_; rw [hcn]; rintro e w1 ⟨rfl, hb1⟩)
    | (at_make; refine wpList_make_own _ rfl _ _ _ rfl w.heap.size 21 i0 (.int .i32 0) 1 Tryz.underlying79 hi hz0 hz1 _ _ _ cs.length rfl rfl rfl (by rw [hz2]; omega) (by unfold maxLen; omega) hb1.size ?_; intro w2 hown2 hg2))
  have hb2 := hb1.grown hg2 hb1.size (fun k hk => by cases hk)
  obtain ⟨K, hK⟩ : ∃ K, w2.heap.size = K := ⟨_, rfl⟩
  have hKw : w.heap.size ≤ K := by rw [← hK]; exact hb2.size
  have hit0 : (w2.iter s 0).heap[K]? = some (.stringIter s 0) := by rw [← hK]; exact World.iter_heap w2 s 0
  have hown3 : (w2.iter s 0).ownsRow w.heap.size 21 1 (.slice (some ⟨w1.heap.size, 0, none⟩) 0 cs.length) 0 [] := hown2.alloc _
  have hb3 : Below w.heap.size w (w2.iter s 0) := hb2.alloc hb2.size _
  rw [hK]
  obtain ⟨W, hW⟩ : ∃ W, w2.iter s 0 = W := ⟨_, rfl⟩
  rw [hW] at hit0 hown3 hb3 ⊢
  clear hW hK hown2 hg2 hb1 hb2
  go_loopw [5] (fun l wr => ∃ (pos : Nat) (pre : List Int), wr.ownsRow w.heap.size 21 1 l pre.length (ints pre) ∧ Hid (l ≠ .slice none 0 0) ∧ wr.heap[K]? = some (.stringIter s pos) ∧ Below w.heap.size w wr ∧ pos ≤ s.size ∧ pre.length ≤ pos ∧ chars (bs s) = (chars ((bs s).drop pos)).map (pre ++ ·)) (fun _ wr => s.size - wr.iterPos K)
  case atStart => exact ⟨0, [], hown3, Lib.hid (by simp), hit0, hb3, by omega, Nat.le_refl _, by rw [List.drop_zero]; exact map_nil _⟩
  case round =>
    obtain ⟨pos, pre, hown, hnn, hit, hb, hps, hpl, hc⟩ := hrel
    have hm := iterPos_of hit
    by_cases hp : pos < s.size
    · cases hd : dec1 ((bs s).drop pos) with
      | none => exfalso; rw [hc, chars_bad (drop_ne hp) hd] at hc0; cases hc0.out
      | some p =>
        obtain ⟨c, n⟩ := p
        have hdp := dec1_pos hd
        rw [List.length_drop, bs_len] at hdp
        have hvv := (valid_iff c).1 (dec1_some hd).1
        have hnx : ∀ ty, (Instr.next (.pointer (some ⟨K, 0, none⟩)) true ty).run Tryz.prog wr = .ok (.tuple #[.bool true, .int .i64 pos, .int .i32 c]) (wr.iterAt K s (pos + n)) := fun ty => by
          have := Lib.run_next_any_at (P := Tryz.prog) wr K s pos ty hit hp; rw [dec_good hp hd] at this; simp only [Int.toNat_of_nonneg (show 0 ≤ c by omega)] at this; exact this
        have hown4 := own_iterAt hown hit (pos + n)
        have hit4 := Lib.iterAt_heap wr K s pos (pos + n) hit
        have hb4 := Lib.below_iterAt hb (k := K) hKw s (pos + n)
        have hc2 := Lib.hid (runes_len hc hd)
        obtain ⟨W4, hW4⟩ : ∃ W4, wr.iterAt K s (pos + n) = W4 := ⟨_, rfl⟩
        rw [hW4] at hown4 hit4 hb4
        simp only [hW4] at hnx
        clear hd hc hown hit hb hW4
        go_wp2_with (at_builtin; refine wpList_append_own _ rfl _ _ _ rfl w.heap.size 21 i0 (.int .i32 0) 1 4 Tryz.underlying79 hi hz0 hz1 hz2 rfl (by decide) _ pre.length (ints pre) rfl (hown4.alloc _) ⟨W4.heap.size, 0, none⟩ 1 1 [.int .i32 c] rfl rfl (cell_one_new _ _ _) ?c2 ?c3 ?c4 ?c5 ?_)
        case c2 => simp [Value.oneCell']
        case c3 => unfold maxLen; omega
        case c4 => omega
        case c5 => have := hb4.size; simp; omega
        intro v' w5 hown5 hg5 hiff
        have hnn5 : Hid (v' ≠ .slice none 0 0) := by first | exact hiff | exact fun h => hnn.out (hiff.1 h).1
        clear hiff
        have hit5 := iter_grown (hown4.alloc _) (iter_alloc hit4 _) hg5
        have hb5 := below_own (hb4.alloc hb4.size _) (hown4.alloc _) (Nat.le_refl _) (by have := hb4.size; simp; omega) hg5
        have hown6 : w5.ownsRow w.heap.size 21 1 v' (pre ++ [c]).length (ints (pre ++ [c])) := by simpa using hown5
        clear hown5 hg5 hit4 hb4 hown4 hnx
        go_wp2
        go_roundw
        case rel => exact ⟨pos + n, pre ++ [c], hown6, hnn5, hit5, hb5, by omega, by simp; omega, hc2.out⟩
        case measure => rw [iterPos_of hit5, hm]; omega
    · have hnx : ∀ ty, (Instr.next (.pointer (some ⟨K, 0, none⟩)) true ty).run Tryz.prog wr = _ := fun ty => Lib.run_next_end_at (P := Tryz.prog) wr K s pos ty hit hp
      have hpre : pre = cs := by
        have h0 := hc0.out
        rw [hc, List.drop_of_length_le (by rw [bs_len]; omega), chars_nil] at h0
        simpa using h0
      subst hpre
      clear hc hm
      go_wp2
      go_ret2
      exact ⟨_, rfl, hown, hnn.out, hb⟩

end Go.Proofs.YtamdlbefiggkfaaGreat.Utf

set_option linter.unusedVariables false
set_option linter.unusedSimpArgs false
set_option maxRecDepth 100000
namespace Go.Proofs.YtamdlbefiggkfaaGreat.Utf
open Go Go.RowKit Go.Proofs.YtamdlbefiggkfaaGreat.Kit

theorem foldl_bytes (ns : List Int) : ∀ r : ByteArray, (ns.foldl (fun r n => r ++ Utf8.encode n) r).data.toList = r.data.toList ++ encs ns := by
  induction ns with
  | nil => intro r; simp [encs]
  | cons n ns ih =>
    intro r
    rw [List.foldl_cons, ih, encs_cons, ← List.append_assoc, ByteArray.data_append, Array.toList_append]; rfl
theorem runesBytes_bytes (ns : List Int) : (runesBytes ns).data.toList = encs ns := by
  unfold runesBytes; rw [foldl_bytes]; simp

/-- The string of the characters among some numbers. -/
def textB (l : List Int) : ByteArray := runesBytes (l.filter validRune)
theorem textB_bytes (l : List Int) : bs (textB l) = encs (l.filter validRune) := runesBytes_bytes _
theorem conv_own {w : World} {base : Nat} {v : Value} {n : Nat} {cs : List Int} (h : w.ownsRow base 21 1 v n (ints cs)) :
    (convert 79 9 v).run Tryz.prog w = .ok (.string (runesBytes cs)) w := by
  have hn := own_lt h
  rw [List.length_map] at hn
  rcases h.2 with ⟨rfl, h0⟩ | ⟨g, cap, cur, rfl, hb, hg, hnc, hcm, hcs, htake⟩
  · have : cs = [] := List.eq_nil_of_length_eq_zero (by omega)
    subst this
    exact run_convert_runes_nil w _ _ _ 0 0 Tryz.underlying79 Tryz.underlying21 Tryz.underlying9
  · have := run_convert_runes (P := Tryz.prog) w 79 9 21 ⟨g, 0, none⟩ n cap cs (by omega) Tryz.underlying79 Tryz.underlying21 Tryz.underlying9 (fun j hj => by
      have := h.cells (g := g) rfl j (.int .i32 (cs.getD j 0)) (by rw [List.getElem?_map, List.getElem?_eq_getElem hj]; simp [List.getElem?_eq_getElem hj])
      exact this)
    rw [this, List.take_of_length_le (by omega)]

theorem filter_take (l : List Int) (k : Nat) (h : k < l.length) : (l.take (k + 1)).filter validRune = (l.take k).filter validRune ++ (if validRune l[k] then [l[k]] else []) := by
  rw [List.take_succ_eq_append_getElem h, List.filter_append]
  congr 1
  by_cases hv : validRune l[k] <;> simp [hv]

theorem filter_le (l : List Int) (k : Nat) : ((l.take k).filter validRune).length ≤ k := by
  have h1 := List.length_filter_le validRune (l.take k)
  have h2 := List.length_take_le k l
  omega

end Go.Proofs.YtamdlbefiggkfaaGreat.Utf

set_option linter.unusedVariables false
set_option linter.unusedSimpArgs false
set_option maxRecDepth 100000
namespace Go.Proofs.YtamdlbefiggkfaaGreat.Utf
open Go Go.RowKit Go.Proofs.YtamdlbefiggkfaaGreat.Kit

/-- utf.Runes of a valid string, its result taken apart. -/
theorem runes_some (s : ByteArray) (w : World) (hs : s.size ≤ 274877906944) (cs : List Int) (hc : chars (bs s) = some cs) :
    Calls Tryz.prog 33 #[.string s] w fun e w' => ∃ g cap, e = .returned (.tuple #[.slice (some ⟨g, 0, none⟩) cs.length cap, .bool true]) ∧ w'.ownsRow w.heap.size 21 1 (.slice (some ⟨g, 0, none⟩) cs.length cap) cs.length (ints cs) ∧ cs.length ≤ cap ∧ Below w.heap.size w w' := by
  refine (runes_good s w (by omega) cs hc).mono ?_
  rintro e w' ⟨v, rfl, hown, hnn, hb⟩
  rcases hown.2 with ⟨rfl, h0⟩ | ⟨g, cap, cur, rfl, hbg, hg, hnc, hrest⟩
  · exact absurd rfl hnn
  · exact ⟨g, cap, rfl, hown, hnc, hb⟩

theorem runes_slice (s : ByteArray) (w : World) (hs : s.size ≤ 274877906944) (cs : List Int) (hc : chars (bs s) = some cs) :
    Calls Tryz.prog 33 #[.string s] w fun e w' => ∃ a cap, e = .returned (.tuple #[.slice a cs.length cap, .bool true]) ∧ w'.ownsRow w.heap.size 21 1 (.slice a cs.length cap) cs.length (ints cs) ∧ cs.length ≤ cap ∧ Below w.heap.size w w' := by
  refine (runes_some s w hs cs hc).mono ?_
  rintro e w' ⟨g, cap, rfl, hown, hlc, hb⟩
  exact ⟨_, cap, rfl, hown, hlc, hb⟩

end Go.Proofs.YtamdlbefiggkfaaGreat.Utf

set_option linter.unusedVariables false
set_option linter.unusedSimpArgs false
namespace Go.Proofs.YtamdlbefiggkfaaGreat.Utf
open Go

/-- How many bytes a code has by its first byte, and the bits of the character in it. -/
def lead (b : Nat) : Nat × Nat := if b < 128 then (1, b) else if 192 ≤ b ∧ b < 224 then (2, b - 192) else if 224 ≤ b ∧ b < 240 then (3, b - 224) else if 240 ≤ b ∧ b < 248 then (4, b - 240) else (0, 0)

/-- The bits of the first bytes. -/
def acc (l : List UInt8) (c0 : Nat) : Nat → Nat
  | 0 => c0
  | k + 1 => 64 * acc l c0 k + (bt l (k + 1) - 128)
def isCont (l : List UInt8) (k : Nat) : Prop := k < l.length ∧ 128 ≤ bt l k ∧ bt l k ≤ 191
def least (n : Nat) : Nat := if n ≤ 1 then 0 else if n = 2 then 128 else if n = 3 then 2048 else 65536

theorem lead_cases (b n c0 : Nat) (h : lead b = (n, c0)) : (n = 1 ∧ b < 128 ∧ c0 = b) ∨ (n = 2 ∧ 192 ≤ b ∧ b < 224 ∧ c0 = b - 192) ∨ (n = 3 ∧ 224 ≤ b ∧ b < 240 ∧ c0 = b - 224) ∨ (n = 4 ∧ 240 ≤ b ∧ b < 248 ∧ c0 = b - 240) ∨ (n = 0 ∧ c0 = 0 ∧ ((128 ≤ b ∧ b < 192) ∨ 248 ≤ b)) := by
  unfold lead at h
  split at h
  · obtain ⟨h1, h2⟩ := Prod.mk.inj h; left; omega
  · split at h
    · obtain ⟨h1, h2⟩ := Prod.mk.inj h; right; left; omega
    · split at h
      · obtain ⟨h1, h2⟩ := Prod.mk.inj h; right; right; left; omega
      · split at h
        · obtain ⟨h1, h2⟩ := Prod.mk.inj h; right; right; right; left; omega
        · obtain ⟨h1, h2⟩ := Prod.mk.inj h; right; right; right; right; omega

theorem acc_lt (l : List UInt8) (n c0 : Nat) (h : lead (bt l 0) = (n, c0)) (i : Nat) (hi : i < n) : acc l c0 i < 4194304 := by
  have s : ∀ k, acc l c0 (k + 1) ≤ 64 * acc l c0 k + 127 := by
    intro k
    have := bt_lt l (k + 1)
    show 64 * acc l c0 k + (bt l (k + 1) - 128) ≤ _
    omega
  have s0 : acc l c0 1 ≤ 64 * acc l c0 0 + 127 := s 0
  have s1 : acc l c0 2 ≤ 64 * acc l c0 1 + 127 := s 1
  have s2 : acc l c0 3 ≤ 64 * acc l c0 2 + 127 := s 2
  have a0 : acc l c0 0 = c0 := rfl
  obtain rfl | rfl | rfl | rfl | h4 : i = 0 ∨ i = 1 ∨ i = 2 ∨ i = 3 ∨ 4 ≤ i := by omega
  all_goals
    rcases lead_cases _ _ _ h with ⟨rfl, _, _⟩ | ⟨rfl, _, _, _⟩ | ⟨rfl, _, _, _⟩ | ⟨rfl, _, _, _⟩ | ⟨rfl, _, _⟩ <;> omega

theorem dec1_none_of {l : List UInt8} (h : l = [] ∨ decL l = (65533, 1)) : dec1 l = none := by
  unfold dec1
  rcases h with h | h
  · rw [if_pos h]
  · by_cases hl : l = []
    · rw [if_pos hl]
    · rw [if_neg hl, if_pos h]

theorem cont_iff (l : List UInt8) (k : Nat) : (decide (k < l.length) && bt l k / 64 == 2) = true ↔ isCont l k := by
  have := bt_lt l k
  unfold isCont
  simp only [Bool.and_eq_true, decide_eq_true_eq, beq_iff_eq]
  omega

/-- No code begins with such a byte. -/
theorem dec1_lead0 {l : List UInt8} {c0 : Nat} (h : lead (bt l 0) = (0, c0)) : dec1 l = none := by
  apply dec1_none_of
  right
  have q0 := bt_lt l 0
  rcases lead_cases _ _ _ h with ⟨h0, _⟩ | ⟨h0, _⟩ | ⟨h0, _⟩ | ⟨h0, _⟩ | ⟨_, _, h1⟩ <;> first | omega | skip
  simp only [decL]
  rw [if_neg (by omega), if_neg (by simp; omega), if_neg (by simp; omega), if_neg (by simp; omega)]

/-- A byte that should follow is not there, or is none that follows. -/
theorem dec1_nocont {l : List UInt8} {n c0 i : Nat} (h : lead (bt l 0) = (n, c0)) (h1 : 1 ≤ i) (hi : i < n) (hc : ¬ isCont l i) : dec1 l = none := by
  apply dec1_none_of
  right
  have q0 := bt_lt l 0
  have hc' : (decide (i < l.length) && bt l i / 64 == 2) = false := by
    rw [Bool.eq_false_iff]; intro e; exact hc ((cont_iff l i).1 e)
  rcases lead_cases _ _ _ h with ⟨rfl, _, _⟩ | ⟨rfl, _, _, _⟩ | ⟨rfl, _, _, _⟩ | ⟨rfl, _, _, _⟩ | ⟨rfl, _, _⟩
  · omega
  · obtain rfl : i = 1 := by omega
    simp only [decL, hc']
    rw [if_neg (by omega), if_neg (by simp), if_neg (by simp), if_neg (by simp)]
  · obtain rfl | rfl : i = 1 ∨ i = 2 := by omega
    all_goals
      simp only [decL, hc']
      rw [if_neg (by omega), if_neg (by simp <;> omega), if_neg (by simp), if_neg (by simp)]
  · obtain rfl | rfl | rfl : i = 1 ∨ i = 2 ∨ i = 3 := by omega
    all_goals
      simp only [decL, hc']
      rw [if_neg (by omega), if_neg (by simp <;> omega), if_neg (by simp <;> omega), if_neg (by simp)]
  · omega

theorem dec1_short {l : List UInt8} {n c0 : Nat} (h : lead (bt l 0) = (n, c0)) (hl : 0 < l.length) (hn : l.length < n) : dec1 l = none :=
  dec1_nocont h (i := l.length) hl hn (fun hc => by have := hc.1; omega)

theorem dec1_conts {l : List UInt8} {n c0 : Nat} (h : lead (bt l 0) = (n, c0)) (hn0 : n ≠ 0) (hn : n ≤ l.length) (hc : ∀ i, 1 ≤ i → i < n → isCont l i) :
    dec1 l = if acc l c0 (n - 1) < least n ∨ validRune ((acc l c0 (n - 1) : Nat) : Int) = false then none else some (((acc l c0 (n - 1) : Nat) : Int), n) := by
  have q0 := bt_lt l 0
  have hne : l ≠ [] := by intro e; subst e; simp at hn; omega
  rcases lead_cases _ _ _ h with ⟨rfl, h1, e0⟩ | ⟨rfl, h1, h2, e0⟩ | ⟨rfl, h1, h2, e0⟩ | ⟨rfl, h1, h2, e0⟩ | ⟨rfl, _, _⟩
  · have hv : validRune ((bt l 0 : Nat) : Int) = true := (valid_iff _).2 (by omega)
    have hd : decL l = (bt l 0, 1) := by simp only [decL]; rw [if_pos (by omega)]
    have ha : acc l c0 (1 - 1) = bt l 0 := e0
    rw [ha, if_neg (by simp [least, hv])]
    unfold dec1
    rw [if_neg hne, hd, if_neg (by intro e; have := (Prod.mk.inj e).1; omega)]
  · have c1 := hc 1 (by omega) (by omega)
    have d1 := (cont_iff l 1).2 c1
    have g1 := c1.2
    have ha : acc l c0 (2 - 1) = bt l 0 % 32 * 64 + bt l 1 % 64 := by show 64 * c0 + (bt l 1 - 128) = _; omega
    rw [ha]
    have hv : validRune ((bt l 0 % 32 * 64 + bt l 1 % 64 : Nat) : Int) = true := (valid_iff _).2 (by omega)
    obtain ⟨c, hcc⟩ : ∃ c, bt l 0 % 32 * 64 + bt l 1 % 64 = c := ⟨_, rfl⟩
    have hd : decL l = if 128 ≤ c then (c, 2) else (65533, 1) := by
      simp only [decL]
      rw [if_neg (by omega), if_pos (by rw [d1]; simp; omega), hcc]
    rw [hcc] at hv ⊢
    unfold dec1
    rw [if_neg hne, hd]
    by_cases hk : 128 ≤ c
    · rw [if_pos hk, if_neg (by intro e; have := (Prod.mk.inj e).2; omega), if_neg (by simp [least, hv]; omega)]
    · rw [if_neg hk, if_pos rfl, if_pos (by simp [least]; omega)]
  · have c1 := hc 1 (by omega) (by omega)
    have c2 := hc 2 (by omega) (by omega)
    have d1 := (cont_iff l 1).2 c1
    have d2 := (cont_iff l 2).2 c2
    have g1 := c1.2
    have g2 := c2.2
    have ha : acc l c0 (3 - 1) = bt l 0 % 16 * 4096 + bt l 1 % 64 * 64 + bt l 2 % 64 := by show 64 * (64 * c0 + (bt l 1 - 128)) + (bt l 2 - 128) = _; omega
    rw [ha]
    obtain ⟨c, hcc⟩ : ∃ c, bt l 0 % 16 * 4096 + bt l 1 % 64 * 64 + bt l 2 % 64 = c := ⟨_, rfl⟩
    have hd : decL l = if 2048 ≤ c ∧ validRune (c : Int) = true then (c, 3) else (65533, 1) := by
      simp only [decL]
      rw [if_neg (by omega), if_neg (by simp; omega), if_pos (by rw [d1, d2]; simp; omega), hcc, validRune_eq]
      simp only [Bool.and_eq_true, decide_eq_true_eq, ge_iff_le]
    rw [hcc]
    unfold dec1
    rw [if_neg hne, hd]
    by_cases hk : 2048 ≤ c ∧ validRune (c : Int) = true
    · rw [if_pos hk, if_neg (by intro e; have := (Prod.mk.inj e).2; omega), if_neg (by simp [least, hk.2]; omega)]
    · rw [if_neg hk, if_pos rfl, if_pos (by
        by_cases hv : validRune (c : Int) = true
        · left; simp [least]; simp [hv] at hk; omega
        · right; simpa using hv)]
  · have c1 := hc 1 (by omega) (by omega)
    have c2 := hc 2 (by omega) (by omega)
    have c3 := hc 3 (by omega) (by omega)
    have d1 := (cont_iff l 1).2 c1
    have d2 := (cont_iff l 2).2 c2
    have d3 := (cont_iff l 3).2 c3
    have g1 := c1.2
    have g2 := c2.2
    have g3 := c3.2
    have ha : acc l c0 (4 - 1) = bt l 0 % 8 * 262144 + bt l 1 % 64 * 4096 + bt l 2 % 64 * 64 + bt l 3 % 64 := by show 64 * (64 * (64 * c0 + (bt l 1 - 128)) + (bt l 2 - 128)) + (bt l 3 - 128) = _; omega
    rw [ha]
    obtain ⟨c, hcc⟩ : ∃ c, bt l 0 % 8 * 262144 + bt l 1 % 64 * 4096 + bt l 2 % 64 * 64 + bt l 3 % 64 = c := ⟨_, rfl⟩
    have hd : decL l = if 65536 ≤ c ∧ validRune (c : Int) = true then (c, 4) else (65533, 1) := by
      simp only [decL]
      rw [if_neg (by omega), if_neg (by simp; omega), if_neg (by simp; omega), if_pos (by rw [d1, d2, d3]; simp; omega), hcc, validRune_eq]
      simp only [Bool.and_eq_true, decide_eq_true_eq, ge_iff_le]
    rw [hcc]
    unfold dec1
    rw [if_neg hne, hd]
    by_cases hk : 65536 ≤ c ∧ validRune (c : Int) = true
    · rw [if_pos hk, if_neg (by intro e; have := (Prod.mk.inj e).2; omega), if_neg (by simp [least, hk.2]; omega)]
    · rw [if_neg hk, if_pos rfl, if_pos (by
        by_cases hv : validRune (c : Int) = true
        · left; simp [least]; simp [hv] at hk; omega
        · right; simpa using hv)]
  · omega

end Go.Proofs.YtamdlbefiggkfaaGreat.Utf

set_option linter.unusedVariables false
set_option linter.unusedSimpArgs false
namespace Go.Proofs.YtamdlbefiggkfaaGreat.Utf
open Go Go.RowKit Go.Proofs.YtamdlbefiggkfaaGreat.Kit

theorem ret_len {a b c d : Int} (h1 : a = b) (h2 : c = d) : Ending.returned (.tuple #[.int .i64 a, .int .i32 c]) = .returned (.tuple #[.int .i64 b, .int .i32 d]) := by rw [h1, h2]

set_option maxRecDepth 100000 in
theorem length_any (b : UInt8) (w : World) :
    Calls Tryz.prog 88 #[.int .u8 b.toNat] w fun e w' => e = .returned (.tuple #[.int .i64 (lead b.toNat).1, .int .i32 (lead b.toNat).2]) ∧ w = w' := by
  have hb := b.toNat_lt
  obtain ⟨n, hn⟩ : ∃ n, b.toNat = n := ⟨_, rfl⟩
  rw [hn] at hb ⊢
  clear hn
  have hl : lead n = if n < 128 then (1, n) else if 192 ≤ n ∧ n < 224 then (2, n - 192) else if 224 ≤ n ∧ n < 240 then (3, n - 224) else if 240 ≤ n ∧ n < 248 then (4, n - 240) else (0, 0) := rfl
  have H := Lib.hid hl; clear hl
  by_cases h1 : n < 128 <;> by_cases h2 : 192 ≤ n <;> by_cases h3 : n < 224 <;> by_cases h4 : 224 ≤ n <;> by_cases h5 : n < 240 <;> by_cases h6 : 240 ≤ n <;> by_cases h7 : n < 248 <;> first | (exfalso; omega) | skip
  all_goals
    go_enter Tryz.func88, Tryz.ntmps88
    go_wp2
    go_ret2
    refine ⟨ret_len ?_ ?_, rfl⟩ <;> rw [H.out] <;> repeat (first | rw [if_pos (by omega)] | rw [if_neg (by omega)])
    all_goals (first | rfl | (show _ = ((n - _ : Nat) : Int); omega))

end Go.Proofs.YtamdlbefiggkfaaGreat.Utf
