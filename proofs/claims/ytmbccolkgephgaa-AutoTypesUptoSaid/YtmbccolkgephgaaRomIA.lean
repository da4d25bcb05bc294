/-
  strings.IndexRune over the marks that are kana, whatever the character.
-/
import Derived.Test.YtmbccolkgephgaaRomA
import Derived.WalkMore
import Derived.ScopeJumps
set_option linter.unusedVariables false
set_option linter.unusedSimpArgs false
namespace Go.Proofs.Ytmbccolkgephgaa.Rom
open Go Go.RowKit Go.Proofs.Ytmbccolkgephgaa.Kit Go.Proofs.Ytmbccolkgephgaa.Utf

theorem wp_scope_forward {P : Program} {a : Act} {w : World} {Q : Exit → Act → World → Prop} {c rest : Code} (l : Nat) (hf : findLabel c l = some rest)
    (first : c.wp P (Exit.jump l (fun a w => rest.wp P (Exit.noGoto Q) a w) Q) a w) : (Code.scope c).wp P Q a w :=
  wp_scope_jumps l (fun a w => rest.wp P (Exit.noGoto Q) a w) (fun _ _ => 0) hf first (fun a w h => wp_mono h (fun e a w hq => by cases e <;> first | exact hq | exact hq.elim))

theorem below_drews {B : Nat} {w w' : World} (h : Below B w w') (n : Nat) : Below B w (w'.drewN n) := h.trans ⟨rfl, rfl, rfl, Nat.le_refl _, fun _ _ => rfl⟩
theorem jump_ret {l : Nat} {J : Act → World → Prop} {Q : Exit → Act → World → Prop} {a : Act} {w : World} : Exit.jump l J Q Exit.ret a w ↔ Q Exit.ret a w := Iff.rfl
theorem jump_goto {l : Nat} {J : Act → World → Prop} {Q : Exit → Act → World → Prop} {a : Act} {w : World} : Exit.jump l J Q (Exit.goto l) a w ↔ J a w := ⟨fun h => h.2, fun h => ⟨rfl, h⟩⟩
def sepL : List UInt8 := [227, 131, 188, 227, 128, 129, 227, 128, 130]
def sb (i : Nat) : Int := ((sepL.getD i 0).toNat : Int)
theorem ib_at (s : ByteArray) (c : Int) (w : World) (v : Int) (hv : Lib.indexByte s.data.toList c.toNat.toUInt8 = v) :
    Calls Try.prog 75 #[.string s, .int .u8 c] w fun e w' => e = .returned (.int .i64 v) ∧ w' = w := by
  rw [← hv]
  exact Try.strings_IndexByte s c w
theorem sb_at (i : Nat) (h : i < 9) (w : World) : (Instr.index 9 (.string { data := #[227, 131, 188, 227, 128, 129, 227, 128, 130] }) (.int .i64 i)).run Try.prog w = .ok (.int .u8 (sb i)) w := by
  have : i = 0 ∨ i = 1 ∨ i = 2 ∨ i = 3 ∨ i = 4 ∨ i = 5 ∨ i = 6 ∨ i = 7 ∨ i = 8 := by omega
  rcases this with rfl | rfl | rfl | rfl | rfl | rfl | rfl | rfl | rfl <;> (show _ = _; kernel_rfl)
/-- How many of the first k bytes are z. -/
def cn (z : Int) (k : Nat) : Nat := ((List.range k).filter fun j => decide (sb j = z)).length
theorem cn_succ (z : Int) (k : Nat) : cn z (k + 1) = cn z k + if sb k = z then 1 else 0 := by
  unfold cn
  rw [List.range_succ, List.filter_append, List.length_append]
  congr 1
  by_cases h : sb k = z <;> simp [h]
theorem cn_mono (z : Int) {a b : Nat} (h : a ≤ b) : cn z a ≤ cn z b := by
  induction b with
  | zero => rw [show a = 0 by omega]; exact Nat.le_refl _
  | succ b ih =>
    rcases Nat.lt_or_ge b a with h1 | h1
    · rw [show a = b + 1 by omega]; exact Nat.le_refl _
    · have := ih h1; rw [cn_succ]; omega
theorem cn_all : ∀ z, z < 192 → 128 ≤ z → cn ((z : Nat) : Int) 9 ≤ 2 := by decide +kernel
theorem cn_le (z : Int) (h0 : 128 ≤ z) (h1 : z < 192) (k : Nat) (hk : k ≤ 9) : cn z k ≤ 2 := by
  obtain ⟨n, rfl⟩ : ∃ n : Nat, z = n := ⟨z.toNat, by omega⟩
  exact Nat.le_trans (cn_mono _ hk) (cn_all n (by omega) (by omega))
/-- The next place of a byte behind k. -/
def nxt (k : Nat) (z : Nat) : Option Nat := (List.range 9).find? fun j => decide (k < j ∧ sb j = z)
def nxtV (k : Nat) (z : Nat) : Int := match nxt k z with | none => -1 | some j => (j : Int) - (k + 1)
theorem nxt_is : ∀ k, k < 9 → ∀ z, z < 256 → Lib.indexByte (sepL.drop (k + 1)) z.toUInt8 = nxtV k z := by decide +kernel

theorem ext_bytes (k : Nat) (h : k < 9) : (({ data := #[227, 131, 188, 227, 128, 129, 227, 128, 130] } : ByteArray).extract (k + 1) 9).data.toList = sepL.drop (k + 1) := by
  have : k = 0 ∨ k = 1 ∨ k = 2 ∨ k = 3 ∨ k = 4 ∨ k = 5 ∨ k = 6 ∨ k = 7 ∨ k = 8 := by omega
  rcases this with rfl | rfl | rfl | rfl | rfl | rfl | rfl | rfl | rfl <;> decide +kernel
theorem ib_is (k : Nat) (hk : k < 9) (z : Int) (z0 : 128 ≤ z) (z1 : z < 192) : Lib.indexByte (({ data := #[227, 131, 188, 227, 128, 129, 227, 128, 130] } : ByteArray).extract (k + 1) 9).data.toList z.toNat.toUInt8 = nxtV k z.toNat := by
  rw [ext_bytes k hk]
  exact nxt_is k hk z.toNat (by omega)
theorem ib_none (k : Nat) (hk : k < 9) (z : Int) (z0 : 128 ≤ z) (z1 : z < 192) (h : ∀ j, k < j → j < 9 → sb j ≠ z) : Lib.indexByte (({ data := #[227, 131, 188, 227, 128, 129, 227, 128, 130] } : ByteArray).extract (k + 1) 9).data.toList z.toNat.toUInt8 = -1 := by
  rw [ib_is k hk z z0 z1]
  unfold nxtV
  cases hn : nxt k z.toNat with
  | none => rfl
  | some j =>
    have h1 := List.find?_some hn
    have h2 := List.mem_range.1 (List.mem_of_find?_eq_some hn)
    simp only [decide_eq_true_eq] at h1
    exact absurd (by rw [h1.2]; omega) (h j h1.1 h2)
/-- .. and it is the first one. -/
theorem ib_some (k : Nat) (hk : k < 9) (z : Int) (z0 : 128 ≤ z) (z1 : z < 192) (h : ¬ ∀ j, k < j → j < 9 → sb j ≠ z) : ∃ j, k < j ∧ j < 9 ∧ sb j = z ∧ (∀ i, k < i → i < j → sb i ≠ z) ∧ Lib.indexByte (({ data := #[227, 131, 188, 227, 128, 129, 227, 128, 130] } : ByteArray).extract (k + 1) 9).data.toList z.toNat.toUInt8 = (j : Int) - (k + 1) := by
  rw [ib_is k hk z z0 z1]
  unfold nxtV
  cases hn : nxt k z.toNat with
  | none =>
    exfalso
    apply h
    intro j h1 h2 e
    have := List.find?_eq_none.1 hn j (List.mem_range.2 h2)
    apply this
    simp only [decide_eq_true_eq]
    exact ⟨h1, by rw [e]; omega⟩
  | some j =>
    have h1 := List.find?_some hn
    have h2 := List.mem_range.1 (List.mem_of_find?_eq_some hn)
    simp only [decide_eq_true_eq] at h1
    refine ⟨j, h1.1, h2, by rw [h1.2]; omega, fun i hi hij e => ?_, rfl⟩
    have h3 := (List.find?_range_eq_some.1 hn).2.2 i hij
    simp only [Bool.not_eq_true', decide_eq_false_iff_not] at h3
    exact h3 ⟨hi, by rw [e]; omega⟩

/-- A rune's bytes, the last one at place l. -/
structure RB (R : ByteArray) (l : Nat) (rb : Nat → Int) : Prop where
  size : R.size = l + 1
  l1 : 1 ≤ l
  l3 : l ≤ 3
  at_ : ∀ j, j ≤ l → ∀ w : World, (Instr.index 9 (.string R) (.int .i64 j)).run Try.prog w = .ok (.int .u8 (rb j)) w
  z0 : 128 ≤ rb l
  z1 : rb l < 192

def Occ (l : Nat) (rb : Nat → Int) : Prop := ∃ p, p + l < 9 ∧ ∀ j, j ≤ l → sb (p + j) = rb j
/-- None that ends before place k. -/
def NoOcc (l : Nat) (rb : Nat → Int) (k : Nat) : Prop := ∀ p, p + l < k → ¬ ∀ j, j ≤ l → sb (p + j) = rb j
theorem NoOcc.all {l : Nat} {rb : Nat → Int} (h : NoOcc l rb 9) : ¬ Occ l rb := fun ⟨p, h1, h2⟩ => h p h1 h2
theorem NoOcc.step {l : Nat} {rb : Nat → Int} {k : Nat} (h : NoOcc l rb k) (hk : ∀ p, p + l = k → ¬ ∀ j, j ≤ l → sb (p + j) = rb j) : NoOcc l rb (k + 1) := fun p hp => by
  rcases Nat.lt_or_ge (p + l) k with h1 | h1
  · exact h p h1
  · exact hk p (by omega)
theorem NoOcc.skip {l : Nat} {rb : Nat → Int} {k g : Nat} (h : NoOcc l rb k) (hg : ∀ i, k ≤ i → i < g → sb i ≠ rb l) : NoOcc l rb g := fun p hp ho => by
  rcases Nat.lt_or_ge (p + l) k with h1 | h1
  · exact h p h1 ho
  · exact hg (p + l) h1 hp (ho l (Nat.le_refl _))

set_option maxRecDepth 100000 in
set_option maxHeartbeats 8000000 in
theorem ir_at (r : Int) (R : ByteArray) (l : Nat) (rb : Nat → Int) (g1 : 128 ≤ r) (h2 : (r == 65533) = false) (hvr : Lib.validRune r = true) (hE : Utf8.encode r = R) (hb : RB R l rb) (w : World) :
    Calls Try.prog 81 #[.string { data := #[227, 131, 188, 227, 128, 129, 227, 128, 130] }, .int .i32 r] w fun e w' => ∃ v, e = .returned (.int .i64 v) ∧ (0 ≤ v ↔ Occ l rb) ∧ Below w.heap.size w w' := by
  have HV := Lib.hid (Try.utf8_ValidRune r)
  rw [hvr] at HV
  have t1 : decide ((0 : Int) ≤ r) = true := by simp; omega
  have t2 : decide (r < 128) = false := by simp; omega
  have hs := hb.size
  have l1 := hb.l1
  have l3 := hb.l3
  have HB := Lib.hid hb
  obtain ⟨z, hz⟩ : ∃ z, rb l = z := ⟨_, rfl⟩
  have z0 : 128 ≤ z := by rw [← hz]; exact hb.z0
  have z1 : z < 192 := by rw [← hz]; exact hb.z1
  have HZ := Lib.hid hz
  clear hvr g1 hb hz
  go_enter Try.func81, Try.ntmps81
  go_wp2_with (first
    | (go_at_call 84; (with_reducible refine (HV.out _).mono ?_); rintro e w1 ⟨rfl, hw1⟩; obtain rfl := hw1.symm))
  go_step3
  go_wp2
  clear HV t1 t2 h2
  go_loopw [9, 10] (fun i f wr => ∃ (k : Nat) (q : Int), i = .int .i64 k ∧ l ≤ k ∧ k ≤ 9 ∧ f = .int .i64 q ∧ 0 ≤ q ∧ q ≤ cn z k ∧ NoOcc l rb k ∧ Below w.heap.size w wr) (fun i _ _ => 9 - (intOf i).toNat)
  case atStart => exact ⟨l, 0, rfl, Nat.le_refl _, by omega, rfl, by omega, by omega, fun p hp => by omega, Below.refl _ _⟩
  case round =>
    obtain ⟨k, q, rfl, hk0, hk, rfl, hq0, hqc, hno, hbel⟩ := hrel
    by_cases hk11 : k < 9
    · have hxk := sb_at k hk11
      have hxz := HB.out.at_ l (Nat.le_refl _)
      rw [HZ.out] at hxz
      have k0 : (0 : Int) ≤ k := by omega
      have k1 : (k : Int) < 9 := by omega
      have j0 : (0 : Int) ≤ l := by omega
      have HN := Lib.hid hno
      obtain ⟨wo, hwo⟩ : ∃ wo, wo = wr := ⟨_, rfl⟩
      subst hwo
      by_cases hA : sb k = z
      · have hne : (sb k != z) = false := by simpa using hA
        have HA := Lib.hid hA
        have hq1 : q ≤ 1 := by
          have e1 := cn_le z z0 z1 (k + 1) (by omega)
          rw [cn_succ, if_pos hA] at e1
          omega
        have HC := Lib.hid (show q + 1 ≤ cn z (k + 1) from by rw [cn_succ, if_pos hA]; omega)
        have HNG := HN
        clear hA hqc hno
        go_wp2
        refine wp_scope_forward 0 rfl ?_
        go_wp2
        go_quiet (fail)
        have hb2 := below_drews hbel nq
        obtain ⟨W, hW⟩ : ∃ W, wo.drewN nq = W := ⟨_, rfl⟩
        rw [hW] at hb2 ⊢
        clear hW
        go_wp2
        go_loopw [12] (fun jv wr => ∃ j : Nat, jv = .int .i64 j ∧ 1 ≤ j ∧ j ≤ l + 1 ∧ Hid (∀ i, i < j → sb (k - i) = rb (l - i)) ∧ Below w.heap.size w wr) (fun jv _ => l + 1 - (intOf jv).toNat)
        case atStart => exact ⟨1, rfl, Nat.le_refl _, by omega, Lib.hid (fun i hi => by rw [show i = 0 by omega]; exact HA.out.trans HZ.out.symm), hb2⟩
        case round =>
          obtain ⟨j, rfl, hj1, hjk, hall, hb3⟩ := hrel
          by_cases hj : j < l + 1
          · have hy := sb_at (k - j) (by omega)
            have hyz := HB.out.at_ (l - j) (by omega)
            have hcast : ((k - j : Nat) : Int) = (k : Int) - j := by omega
            have hcast2 : ((l - j : Nat) : Int) = (l : Int) - j := by omega
            rw [hcast] at hy
            rw [hcast2] at hyz
            have y0 : (0 : Int) ≤ (k : Int) - j := by omega
            have y1 : (k : Int) - j < 9 := by omega
            have y3 : (0 : Int) ≤ (l : Int) - j := by omega
            have y2 : (l : Int) - j < (l : Int) + 1 := by omega
            have j5 : (j : Int) < (l : Int) + 1 := by omega
            by_cases hq : sb (k - j) = rb (l - j)
            · have hneq : (sb (k - j) != rb (l - j)) = false := by simpa using hq
              have HQ := Lib.hid (show ∀ i, i < j + 1 → sb (k - i) = rb (l - i) from fun i hi => by
                by_cases e : i = j
                · rw [e]; exact hq
                · exact hall.out i (by omega))
              clear hq hcast hcast2
              go_wp2
              go_quiet (fail)
              go_wp2
              exact ⟨⟨j + 1, by go_num, by omega, by omega, HQ, below_drews hb3 _⟩, by simp [intOf]; omega⟩
            · have hneq : (sb (k - j) != rb (l - j)) = true := by simpa using hq
              have HNO := Lib.hid (show NoOcc l rb (k + 1) from HNG.out.step fun p hp ho => by
                have e3 := ho (l - j) (by omega)
                rw [show p + (l - j) = k - j by omega] at e3
                exact hq e3)
              clear hq hcast hcast2
              go_wp2
              go_quiet (fail)
              have hb4 := below_drews hb3 nq
              obtain ⟨W2, hW2⟩ : ∃ W2, wr.drewN nq = W2 := ⟨_, rfl⟩
              rw [hW2] at hb4 ⊢
              clear hW2
              go_wp2
              go_step3
              simp (config := { zetaDelta := true }) only [jump_goto, Exit.then, Exit.inBlock, Exit.noGoto_ret]
              go_wp2
              change _ ∧ _
              go_roundw
              case rel => exact ⟨k + 1, q + 1, by go_num, by omega, by omega, by go_num, by omega, HC.out, HNO.out, hb4⟩
              case measure => simp [intOf]; omega
          · obtain rfl : j = l + 1 := by omega
            have HOC := Lib.hid (show Occ l rb from ⟨k - l, by omega, fun i hi =>
              (show sb (k - l + i) = sb (k - (l - i)) by rw [show k - (l - i) = k - l + i by omega]).trans ((hall.out (l - i) (by omega)).trans (by rw [show l - (l - i) = i by omega]))⟩)
            have hj6 : ¬ (((l + 1 : Nat) : Int) < (l : Int) + 1) := by omega
            clear hall
            go_wp2
            simp (config := { zetaDelta := true }) only [jump_ret, Exit.then, Exit.inBlock, Exit.noGoto_ret]
            go_ret
            exact ⟨_, rfl, ⟨fun _ => HOC.out, fun _ => by omega⟩, hb3⟩
      · have hne : (sb k != z) = true := by simpa using hA
        by_cases hN : ∀ j, k < j → j < 9 → sb j ≠ z
        · have HIB := Lib.hid (fun W => ib_at (({ data := #[227, 131, 188, 227, 128, 129, 227, 128, 130] } : ByteArray).extract (k + 1) 9) z W (-1) (ib_none k hk11 z z0 z1 hN))
          have HNO := Lib.hid (show ¬ Occ l rb from NoOcc.all (hno.skip fun i h1 h2 => by
            rw [HZ.out]
            rcases Nat.lt_or_ge k i with h3 | h3
            · exact hN i h3 h2
            · rw [show i = k by omega]; exact hA))
          clear hA hN hno hqc
          go_wp2
          refine wp_scope_forward 0 rfl ?_
          go_wp2
          go_quiet (fail)
          have hb2 := below_drews hbel nq
          obtain ⟨W, hW⟩ : ∃ W, wo.drewN nq = W := ⟨_, rfl⟩
          rw [hW] at hb2 ⊢
          clear hW
          go_wp2
          go_quiet (first | (go_at_call 75; with_reducible refine Calls.quiet_of_same (HIB.out _)))
          go_wp2
          simp (config := { zetaDelta := true }) only [jump_ret, Exit.then, Exit.inBlock, Exit.noGoto_ret]
          go_ret
          exact ⟨_, rfl, ⟨fun h => absurd h (by decide), fun h => absurd h HNO.out⟩, below_drews hb2 _⟩
        · obtain ⟨g, g1, g2, g3, g5, g4⟩ := ib_some k hk11 z z0 z1 hN
          obtain ⟨o, ho⟩ : ∃ o : Int, (g : Int) - (k + 1) = o := ⟨_, rfl⟩
          rw [ho] at g4
          have HIB := Lib.hid (fun W => ib_at (({ data := #[227, 131, 188, 227, 128, 129, 227, 128, 130] } : ByteArray).extract (k + 1) 9) z W o g4)
          have HNG := Lib.hid (show NoOcc l rb g from hno.skip fun i h1 h2 => by
            rw [HZ.out]
            rcases Nat.lt_or_ge k i with h3 | h3
            · exact g5 i h3 h2
            · rw [show i = k by omega]; exact hA)
          have hqm := cn_mono z (show k ≤ g by omega)
          have hq1 : q ≤ 1 := by
            have e1 := cn_le z z0 z1 (g + 1) (by omega)
            rw [cn_succ, if_pos g3] at e1
            omega
          have HC := Lib.hid (show q + 1 ≤ cn z (g + 1) from by rw [cn_succ, if_pos g3]; omega)
          have HA := Lib.hid g3
          have o0 : ¬ o < 0 := by omega
          have o2 : o ≤ 8 := by omega
          have o1 : (k : Int) + (o + 1) = g := by omega
          clear hA hN g3 g4 ho hno hqc hqm g5
          go_wp2
          refine wp_scope_forward 0 rfl ?_
          go_wp2
          go_quiet (fail)
          have hb1 := below_drews hbel nq
          obtain ⟨W0, hW0⟩ : ∃ W0, wo.drewN nq = W0 := ⟨_, rfl⟩
          rw [hW0] at hb1 ⊢
          clear hW0
          go_wp2
          go_quiet (first | (go_at_call 75; with_reducible refine Calls.quiet_of_same (HIB.out _)))
          have hb2 := below_drews hb1 nq
          obtain ⟨W, hW⟩ : ∃ W, W0.drewN nq = W := ⟨_, rfl⟩
          rw [hW] at hb2 ⊢
          clear hW
          go_wp2
          go_loopw [12] (fun jv wr => ∃ j : Nat, jv = .int .i64 j ∧ 1 ≤ j ∧ j ≤ l + 1 ∧ Hid (∀ i, i < j → sb (g - i) = rb (l - i)) ∧ Below w.heap.size w wr) (fun jv _ => l + 1 - (intOf jv).toNat)
          case atStart => exact ⟨1, rfl, Nat.le_refl _, by omega, Lib.hid (fun i hi => by rw [show i = 0 by omega]; exact HA.out.trans HZ.out.symm), hb2⟩
          case round =>
            obtain ⟨j, rfl, hj1, hjk, hall, hb3⟩ := hrel
            by_cases hj : j < l + 1
            · have hy := sb_at (g - j) (by omega)
              have hyz := HB.out.at_ (l - j) (by omega)
              have hcast : ((g - j : Nat) : Int) = (g : Int) - j := by omega
              have hcast2 : ((l - j : Nat) : Int) = (l : Int) - j := by omega
              rw [hcast] at hy
              rw [hcast2] at hyz
              have y0 : (0 : Int) ≤ (g : Int) - j := by omega
              have y1 : (g : Int) - j < 9 := by omega
              have y3 : (0 : Int) ≤ (l : Int) - j := by omega
              have y2 : (l : Int) - j < (l : Int) + 1 := by omega
              have j5 : (j : Int) < (l : Int) + 1 := by omega
              by_cases hq : sb (g - j) = rb (l - j)
              · have hneq : (sb (g - j) != rb (l - j)) = false := by simpa using hq
                have HQ := Lib.hid (show ∀ i, i < j + 1 → sb (g - i) = rb (l - i) from fun i hi => by
                  by_cases e : i = j
                  · rw [e]; exact hq
                  · exact hall.out i (by omega))
                clear hq hcast hcast2
                go_wp2
                go_quiet (fail)
                go_wp2
                exact ⟨⟨j + 1, by go_num, by omega, by omega, HQ, below_drews hb3 _⟩, by simp [intOf]; omega⟩
              · have hneq : (sb (g - j) != rb (l - j)) = true := by simpa using hq
                have HNO := Lib.hid (show NoOcc l rb (g + 1) from HNG.out.step fun p hp ho => by
                  have e3 := ho (l - j) (by omega)
                  rw [show p + (l - j) = g - j by omega] at e3
                  exact hq e3)
                clear hq hcast hcast2
                go_wp2
                go_quiet (fail)
                have hb4 := below_drews hb3 nq
                obtain ⟨W2, hW2⟩ : ∃ W2, wr.drewN nq = W2 := ⟨_, rfl⟩
                rw [hW2] at hb4 ⊢
                clear hW2
                go_wp2
                go_step3
                simp (config := { zetaDelta := true }) only [jump_goto, Exit.then, Exit.inBlock, Exit.noGoto_ret]
                go_wp2
                change _ ∧ _
                go_roundw
                case rel => exact ⟨g + 1, q + 1, by go_num, by omega, by omega, by go_num, by omega, HC.out, HNO.out, hb4⟩
                case measure => simp [intOf]; omega
            · obtain rfl : j = l + 1 := by omega
              have HOC := Lib.hid (show Occ l rb from ⟨g - l, by omega, fun i hi =>
                (show sb (g - l + i) = sb (g - (l - i)) by rw [show g - (l - i) = g - l + i by omega]).trans ((hall.out (l - i) (by omega)).trans (by rw [show l - (l - i) = i by omega]))⟩)
              have hj6 : ¬ (((l + 1 : Nat) : Int) < (l : Int) + 1) := by omega
              clear hall
              go_wp2
              simp (config := { zetaDelta := true }) only [jump_ret, Exit.then, Exit.inBlock, Exit.noGoto_ret]
              go_ret
              exact ⟨_, rfl, ⟨fun _ => HOC.out, fun _ => by omega⟩, hb3⟩
    · obtain rfl : k = 9 := by omega
      have HNO := Lib.hid hno.all
      clear hno
      go_wp2
      (try simp only [jump_ret, Exit.then, Exit.inBlock, Exit.noGoto_ret])
      go_ret
      exact ⟨_, rfl, ⟨fun h => absurd h (by decide), fun h => absurd h HNO.out⟩, hbel⟩

end Go.Proofs.Ytmbccolkgephgaa.Rom
