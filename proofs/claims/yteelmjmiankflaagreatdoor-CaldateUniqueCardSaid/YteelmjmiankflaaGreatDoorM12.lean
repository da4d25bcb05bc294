/-
  Joined texts: CalIA, CalIB, NumO, CalO, CalY, CalGL.
-/
import Derived.Test.YteelmjmiankflaaGreatDoorM11
import Derived.WalkMore
import Derived.ScopeJumps
import Derived.Test.YteelmjmiankflaaGreatDoorM4
import Derived.Lib.LaidU8
import Derived.OpenShut
import Derived.Test.YteelmjmiankflaaGreatDoorM3
import Derived.Lib.LaidTab
import Derived.Lib.SmallJoins
import Derived.Test.YteelmjmiankflaaGreatDoorM5
import Derived.Stop.LaidErr
set_option linter.unusedVariables false
set_option linter.unusedSimpArgs false
namespace Go.Proofs.YteelmjmiankflaaGreatDoor.Cal
open Go Go.RowKit Go.Proofs.YteelmjmiankflaaGreatDoor.Kit Go.Proofs.YteelmjmiankflaaGreatDoor.Utf
open Go.Proofs.YteelmjmiankflaaGreatDoor.Num

theorem wp_scope_forward {P : Program} {a : Act} {w : World} {Q : Exit → Act → World → Prop} {c rest : Code} (l : Nat) (hf : findLabel c l = some rest)
    (first : c.wp P (Exit.jump l (fun a w => rest.wp P (Exit.noGoto Q) a w) Q) a w) : (Code.scope c).wp P Q a w :=
  wp_scope_jumps l (fun a w => rest.wp P (Exit.noGoto Q) a w) (fun _ _ => 0) hf first (fun a w h => wp_mono h (fun e a w hq => by cases e <;> first | exact hq | exact hq.elim))

theorem jump_ret {l : Nat} {J : Act → World → Prop} {Q : Exit → Act → World → Prop} {a : Act} {w : World} : Exit.jump l J Q Exit.ret a w ↔ Q Exit.ret a w := Iff.rfl
theorem jump_goto {l : Nat} {J : Act → World → Prop} {Q : Exit → Act → World → Prop} {a : Act} {w : World} : Exit.jump l J Q (Exit.goto l) a w ↔ J a w := ⟨fun h => h.2, fun h => ⟨rfl, h⟩⟩
def sepL : List UInt8 := [229, 185, 180, 230, 156, 136, 230, 151, 165, 47, 45]
def sepS : ByteArray := { data := #[229, 185, 180, 230, 156, 136, 230, 151, 165, 47, 45] }
def sb (i : Nat) : Int := ((sepL.getD i 0).toNat : Int)
theorem ib_at (s : ByteArray) (c : Int) (w : World) (v : Int) (hv : Lib.indexByte s.data.toList c.toNat.toUInt8 = v) :
    Calls Tryz.prog 65 #[.string s, .int .u8 c] w fun e w' => e = .returned (.int .i64 v) ∧ w' = w := by
  rw [← hv]
  exact Any.strings_IndexByte { Tryz.lays152 with } s c w
theorem sb_at (i : Nat) (h : i < 11) (w : World) : (Instr.index 9 (.string { data := #[229, 185, 180, 230, 156, 136, 230, 151, 165, 47, 45] }) (.int .i64 i)).run Tryz.prog w = .ok (.int .u8 (sb i)) w := by
  have : i = 0 ∨ i = 1 ∨ i = 2 ∨ i = 3 ∨ i = 4 ∨ i = 5 ∨ i = 6 ∨ i = 7 ∨ i = 8 ∨ i = 9 ∨ i = 10 := by omega
  rcases this with rfl | rfl | rfl | rfl | rfl | rfl | rfl | rfl | rfl | rfl | rfl <;> (show _ = _; kernel_rfl)
theorem sb_once : ∀ i, i < 11 → ∀ j, j < 11 → sb i = sb j → 128 ≤ sb i → sb i < 192 → i = j := by decide
/-- The next place of a byte behind k. -/
def nxt (k : Nat) (z : Nat) : Option Nat := (List.range 11).find? fun j => decide (k < j ∧ sb j = z)
def nxtV (k : Nat) (z : Nat) : Int := match nxt k z with | none => -1 | some j => (j : Int) - (k + 1)
theorem nxt_is : ∀ k, k < 11 → ∀ z, z < 256 → Lib.indexByte (sepL.drop (k + 1)) z.toUInt8 = nxtV k z := by decide +kernel

theorem ext_bytes (k : Nat) (h : k < 11) : (({ data := #[229, 185, 180, 230, 156, 136, 230, 151, 165, 47, 45] } : ByteArray).extract (k + 1) 11).data.toList = sepL.drop (k + 1) := by
  have : k = 0 ∨ k = 1 ∨ k = 2 ∨ k = 3 ∨ k = 4 ∨ k = 5 ∨ k = 6 ∨ k = 7 ∨ k = 8 ∨ k = 9 ∨ k = 10 := by omega
  rcases this with rfl | rfl | rfl | rfl | rfl | rfl | rfl | rfl | rfl | rfl | rfl <;> decide +kernel
theorem ib_is (k : Nat) (hk : k < 11) (z : Int) (z0 : 128 ≤ z) (z1 : z < 192) : Lib.indexByte (({ data := #[229, 185, 180, 230, 156, 136, 230, 151, 165, 47, 45] } : ByteArray).extract (k + 1) 11).data.toList z.toNat.toUInt8 = nxtV k z.toNat := by
  rw [ext_bytes k hk]
  exact nxt_is k hk z.toNat (by omega)
theorem ib_none (k : Nat) (hk : k < 11) (z : Int) (z0 : 128 ≤ z) (z1 : z < 192) (h : ∀ j, k < j → j < 11 → sb j ≠ z) : Lib.indexByte (({ data := #[229, 185, 180, 230, 156, 136, 230, 151, 165, 47, 45] } : ByteArray).extract (k + 1) 11).data.toList z.toNat.toUInt8 = -1 := by
  rw [ib_is k hk z z0 z1]
  unfold nxtV
  cases hn : nxt k z.toNat with
  | none => rfl
  | some j =>
    have h1 := List.find?_some hn
    have h2 := List.mem_range.1 (List.mem_of_find?_eq_some hn)
    simp only [decide_eq_true_eq] at h1
    exact absurd (by rw [h1.2]; omega) (h j h1.1 h2)
theorem ib_some (k : Nat) (hk : k < 11) (z : Int) (z0 : 128 ≤ z) (z1 : z < 192) (h : ¬ ∀ j, k < j → j < 11 → sb j ≠ z) : ∃ j, k < j ∧ j < 11 ∧ sb j = z ∧ Lib.indexByte (({ data := #[229, 185, 180, 230, 156, 136, 230, 151, 165, 47, 45] } : ByteArray).extract (k + 1) 11).data.toList z.toNat.toUInt8 = (j : Int) - (k + 1) := by
  rw [ib_is k hk z z0 z1]
  unfold nxtV
  cases hn : nxt k z.toNat with
  | none =>
    exfalso
    apply h
    intro j h1 h2 e
    have := List.find?_eq_none.1 hn j (List.mem_range.2 h2)
    apply this
    simp only [decide_eq_true_eq]
    exact ⟨h1, by rw [e]; omega⟩
  | some j =>
    have h1 := List.find?_some hn
    have h2 := List.mem_range.1 (List.mem_of_find?_eq_some hn)
    simp only [decide_eq_true_eq] at h1
    exact ⟨j, h1.1, h2, by rw [h1.2]; omega, rfl⟩

/-- A rune's bytes, the last one at place l. -/
structure RB (R : ByteArray) (l : Nat) (rb : Nat → Int) : Prop where
  size : R.size = l + 1
  l1 : 1 ≤ l
  l3 : l ≤ 3
  at_ : ∀ j, j ≤ l → ∀ w : World, (Instr.index 9 (.string R) (.int .i64 j)).run Tryz.prog w = .ok (.int .u8 (rb j)) w
  z0 : 128 ≤ rb l
  z1 : rb l < 192

def Occ (l : Nat) (rb : Nat → Int) : Prop := ∃ p, p + l < 11 ∧ ∀ j, j ≤ l → sb (p + j) = rb j

set_option maxRecDepth 100000 in
set_option maxHeartbeats 8000000 in
theorem ir_at (r : Int) (R : ByteArray) (l : Nat) (rb : Nat → Int) (g1 : 128 ≤ r) (h2 : (r == 65533) = false) (hvr : Lib.validRune r = true) (hE : Utf8.encode r = R) (hb : RB R l rb) (w : World) :
    Calls Tryz.prog 46 #[.string { data := #[229, 185, 180, 230, 156, 136, 230, 151, 165, 47, 45] }, .int .i32 r] w fun e w' => ∃ v, e = .returned (.int .i64 v) ∧ (0 ≤ v ↔ Occ l rb) ∧ Below w.heap.size w w' := by
  have HV := Lib.hid (Tryz.utf8_ValidRune r)
  rw [hvr] at HV
  have t1 : decide ((0 : Int) ≤ r) = true := by simp; omega
  have t2 : decide (r < 128) = false := by simp; omega
  have hs := hb.size
  have l1 := hb.l1
  have l3 := hb.l3
  have HB := Lib.hid hb
  obtain ⟨z, hz⟩ : ∃ z, rb l = z := ⟨_, rfl⟩
  have z0 : 128 ≤ z := by rw [← hz]; exact hb.z0
  have z1 : z < 192 := by rw [← hz]; exact hb.z1
  have HZ := Lib.hid hz
  clear hvr g1 hb hz
  go_enter Tryz.func46, Tryz.ntmps46
  go_wp2_with (first
    | (go_at_call 66; (with_reducible refine (HV.out _).mono ?_); rintro e w1 ⟨rfl, hw1⟩; obtain rfl := hw1.symm))
  go_step3
  go_wp2
  clear HV t1 t2 h2
  go_loopw [9, 10] (fun i f wr => ∃ k : Nat, i = .int .i64 k ∧ l ≤ k ∧ k ≤ 11 ∧ ((f = .int .i64 0 ∧ k = l) ∨ (f = .int .i64 1 ∧ (∀ j, k ≤ j → j < 11 → sb j ≠ z) ∧ ¬ Occ l rb)) ∧ Below w.heap.size w wr) (fun i _ _ => 11 - (intOf i).toNat)
  case atStart => exact ⟨l, rfl, Nat.le_refl _, by omega, .inl ⟨rfl, rfl⟩, Below.refl _ _⟩
  case round =>
    obtain ⟨k, rfl, hk0, hk, hf, hbel⟩ := hrel
    by_cases hk11 : k < 11
    · have hxk := sb_at k hk11
      have hxz := HB.out.at_ l (Nat.le_refl _)
      rw [HZ.out] at hxz
      have k0 : (0 : Int) ≤ k := by omega
      have k1 : (k : Int) < 11 := by omega
      have j0 : (0 : Int) ≤ l := by omega
      rcases hf with ⟨rfl, hkl⟩ | ⟨rfl, hnone, hnocc⟩
      · subst hkl
        obtain ⟨wo, hwo⟩ : ∃ wo, wo = wr := ⟨_, rfl⟩
        subst hwo
        by_cases hA : sb k = z
        · have hne : (sb k != z) = false := by simpa using hA
          have HA := Lib.hid hA
          clear hA
          go_wp2
          refine wp_scope_forward 0 rfl ?_
          go_wp2
          go_quiet (fail)
          have hb2 := below_drews hbel nq
          obtain ⟨W, hW⟩ : ∃ W, wo.drewN nq = W := ⟨_, rfl⟩
          rw [hW] at hb2 ⊢
          clear hW
          go_wp2
          go_loopw [12] (fun jv wr => ∃ j : Nat, jv = .int .i64 j ∧ 1 ≤ j ∧ j ≤ k + 1 ∧ Hid (∀ i, i < j → sb (k - i) = rb (k - i)) ∧ Below w.heap.size w wr) (fun jv _ => k + 1 - (intOf jv).toNat)
          case atStart => exact ⟨1, rfl, Nat.le_refl _, by omega, Lib.hid (fun i hi => by rw [show i = 0 by omega]; exact HA.out.trans HZ.out.symm), hb2⟩
          case round =>
            obtain ⟨j, rfl, hj1, hjk, hall, hb3⟩ := hrel
            by_cases hj : j < k + 1
            · have hy := sb_at (k - j) (by omega)
              have hyz := HB.out.at_ (k - j) (by omega)
              have hcast : ((k - j : Nat) : Int) = (k : Int) - j := by omega
              have hcast2 : ((k - j : Nat) : Int) = (k : Int) - j := by omega
              rw [hcast] at hy
              rw [hcast2] at hyz
              have y0 : (0 : Int) ≤ (k : Int) - j := by omega
              have y1 : (k : Int) - j < 11 := by omega
              have y3 : (0 : Int) ≤ (k : Int) - j := by omega
              have y2 : (k : Int) - j < (k : Int) + 1 := by omega
              have j5 : (j : Int) < (k : Int) + 1 := by omega
              by_cases hq : sb (k - j) = rb (k - j)
              · have hneq : (sb (k - j) != rb (k - j)) = false := by simpa using hq
                have HQ := Lib.hid (show ∀ i, i < j + 1 → sb (k - i) = rb (k - i) from fun i hi => by
                  by_cases e : i = j
                  · rw [e]; exact hq
                  · exact hall.out i (by omega))
                clear hq hcast hcast2
                go_wp2
                go_quiet (fail)
                go_wp2
                exact ⟨⟨j + 1, by go_num, by omega, by omega, HQ, below_drews hb3 _⟩, by simp [intOf]; omega⟩
              · have hneq : (sb (k - j) != rb (k - j)) = true := by simpa using hq
                have HNO := Lib.hid (show ¬ Occ k rb from fun ⟨p, hp, ho⟩ => by
                  have e1 := ho k (Nat.le_refl _)
                  have e2 : p + k = k := sb_once (p + k) hp (k) (by omega) (by rw [e1, HZ.out, HA.out]) (by rw [e1, HZ.out]; exact z0) (by rw [e1, HZ.out]; exact z1)
                  have e3 := ho (k - j) (by omega)
                  rw [show p + (k - j) = k - j by omega] at e3
                  exact hq e3)
                have HNX := Lib.hid (show ∀ i, k + 1 ≤ i → i < 11 → sb i ≠ z from fun i h1 h2 e => by
                  have := sb_once i h2 (k) (by omega) (by rw [e, HA.out]) (by rw [e]; exact z0) (by rw [e]; exact z1)
                  omega)
                clear hq hcast hcast2
                go_wp2
                go_quiet (fail)
                have hb4 := below_drews hb3 nq
                obtain ⟨W2, hW2⟩ : ∃ W2, wr.drewN nq = W2 := ⟨_, rfl⟩
                rw [hW2] at hb4 ⊢
                clear hW2
                go_wp2
                go_step3
                simp (config := { zetaDelta := true }) only [jump_goto, Exit.then, Exit.inBlock, Exit.noGoto_ret]
                go_wp2
                change _ ∧ _
                go_roundw
                case rel => exact ⟨k + 1, by go_num, by omega, by omega, .inr ⟨rfl, HNX.out, HNO.out⟩, hb4⟩
                case measure => simp [intOf]; omega
            · obtain rfl : j = k + 1 := by omega
              have HOC := Lib.hid (show Occ k rb from ⟨k - k, by omega, fun i hi =>
                (show sb (k - k + i) = sb (k - (k - i)) by rw [show k - (k - i) = k - k + i by omega]).trans ((hall.out (k - i) (by omega)).trans (by rw [show k - (k - i) = i by omega]))⟩)
              have hj6 : ¬ (((k + 1 : Nat) : Int) < (k : Int) + 1) := by omega
              clear hall
              go_wp2
              simp (config := { zetaDelta := true }) only [jump_ret, Exit.then, Exit.inBlock, Exit.noGoto_ret]
              go_ret
              exact ⟨_, rfl, ⟨fun _ => HOC.out, fun _ => by omega⟩, hb3⟩
        · have hne : (sb k != z) = true := by simpa using hA
          by_cases hN : ∀ j, k < j → j < 11 → sb j ≠ z
          · have HIB := Lib.hid (fun W => ib_at (({ data := #[229, 185, 180, 230, 156, 136, 230, 151, 165, 47, 45] } : ByteArray).extract (k + 1) 11) z W (-1) (ib_none k hk11 z z0 z1 hN))
            have HNO := Lib.hid (show ¬ Occ k rb from fun ⟨p, hp, ho⟩ => by
              have e1 := ho k (Nat.le_refl _)
              rw [HZ.out] at e1
              by_cases hp0 : p = 0
              · subst hp0; rw [Nat.zero_add] at e1; exact hA e1
              · exact hN (p + k) (by omega) hp e1)
            clear hA hN
            go_wp2
            refine wp_scope_forward 0 rfl ?_
            go_wp2
            go_quiet (fail)
            have hb2 := below_drews hbel nq
            obtain ⟨W, hW⟩ : ∃ W, wo.drewN nq = W := ⟨_, rfl⟩
            rw [hW] at hb2 ⊢
            clear hW
            go_wp2
            go_quiet (first | (go_at_call 65; with_reducible refine Calls.quiet_of_same (HIB.out _)))
            go_wp2
            simp (config := { zetaDelta := true }) only [jump_ret, Exit.then, Exit.inBlock, Exit.noGoto_ret]
            go_ret
            exact ⟨_, rfl, ⟨fun h => absurd h (by decide), fun h => absurd h HNO.out⟩, below_drews hb2 _⟩
          · obtain ⟨g, g1, g2, g3, g4⟩ := ib_some k hk11 z z0 z1 hN
            obtain ⟨o, ho⟩ : ∃ o : Int, (g : Int) - (k + 1) = o := ⟨_, rfl⟩
            rw [ho] at g4
            have HIB := Lib.hid (fun W => ib_at (({ data := #[229, 185, 180, 230, 156, 136, 230, 151, 165, 47, 45] } : ByteArray).extract (k + 1) 11) z W o g4)
            have HA := Lib.hid g3
            have o0 : ¬ o < 0 := by omega
            have o2 : o ≤ 10 := by omega
            have o1 : (k : Int) + (o + 1) = g := by omega
            clear hA hN g3 g4 ho
            go_wp2
            refine wp_scope_forward 0 rfl ?_
            go_wp2
            go_quiet (fail)
            have hb1 := below_drews hbel nq
            obtain ⟨W0, hW0⟩ : ∃ W0, wo.drewN nq = W0 := ⟨_, rfl⟩
            rw [hW0] at hb1 ⊢
            clear hW0
            go_wp2
            go_quiet (first | (go_at_call 65; with_reducible refine Calls.quiet_of_same (HIB.out _)))
            have hb2 := below_drews hb1 nq
            obtain ⟨W, hW⟩ : ∃ W, W0.drewN nq = W := ⟨_, rfl⟩
            rw [hW] at hb2 ⊢
            clear hW
            go_wp2
            go_loopw [12] (fun jv wr => ∃ j : Nat, jv = .int .i64 j ∧ 1 ≤ j ∧ j ≤ k + 1 ∧ Hid (∀ i, i < j → sb (g - i) = rb (k - i)) ∧ Below w.heap.size w wr) (fun jv _ => k + 1 - (intOf jv).toNat)
            case atStart => exact ⟨1, rfl, Nat.le_refl _, by omega, Lib.hid (fun i hi => by rw [show i = 0 by omega]; exact HA.out.trans HZ.out.symm), hb2⟩
            case round =>
              obtain ⟨j, rfl, hj1, hjk, hall, hb3⟩ := hrel
              by_cases hj : j < k + 1
              · have hy := sb_at (g - j) (by omega)
                have hyz := HB.out.at_ (k - j) (by omega)
                have hcast : ((g - j : Nat) : Int) = (g : Int) - j := by omega
                have hcast2 : ((k - j : Nat) : Int) = (k : Int) - j := by omega
                rw [hcast] at hy
                rw [hcast2] at hyz
                have y0 : (0 : Int) ≤ (g : Int) - j := by omega
                have y1 : (g : Int) - j < 11 := by omega
                have y3 : (0 : Int) ≤ (k : Int) - j := by omega
                have y2 : (k : Int) - j < (k : Int) + 1 := by omega
                have j5 : (j : Int) < (k : Int) + 1 := by omega
                by_cases hq : sb (g - j) = rb (k - j)
                · have hneq : (sb (g - j) != rb (k - j)) = false := by simpa using hq
                  have HQ := Lib.hid (show ∀ i, i < j + 1 → sb (g - i) = rb (k - i) from fun i hi => by
                    by_cases e : i = j
                    · rw [e]; exact hq
                    · exact hall.out i (by omega))
                  clear hq hcast hcast2
                  go_wp2
                  go_quiet (fail)
                  go_wp2
                  exact ⟨⟨j + 1, by go_num, by omega, by omega, HQ, below_drews hb3 _⟩, by simp [intOf]; omega⟩
                · have hneq : (sb (g - j) != rb (k - j)) = true := by simpa using hq
                  have HNO := Lib.hid (show ¬ Occ k rb from fun ⟨p, hp, ho⟩ => by
                    have e1 := ho k (Nat.le_refl _)
                    have e2 : p + k = g := sb_once (p + k) hp (g) (by omega) (by rw [e1, HZ.out, HA.out]) (by rw [e1, HZ.out]; exact z0) (by rw [e1, HZ.out]; exact z1)
                    have e3 := ho (k - j) (by omega)
                    rw [show p + (k - j) = g - j by omega] at e3
                    exact hq e3)
                  have HNX := Lib.hid (show ∀ i, g + 1 ≤ i → i < 11 → sb i ≠ z from fun i h1 h2 e => by
                    have := sb_once i h2 (g) (by omega) (by rw [e, HA.out]) (by rw [e]; exact z0) (by rw [e]; exact z1)
                    omega)
                  clear hq hcast hcast2
                  go_wp2
                  go_quiet (fail)
                  have hb4 := below_drews hb3 nq
                  obtain ⟨W2, hW2⟩ : ∃ W2, wr.drewN nq = W2 := ⟨_, rfl⟩
                  rw [hW2] at hb4 ⊢
                  clear hW2
                  go_wp2
                  go_step3
                  simp (config := { zetaDelta := true }) only [jump_goto, Exit.then, Exit.inBlock, Exit.noGoto_ret]
                  go_wp2
                  change _ ∧ _
                  go_roundw
                  case rel => exact ⟨g + 1, by go_num, by omega, by omega, .inr ⟨rfl, HNX.out, HNO.out⟩, hb4⟩
                  case measure => simp [intOf]; omega
              · obtain rfl : j = k + 1 := by omega
                have HOC := Lib.hid (show Occ k rb from ⟨g - k, by omega, fun i hi =>
                  (show sb (g - k + i) = sb (g - (k - i)) by rw [show g - (k - i) = g - k + i by omega]).trans ((hall.out (k - i) (by omega)).trans (by rw [show k - (k - i) = i by omega]))⟩)
                have hj6 : ¬ (((k + 1 : Nat) : Int) < (k : Int) + 1) := by omega
                clear hall
                go_wp2
                simp (config := { zetaDelta := true }) only [jump_ret, Exit.then, Exit.inBlock, Exit.noGoto_ret]
                go_ret
                exact ⟨_, rfl, ⟨fun _ => HOC.out, fun _ => by omega⟩, hb3⟩

      · have hne : (sb k != z) = true := by simpa using hnone k (Nat.le_refl _) hk11
        have HIB := Lib.hid (fun W => ib_at (({ data := #[229, 185, 180, 230, 156, 136, 230, 151, 165, 47, 45] } : ByteArray).extract (k + 1) 11) z W (-1) (ib_none k hk11 z z0 z1 fun j h1 h2 => hnone j (by omega) h2))
        have HNO := Lib.hid hnocc
        clear hnone hnocc
        go_wp2
        refine wp_scope_forward 0 rfl ?_
        go_wp2
        go_quiet (fail)
        have hb2 := below_drews hbel nq
        obtain ⟨W, hW⟩ : ∃ W, wr.drewN nq = W := ⟨_, rfl⟩
        rw [hW] at hb2 ⊢
        clear hW
        go_wp2
        go_quiet (first | (go_at_call 65; with_reducible refine Calls.quiet_of_same (HIB.out _)))
        go_wp2
        simp (config := { zetaDelta := true }) only [jump_ret, Exit.then, Exit.inBlock, Exit.noGoto_ret]
        go_ret
        exact ⟨_, rfl, ⟨fun h => absurd h (by decide), fun h => absurd h HNO.out⟩, below_drews hb2 _⟩
    · obtain rfl : k = 11 := by omega
      have hf' : ¬ Occ l rb := by
        rcases hf with ⟨_, e⟩ | ⟨_, _, h⟩
        · omega
        · exact h
      have HNO := Lib.hid hf'
      clear hf hf'
      go_wp2
      (try simp only [jump_ret, Exit.then, Exit.inBlock, Exit.noGoto_ret])
      go_ret
      exact ⟨_, rfl, ⟨fun h => absurd h (by decide), fun h => absurd h HNO.out⟩, hbel⟩

end Go.Proofs.YteelmjmiankflaaGreatDoor.Cal

set_option linter.unusedVariables false
set_option linter.unusedSimpArgs false
namespace Go.Proofs.YteelmjmiankflaaGreatDoor.Cal
open Go Go.RowKit Go.Proofs.YteelmjmiankflaaGreatDoor.Kit Go.Proofs.YteelmjmiankflaaGreatDoor.Utf
open Go.Proofs.YteelmjmiankflaaGreatDoor.Num

theorem rb_at (R : ByteArray) (j : Nat) (h : j < R.size) (w : World) : (Instr.index 9 (.string R) (.int .i64 j)).run Tryz.prog w = .ok (.int .u8 (((bs R).getD j 0).toNat : Int)) w := by
  rw [run_index_string w 9 R .i64 j Tryz.underlying9, dif_pos ⟨by omega, by omega⟩]
  congr 2
  have e : (bs R).getD j 0 = R[j] := by
    rw [List.getD_eq_getElem?_getD, bs_get h]; rfl
  rw [e]; simp

def rbOf (r : Int) (j : Nat) : Int := (((enc r).getD j 0).toNat : Int)
theorem rb_of (r : Int) (l : Nat) (h1 : 1 ≤ l) (h3 : l ≤ 3) (hl : (enc r).length = l + 1) (z0 : 128 ≤ rbOf r l) (z1 : rbOf r l < 192) : RB (Utf8.encode r) l (rbOf r) := by
  have hs : (Utf8.encode r).size = l + 1 := by rw [← bs_len]; exact hl
  exact ⟨hs, h1, h3, fun j hj w => rb_at _ j (by omega) w, z0, z1⟩

theorem sb_lead : ∀ p, p < 11 → 192 ≤ sb p → (p = 0 ∨ p = 3 ∨ p = 6) ∧ (sb p = 229 ∨ sb p = 230) := by decide
theorem occ_pos {l : Nat} {rb : Nat → Int} (h0 : 192 ≤ rb 0) : Occ l rb → ∃ p, (p = 0 ∨ p = 3 ∨ p = 6) ∧ ∀ j, j ≤ l → sb (p + j) = rb j := by
  intro ⟨p, hp, ho⟩
  have := ho 0 (Nat.zero_le _)
  exact ⟨p, (sb_lead p (by omega) (by rw [show p = p + 0 by omega, this]; exact h0)).1, ho⟩

/-- The runes of two to four bytes. -/
theorem ir_val (r : Int) (h128 : 128 ≤ r) (hmax : r ≤ 1114111) (h65 : (r == 65533) = false) (hv : Go.validRune r = true) (w : World) :
    Calls Tryz.prog 46 #[.string { data := #[229, 185, 180, 230, 156, 136, 230, 151, 165, 47, 45] }, .int .i32 r] w fun e w' => ∃ v, e = .returned (.int .i64 v) ∧ (0 ≤ v ↔ isSep r.toNat = true) ∧ Below w.heap.size w w' := by
  obtain ⟨x, rfl⟩ : ∃ x : Nat, r = x := ⟨r.toNat, by omega⟩
  have hx : ((x : Nat) : Int).toNat = x := by omega
  rw [hx]
  rcases enc_forms x hv with ⟨hc, _⟩ | ⟨_, hc, e⟩ | ⟨hc1, hc, e⟩ | ⟨hc, _, e⟩
  · omega
  · rw [hx] at e
    have r0 : rbOf x 0 = 192 + x / 64 := by unfold rbOf; rw [e]; show ((UInt8.ofNat _).toNat : Int) = _; rw [toNat_ofNat _ (by omega)]; omega
    have r1 : rbOf x 1 = 128 + x % 64 := by unfold rbOf; rw [e]; show ((UInt8.ofNat _).toNat : Int) = _; rw [toNat_ofNat _ (by omega)]; omega
    refine (ir_at x _ 1 (rbOf x) h128 h65 hv rfl (rb_of x 1 (by decide) (by decide) (by rw [e]; rfl) (by rw [r1]; omega) (by rw [r1]; omega)) w).mono ?_
    rintro e' w' ⟨v, rfl, hov, hb⟩
    refine ⟨v, rfl, hov.trans ⟨fun ho => ?_, fun hs => ?_⟩, hb⟩
    · obtain ⟨p, hp, h⟩ := ho
      have h0 := h 0 (by omega)
      have := (sb_lead p (by omega) (by rw [show p = p + 0 by omega, h0, r0]; omega)).2
      rw [show p = p + 0 by omega, h0, r0] at this
      omega
    · simp only [isSep, decide_eq_true_eq] at hs; omega
  · rw [hx] at e
    have r0 : rbOf x 0 = 224 + x / 4096 := by unfold rbOf; rw [e]; show ((UInt8.ofNat _).toNat : Int) = _; rw [toNat_ofNat _ (by omega)]; omega
    have r1 : rbOf x 1 = 128 + x / 64 % 64 := by unfold rbOf; rw [e]; show ((UInt8.ofNat _).toNat : Int) = _; rw [toNat_ofNat _ (by omega)]; omega
    have r2 : rbOf x 2 = 128 + x % 64 := by unfold rbOf; rw [e]; show ((UInt8.ofNat _).toNat : Int) = _; rw [toNat_ofNat _ (by omega)]; omega
    refine (ir_at x _ 2 (rbOf x) h128 h65 hv rfl (rb_of x 2 (by decide) (by decide) (by rw [e]; rfl) (by rw [r2]; omega) (by rw [r2]; omega)) w).mono ?_
    rintro e' w' ⟨v, rfl, hov, hb⟩
    refine ⟨v, rfl, hov.trans ⟨fun ho => ?_, fun hs => ?_⟩, hb⟩
    · obtain ⟨p, hp, h⟩ := occ_pos (by rw [r0]; omega) ho
      have h0 := h 0 (by omega)
      have h1 := h 1 (by omega)
      have h2 := h 2 (by omega)
      rw [r0] at h0
      rw [r1] at h1
      rw [r2] at h2
      simp only [isSep, decide_eq_true_eq]
      rcases hp with rfl | rfl | rfl
      · have a0 : sb (0 + 0) = 229 := rfl
        have a1 : sb (0 + 1) = 185 := rfl
        have a2 : sb (0 + 2) = 180 := rfl
        omega
      · have a0 : sb (3 + 0) = 230 := rfl
        have a1 : sb (3 + 1) = 156 := rfl
        have a2 : sb (3 + 2) = 136 := rfl
        omega
      · have a0 : sb (6 + 0) = 230 := rfl
        have a1 : sb (6 + 1) = 151 := rfl
        have a2 : sb (6 + 2) = 165 := rfl
        omega
    · simp only [isSep, decide_eq_true_eq] at hs
      have h3 : x = 24180 ∨ x = 26376 ∨ x = 26085 := by omega
      rcases h3 with rfl | rfl | rfl
      · refine ⟨0, by decide, fun j hj => ?_⟩
        rcases (by omega : j = 0 ∨ j = 1 ∨ j = 2) with rfl | rfl | rfl
        · rw [r0]; rfl
        · rw [r1]; rfl
        · rw [r2]; rfl
      · refine ⟨3, by decide, fun j hj => ?_⟩
        rcases (by omega : j = 0 ∨ j = 1 ∨ j = 2) with rfl | rfl | rfl
        · rw [r0]; rfl
        · rw [r1]; rfl
        · rw [r2]; rfl
      · refine ⟨6, by decide, fun j hj => ?_⟩
        rcases (by omega : j = 0 ∨ j = 1 ∨ j = 2) with rfl | rfl | rfl
        · rw [r0]; rfl
        · rw [r1]; rfl
        · rw [r2]; rfl
  · rw [hx] at e
    have r0 : rbOf x 0 = 240 + x / 262144 := by unfold rbOf; rw [e]; show ((UInt8.ofNat _).toNat : Int) = _; rw [toNat_ofNat _ (by omega)]; omega
    have r3 : rbOf x 3 = 128 + x % 64 := by unfold rbOf; rw [e]; show ((UInt8.ofNat _).toNat : Int) = _; rw [toNat_ofNat _ (by omega)]; omega
    refine (ir_at x _ 3 (rbOf x) h128 h65 hv rfl (rb_of x 3 (by decide) (by decide) (by rw [e]; rfl) (by rw [r3]; omega) (by rw [r3]; omega)) w).mono ?_
    rintro e' w' ⟨v, rfl, hov, hb⟩
    refine ⟨v, rfl, hov.trans ⟨fun ho => ?_, fun hs => ?_⟩, hb⟩
    · obtain ⟨p, hp, h⟩ := ho
      have h0 := h 0 (by omega)
      have := (sb_lead p (by omega) (by rw [show p = p + 0 by omega, h0, r0]; omega)).2
      rw [show p = p + 0 by omega, h0, r0] at this
      omega
    · simp only [isSep, decide_eq_true_eq] at hs; omega

set_option maxRecDepth 100000 in
/-- A number that is no character. -/
theorem ir_bad (r : Int) (h128 : 128 ≤ r) (h65 : (r == 65533) = false) (hv : Go.validRune r = false) (w : World) :
    Calls Tryz.prog 46 #[.string { data := #[229, 185, 180, 230, 156, 136, 230, 151, 165, 47, 45] }, .int .i32 r] w fun e w' => e = .returned (.int .i64 (-1)) ∧ Below w.heap.size w w' := by
  have HV := Lib.hid (Tryz.utf8_ValidRune r)
  rw [show Lib.validRune r = false from hv] at HV
  have t1 : decide ((0 : Int) ≤ r) = true := by simp; omega
  have t2 : decide (r < 128) = false := by simp; omega
  clear hv h128
  go_enter Tryz.func46, Tryz.ntmps46
  go_wp2_with (first
    | (go_at_call 66; (with_reducible refine (HV.out _).mono ?_); rintro e w1 ⟨rfl, hw1⟩; obtain rfl := hw1.symm))
  go_ret
  exact ⟨rfl, Below.refl _ _⟩

def sepRunes : List (Nat × Nat × Int) := [(0, 3, 24180), (3, 6, 26376), (6, 9, 26085), (9, 10, 47), (10, 11, 45)]
theorem sep_dec : ∀ x ∈ sepRunes, x.1 < 11 ∧ Utf8.decode { data := #[229, 185, 180, 230, 156, 136, 230, 151, 165, 47, 45] } x.1 = (x.2.2.toNat, x.2.1 - x.1) ∧ x.1 + (x.2.1 - x.1) = x.2.1 ∧ x.2.1 ≤ 11 ∧ (x.2.2.toNat : Int) = x.2.2 ∧ (x.2.2 == 65533) = false ∧ (x.2.1 = 11 ∨ ∃ y ∈ sepRunes, y.1 = x.2.1) := by decide +kernel
set_option maxRecDepth 100000 in
/-- The mark of what is no character. -/
theorem ir_mark (w : World) :
    Calls Tryz.prog 46 #[.string { data := #[229, 185, 180, 230, 156, 136, 230, 151, 165, 47, 45] }, .int .i32 65533] w fun e w' => e = .returned (.int .i64 (-1)) ∧ Below w.heap.size w w' := by
  go_enter Tryz.func46, Tryz.ntmps46
  go_wp2
  go_loopw [] (fun wr => ∃ pos : Nat, wr = w.iter { data := #[229, 185, 180, 230, 156, 136, 230, 151, 165, 47, 45] } pos ∧ (pos = 11 ∨ ∃ y ∈ sepRunes, y.1 = pos)) (fun wr => 11 - wr.iterPos w.heap.size)
  case atStart => exact ⟨0, rfl, .inr ⟨(0, 3, 24180), by decide, rfl⟩⟩
  case round =>
    obtain ⟨pos, rfl, hp | ⟨y, hy, rfl⟩⟩ := hrel
    · subst hp
      have hnx : ∀ ty, (Instr.next (.pointer (some ⟨w.heap.size, 0, none⟩)) true ty).run Tryz.prog (w.iter { data := #[229, 185, 180, 230, 156, 136, 230, 151, 165, 47, 45] } 11) = _ := fun ty => run_next_end w _ 11 ty (by decide)
      go_wp2
      go_ret
      exact ⟨rfl, (Below.refl _ _).alloc (Nat.le_refl _) _⟩
    · obtain ⟨h1, h2, h3, h4, h5, h6, h7⟩ := sep_dec y hy
      have hnx : ∀ ty, (Instr.next (.pointer (some ⟨w.heap.size, 0, none⟩)) true ty).run Tryz.prog (w.iter { data := #[229, 185, 180, 230, 156, 136, 230, 151, 165, 47, 45] } y.1) = .ok (.tuple #[.bool true, .int .i64 y.1, .int .i32 y.2.2]) (w.iter { data := #[229, 185, 180, 230, 156, 136, 230, 151, 165, 47, 45] } y.2.1) := fun ty => by
        have := run_next_any (P := Tryz.prog) w { data := #[229, 185, 180, 230, 156, 136, 230, 151, 165, 47, 45] } y.1 ty h1
        rw [h2, h3, h5] at this
        exact this
      have hlt : y.1 < y.2.1 := by
        have : ∀ x ∈ sepRunes, x.1 < x.2.1 := by decide
        exact this y hy
      obtain ⟨p, hpe⟩ : ∃ p, y.1 = p := ⟨_, rfl⟩
      obtain ⟨q, hqe⟩ : ∃ q, y.2.1 = q := ⟨_, rfl⟩
      obtain ⟨z, hze⟩ : ∃ z, y.2.2 = z := ⟨_, rfl⟩
      rw [hpe, hqe, hze] at hnx
      rw [hpe]
      rw [hze] at h6
      rw [hqe] at h7 h4 hlt
      rw [hpe] at hlt
      clear h2 h3 h5 h1
      have H7 := Lib.hid h7
      clear h7 hy hze hqe hpe
      go_wp2
      go_roundw
      case rel => exact ⟨q, rfl, H7.out⟩
      case measure => simp; omega

theorem ascii_seps : ∀ x, x < 128 → decide (0 ≤ Lib.indexByte sepL x.toUInt8) = isSep x := by decide +kernel

/-- Whatever the number: IndexRune says whether it is a separator. -/
theorem ir_any (x : Nat) (hx : x ≤ 1114111) (w : World) :
    Calls Tryz.prog 46 #[.string { data := #[229, 185, 180, 230, 156, 136, 230, 151, 165, 47, 45] }, .int .i32 (x : Int)] w fun e w' => ∃ v, e = .returned (.int .i64 v) ∧ (0 ≤ v ↔ isSep x = true) ∧ Below w.heap.size w w' := by
  by_cases h128 : x < 128
  · refine (Tryz.strings_IndexRune_ascii _ (x : Int) w (by omega) (by omega)).mono ?_
    rintro e w' ⟨rfl, rfl⟩
    refine ⟨_, rfl, ?_, Below.refl _ _⟩
    rw [← ascii_seps x h128, decide_eq_true_eq]
    exact Iff.rfl
  · by_cases h65 : x = 65533
    · subst h65
      refine (ir_mark w).mono ?_
      rintro e w' ⟨rfl, hb⟩
      exact ⟨_, rfl, by decide, hb⟩
    · have h65' : ((x : Int) == 65533) = false := by simp; omega
      cases hv : Go.validRune (x : Int) with
      | true => exact ir_val (x : Int) (by omega) (by omega) h65' hv w
      | false =>
        refine (ir_bad (x : Int) (by omega) h65' hv w).mono ?_
        rintro e w' ⟨rfl, hb⟩
        refine ⟨_, rfl, ⟨fun h => absurd h (by decide), fun h => ?_⟩, hb⟩
        simp only [isSep, decide_eq_true_eq] at h
        have : ¬ validRune (x : Int) = true := by rw [hv]; decide
        rw [valid_iff] at this
        omega

/-- What read asks of each character. -/
theorem sep_at (x : Nat) (hx : x ≤ 1114111) (w : World) :
    Calls Tryz.prog 28 #[.int .i32 (x : Int)] w fun e w' => e = .returned (.bool (isSep x)) ∧ Below w.heap.size w w' := by
  have H := Lib.hid (ir_any x hx)
  have hC : ∀ w, Calls Tryz.prog 29 #[.string { data := #[229, 185, 180, 230, 156, 136, 230, 151, 165, 47, 45] }, .int .i32 (x : Int)] w fun e w' => e = .returned (.bool (isSep x)) ∧ Below w.heap.size w w' := by
    intro w
    clear hx
    go_enter Tryz.func29, Tryz.ntmps29
    go_wp2_with (go_at_call 46; (with_reducible refine (H.out _).mono ?_); rintro e w1 ⟨v, rfl, hv, hb⟩; have HV := Lib.hid hv; clear hv)
    go_ret
    refine ⟨?_, hb⟩
    congr 2
    have hv := HV.out
    cases hs : isSep x with
    | true => have := hv.2 hs; simpa using this
    | false =>
      have : ¬ 0 ≤ v := fun h => by have := hv.1 h; rw [hs] at this; cases this
      simpa using this
  have HC := Lib.hid hC
  clear hC hx H
  go_enter Tryz.func28, Tryz.ntmps28
  go_wp2_with (go_at_call 29; (with_reducible refine (HC.out _).mono ?_); rintro e w1 ⟨rfl, hb⟩)
  go_ret
  exact ⟨rfl, hb⟩

theorem sep_fn (w : World) : PredGrows Tryz.prog 28 #[] isSep w := fun W x hx _ => sep_at x hx W

/-- The fields of a string. -/
theorem fields_at (s : ByteArray) (hs : s.size ≤ 4294967296) (w : World) :
    Calls Tryz.prog 27 #[.string s, .func (.func 28) #[] #[]] w fun e w' => ∃ A n, e = .returned (.slice (some ⟨A, 0, none⟩) n n) ∧ n = (Lib.goFieldsP isSep s).length ∧
      w'.ownsRow w.heap.size 9 1 (.slice (some ⟨A, 0, none⟩) n n) n ((Lib.goFieldsP isSep s).map Value.string) ∧ Below w.heap.size w w' := by
  refine (Tryz.strings_FieldsFunc_grows 28 #[] (fun _ _ => by kernel_rfl) isSep s w hs (sep_fn w)).mono ?_
  rintro e w' ⟨A, rfl, _, hown, hb⟩
  exact ⟨A, _, rfl, rfl, hown, hb⟩

end Go.Proofs.YteelmjmiankflaaGreatDoor.Cal

set_option linter.unusedVariables false
set_option linter.unusedSimpArgs false
namespace Go.Proofs.YteelmjmiankflaaGreatDoor.Num
open Go Go.RowKit Go.Proofs.YteelmjmiankflaaGreatDoor.Kit Go.Proofs.YteelmjmiankflaaGreatDoor.Utf

/-- The strings of a listed array. -/
theorem laid_arr {W : World} {l : List (String × DataW Unit)} {n : String} {d : DataW Unit} (hL : laidMet Tryz.prog l W) (hm : (n, d) ∈ l) (g : Nat) (t : TypeId) (k : Nat) (hg : Tryz.prog.globalNamed n = some g) (ht : (Tryz.prog.globals[g]?).map (·.type) = some t)
    (hu : Tryz.prog.underlying t = some (.array k 9)) (ss : List (List UInt8)) (hd : d = .agg (ss.map fun b => .lit (.string b))) (hk : ss.length = k) :
    ∀ i b, ss[i]? = some b → W.cell? ⟨g, i, none⟩ = some (.string ⟨b.toArray⟩) := by
  intro i b hb
  obtain ⟨g', t', cs, fuel, p, hg', ht', hv, hr⟩ := Lib.laidMet.reads hL hm
  obtain rfl := Option.some.inj (hg.symm.trans hg')
  obtain rfl := Option.some.inj (ht.symm.trans ht')
  obtain ⟨xs, m, _, ex, _, hl, hel⟩ := DataW.trod_array hu hr
  have hi : i < k := by rw [← hk]; exact (List.getElem?_eq_some_iff.1 hb).1
  have c5 : Tryz.prog.cellsOf 9 = 1 := by kernel_rfl
  have hE := hel i hi
  rw [c5, Nat.mul_one, List.getElem?_eq_getElem (by omega)] at hE
  obtain ⟨z, e1, e2, _⟩ := DataW.trod_string Tryz.underlying9 hE
  have e3 : xs.map (·.1) = ss.map fun b => (.lit (.string b) : DataW Unit) := by
    have := (Prod.mk.inj ex).1
    rw [hd] at this
    exact (DataW.agg.inj this).symm
  have e4 : (xs.map (·.1))[i]? = (ss.map fun b => (DataW.lit (.string b) : DataW Unit))[i]? := by rw [e3]
  rw [List.getElem?_map, List.getElem?_map, List.getElem?_eq_getElem (by omega : i < xs.length), hb, e2] at e4
  have hz : z.data.toList = b := by
    simp only [Option.map_some, Option.some.injEq, DataW.lit.injEq, Lit.string.injEq] at e4
    exact e4
  rw [World.var?_cell hg' hv i]
  have h0 : ((cs.toList.drop i).take 1)[0]? = some (.string z) := by rw [e1]; rfl
  have : cs.toList[i]? = some (.string z) := by simpa using h0
  have hzz : z = ⟨b.toArray⟩ := by apply ba_ext; rw [hz]
  rw [← hzz]
  simpa using this

theorem laid_size {W : World} {l : List (String × DataW Unit)} {n : String} {d : DataW Unit} (hL : laidMet Tryz.prog l W) (hm : (n, d) ∈ l) (g : Nat) (hg : Tryz.prog.globalNamed n = some g) : g < W.heap.size := by
  obtain ⟨g', t', cs, fuel, p, hg', ht', hv, hr⟩ := Lib.laidMet.reads hL hm
  obtain rfl := Option.some.inj (hg.symm.trans hg')
  simp only [World.var?, hg, Option.bind_some] at hv
  split at hv
  · rename_i h; exact (Array.getElem?_eq_some_iff.1 h).1
  · cases hv

def Tab (ss : List (List UInt8)) : DataW Unit := .agg (ss.map fun b => .lit (.string b))
def tPd : List (List UInt8) := (List.range 10).map fun i => encs [pd i]
def tFd : List (List UInt8) := (List.range 10).map fun i => encs [fd i]
def tPu : List (List UInt8) := (List.range 4).map fun i => encs (pu i)
def tFu : List (List UInt8) := (List.range 4).map fun i => encs (fu i)
def tGu : List (List UInt8) := (List.range 5).map fun i => encs (gu i)

theorem Laid.of {W : World} {l : List (String × DataW Unit)} (hL : laidMetH Tryz.prog l W) (hp : ∀ w, laidMetH Tryz.prog l w = laidMet Tryz.prog l w)
    (h1 : ("henkan/numeral.plainDigits", Tab tPd) ∈ l)
    (h2 : ("henkan/numeral.formalDigits", Tab tFd) ∈ l)
    (h3 : ("henkan/numeral.plainUnits", Tab tPu) ∈ l)
    (h4 : ("henkan/numeral.formalUnits", Tab tFu) ∈ l)
    (h5 : ("henkan/numeral.groupUnits", Tab tGu) ∈ l) : Laid W := by
  rw [hp] at hL
  have get : ∀ (n : Nat) (f : Nat → List UInt8) (i : Nat), i < n → ((List.range n).map f)[i]? = some (f i) := fun n f i hi => by
    rw [List.getElem?_map, List.getElem?_range hi]; rfl
  constructor
  · exact laid_size hL h5 8 (by kernel_rfl)
  all_goals intro d hd
  · exact laid_arr hL h1 4 97 10 (by kernel_rfl) (by kernel_rfl) Tryz.underlying97 tPd rfl rfl d _ (get 10 _ d hd)
  · exact laid_arr hL h2 6 97 10 (by kernel_rfl) (by kernel_rfl) Tryz.underlying97 tFd rfl rfl d _ (get 10 _ d hd)
  · exact laid_arr hL h3 3 96 4 (by kernel_rfl) (by kernel_rfl) Tryz.underlying96 tPu rfl rfl d _ (get 4 _ d hd)
  · exact laid_arr hL h4 7 96 4 (by kernel_rfl) (by kernel_rfl) Tryz.underlying96 tFu rfl rfl d _ (get 4 _ d hd)
  · exact laid_arr hL h5 8 117 5 (by kernel_rfl) (by kernel_rfl) Tryz.underlying117 tGu rfl rfl d _ (get 5 _ d hd)

end Go.Proofs.YteelmjmiankflaaGreatDoor.Num

set_option linter.unusedVariables false
set_option linter.unusedSimpArgs false
namespace Go.Proofs.YteelmjmiankflaaGreatDoor.Cal
open Go Go.RowKit Go.Proofs.YteelmjmiankflaaGreatDoor.Kit Go.Proofs.YteelmjmiankflaaGreatDoor.Utf
open Go.Proofs.YteelmjmiankflaaGreatDoor.Num (tx laid_arr laid_size Tab)

theorem laid_tab {W : World} {l : List (String × DataW Unit)} {n : String} {k : IntKind} {zs : List Int} (hL : laidMet Tryz.prog l W) (hm : (n, Lib.tabData k zs) ∈ l) (g : Nat) (t e : TypeId) (len : Nat)
    (hg : Tryz.prog.globalNamed n = some g) (ht : (Tryz.prog.globals[g]?).map (·.type) = some t) (hu : Tryz.prog.underlying t = some (.array len e)) (he : Tryz.prog.underlying e = some (.int k)) (hce : Tryz.prog.cellsOf e = 1) (hct : Tryz.prog.cellsOf t = len) : Lib.TabIs Tryz.prog W n k zs := by
  obtain ⟨g', t', cs, fuel, p, hg', ht', hv, hr⟩ := Lib.laidMet.reads hL hm
  obtain rfl := Option.some.inj (hg.symm.trans hg')
  obtain rfl := Option.some.inj (ht.symm.trans ht')
  unfold Lib.TabIs
  rw [hv, ← Lib.cells_of_tab hu he hce hct hr]

def tMd : List Int := [31, 28, 31, 30, 31, 30, 31, 31, 30, 31, 30, 31]
theorem tMd_is : ∀ m : Nat, m < 12 → tMd.getD m 0 = mlen (m + 1) := by decide
def tWd : List (List UInt8) := (List.range 7).map fun i => encs [wdC i]

theorem CLaid.of {W : World} {l : List (String × DataW Unit)} (hL : laidMetH Tryz.prog l W) (hp : ∀ w, laidMetH Tryz.prog l w = laidMet Tryz.prog l w)
    (h1 : ("henkan/caldate.monthDays", Lib.tabData .i64 tMd) ∈ l) (h2 : ("henkan/caldate.weekdays", Tab tWd) ∈ l) : CLaid W := by
  rw [hp] at hL
  have hT := laid_tab hL h1 2 76 3 12 (by kernel_rfl) (by kernel_rfl) Tryz.underlying76 Tryz.underlying3 (by kernel_rfl) (by kernel_rfl)
  refine ⟨laid_size hL h1 2 (by kernel_rfl), fun m hm => ?_, fun d hd => ?_⟩
  · rw [← tMd_is m hm]
    exact hT.cell (by kernel_rfl) m hm
  · exact laid_arr hL h2 1 63 7 (by kernel_rfl) (by kernel_rfl) Tryz.underlying63 tWd rfl rfl d _ (by
      unfold tWd; rw [List.getElem?_map, List.getElem?_range hd]; rfl)

def eraData : DataW Unit := .agg ((List.range 5).map fun k => .agg [.lit (.string (encs (eN k))), .lit (.int .i64 (eY k)), .lit (.int .i64 (eM k)), .lit (.int .i64 (eD k))])

theorem first_of {cs : List Value} {a b : Nat} {v : Value} (h : (((cs.drop a).take 4).drop b).take 1 = [v]) (hb : b < 4) : cs[a + b]? = some v := by
  have h0 : ((((cs.drop a).take 4).drop b).take 1)[0]? = some v := by rw [h]; rfl
  simpa [List.getElem?_take, List.getElem?_drop, hb] using h0

theorem go5 {cs : List Value} (hE : ∀ i, i < 5 → cs[4 * i]? = some (.string (tx (eN i))) ∧ cs[4 * i + 1]? = some (.int .i64 (eY i)) ∧ cs[4 * i + 2]? = some (.int .i64 (eM i)) ∧ cs[4 * i + 3]? = some (.int .i64 (eD i))) (j : Nat) (hj : j < 20) : cs[j]? = eraA.toList[j]? := by
    match j, hj with
    | 0, _ => exact (hE 0 (by omega)).1
    | 1, _ => exact (hE 0 (by omega)).2.1
    | 2, _ => exact (hE 0 (by omega)).2.2.1
    | 3, _ => exact (hE 0 (by omega)).2.2.2
    | 4, _ => exact (hE 1 (by omega)).1
    | 5, _ => exact (hE 1 (by omega)).2.1
    | 6, _ => exact (hE 1 (by omega)).2.2.1
    | 7, _ => exact (hE 1 (by omega)).2.2.2
    | 8, _ => exact (hE 2 (by omega)).1
    | 9, _ => exact (hE 2 (by omega)).2.1
    | 10, _ => exact (hE 2 (by omega)).2.2.1
    | 11, _ => exact (hE 2 (by omega)).2.2.2
    | 12, _ => exact (hE 3 (by omega)).1
    | 13, _ => exact (hE 3 (by omega)).2.1
    | 14, _ => exact (hE 3 (by omega)).2.2.1
    | 15, _ => exact (hE 3 (by omega)).2.2.2
    | 16, _ => exact (hE 4 (by omega)).1
    | 17, _ => exact (hE 4 (by omega)).2.1
    | 18, _ => exact (hE 4 (by omega)).2.2.1
    | 19, _ => exact (hE 4 (by omega)).2.2.2
    | n + 20, h => exact absurd h (by omega)

theorem laid_eras {W : World} {l : List (String × DataW Unit)} (hL : laidMet Tryz.prog l W) (hm : ("henkan/caldate.eras", eraData) ∈ l) : ∃ t fz, W.heap[0]? = some (.cells eraA t fz) := by
  obtain ⟨g', t', cs, fuel, p, hg', ht', hv, hr⟩ := Lib.laidMet.reads hL hm
  obtain rfl : 0 = g' := Option.some.inj ((show Tryz.prog.globalNamed "henkan/caldate.eras" = some 0 by kernel_rfl).symm.trans hg')
  obtain rfl : 52 = t' := Option.some.inj ((show (Tryz.prog.globals[0]?).map (·.type) = some 52 by kernel_rfl).symm.trans ht')
  obtain ⟨xs, m, _, ex, hlen, hl, hel⟩ := DataW.trod_array Tryz.underlying52 hr
  have c20 : Tryz.prog.cellsOf 52 = 20 := by kernel_rfl
  have c4 : Tryz.prog.cellsOf 51 = 4 := by kernel_rfl
  have cS : Tryz.prog.cellsOf 9 = 1 := by kernel_rfl
  have cI : Tryz.prog.cellsOf 3 = 1 := by kernel_rfl
  rw [c20] at hlen
  have e3 : xs.map (·.1) = (List.range 5).map fun k => (.agg [.lit (.string (encs (eN k))), .lit (.int .i64 (eY k)), .lit (.int .i64 (eM k)), .lit (.int .i64 (eD k))] : DataW Unit) := by
    have := (Prod.mk.inj ex).1
    exact (DataW.agg.inj this).symm
  have hE : ∀ i, i < 5 → cs.toList[4 * i]? = some (.string (tx (eN i))) ∧ cs.toList[4 * i + 1]? = some (.int .i64 (eY i)) ∧ cs.toList[4 * i + 2]? = some (.int .i64 (eM i)) ∧ cs.toList[4 * i + 3]? = some (.int .i64 (eD i)) := by
    intro i hi
    have h1 := hel i hi
    rw [c4, List.getElem?_eq_getElem (by omega)] at h1
    have e4 : (xs[i]'(by omega)).1 = .agg [.lit (.string (encs (eN i))), .lit (.int .i64 (eY i)), .lit (.int .i64 (eM i)), .lit (.int .i64 (eD i))] := by
      have := congrArg (·[i]?) e3
      simpa [List.getElem?_map, List.getElem?_range hi, List.getElem?_eq_getElem (show i < xs.length by omega)] using this
    obtain ⟨y0, y1, y2, y3, n, ey, _, h20, h21, h22, h23⟩ := Go.Joins.trod_struct4 Tryz.underlying51 h1
    rw [ey] at e4
    simp only [DataW.agg.injEq, List.cons.injEq, and_true] at e4
    obtain ⟨a0, a1, a2, a3⟩ := e4
    simp only [cS, cI] at h20 h21 h22 h23
    obtain ⟨z0, b0, rfl, _⟩ := DataW.trod_string Tryz.underlying9 h20
    obtain ⟨z1, b1, rfl, _⟩ := DataW.trod_int Tryz.underlying3 h21
    obtain ⟨z2, b2, rfl, _⟩ := DataW.trod_int Tryz.underlying3 h22
    obtain ⟨z3, b3, rfl, _⟩ := DataW.trod_int Tryz.underlying3 h23
    simp only [DataW.lit.injEq, Lit.string.injEq, Lit.int.injEq, true_and] at a0 a1 a2 a3
    have q0 := first_of b0 (by decide)
    have q1 := first_of b1 (by decide)
    have q2 := first_of b2 (by decide)
    have q3 := first_of b3 (by decide)
    rw [Nat.mul_comm] at q0 q1 q2 q3
    have hz : z0 = tx (eN i) := by apply ba_ext; exact a0
    rw [hz] at q0
    rw [a1] at q1
    rw [a2] at q2
    rw [a3] at q3
    exact ⟨q0, q1, q2, q3⟩
  have hcs : cs = eraA := by
    apply Array.toList_inj.1
    apply List.ext_getElem?
    intro j
    by_cases hj : j < 20
    · exact go5 hE j hj
    · rw [List.getElem?_eq_none (by omega), List.getElem?_eq_none (by show 20 ≤ j; omega)]
  simp only [World.var?, hg', Option.bind_some] at hv
  split at hv
  · rename_i c t fz h
    obtain rfl := Option.some.inj hv
    exact ⟨t, fz, by rw [← hcs]; exact h⟩
  · cases hv

theorem ELaid.of {W : World} {l : List (String × DataW Unit)} (hL : laidMetH Tryz.prog l W) (hp : ∀ w, laidMetH Tryz.prog l w = laidMet Tryz.prog l w)
    (h1 : ("henkan/caldate.monthDays", Lib.tabData .i64 tMd) ∈ l) (h2 : ("henkan/caldate.weekdays", Tab tWd) ∈ l) (h3 : ("henkan/caldate.eras", eraData) ∈ l) : ELaid W :=
  ⟨CLaid.of hL hp h1 h2, laid_eras (by rw [hp] at hL; exact hL) h3⟩

end Go.Proofs.YteelmjmiankflaaGreatDoor.Cal

set_option linter.unusedVariables false
set_option linter.unusedSimpArgs false
namespace Go.Proofs.YteelmjmiankflaaGreatDoor.Cal
open Go Go.RowKit Go.Proofs.YteelmjmiankflaaGreatDoor.Kit Go.Proofs.YteelmjmiankflaaGreatDoor.Utf
open Go.Proofs.YteelmjmiankflaaGreatDoor.Num (tx laid_arr laid_size Tab tPd tFd tPu tFu tGu)

theorem FLaid.of {W : World} {l : List (String × DataW Unit)} (hL : laidMetH Tryz.prog l W) (hp : ∀ w, laidMetH Tryz.prog l w = laidMet Tryz.prog l w)
    (h0 : ("internal/strconv.uint64pow10", Lib.tabData .u64 Lib.pow10Tab) ∈ l)
    (h1 : ("henkan/numeral.plainDigits", Tab tPd) ∈ l)
    (h2 : ("henkan/numeral.formalDigits", Tab tFd) ∈ l)
    (h3 : ("henkan/numeral.plainUnits", Tab tPu) ∈ l)
    (h4 : ("henkan/numeral.formalUnits", Tab tFu) ∈ l)
    (h5 : ("henkan/numeral.groupUnits", Tab tGu) ∈ l)
    (h6 : ("henkan/caldate.monthDays", Lib.tabData .i64 tMd) ∈ l) (h7 : ("henkan/caldate.weekdays", Tab tWd) ∈ l) (h8 : ("henkan/caldate.eras", eraData) ∈ l) : FLaid W := by
  refine ⟨ELaid.of hL hp h6 h7 h8, ?_, ?_⟩
  · exact Num.Laid.of hL hp h1 h2 h3 h4 h5
  · rw [hp] at hL
    exact laid_tab hL h0 11 142 104 20 (by kernel_rfl) (by kernel_rfl) Tryz.underlying142 Tryz.underlying104 (by kernel_rfl) (by kernel_rfl)

end Go.Proofs.YteelmjmiankflaaGreatDoor.Cal

set_option linter.unusedVariables false
set_option linter.unusedSimpArgs false
namespace Go.Proofs.YteelmjmiankflaaGreatDoor.Cal
open Go Go.RowKit Go.Proofs.YteelmjmiankflaaGreatDoor.Kit Go.Proofs.YteelmjmiankflaaGreatDoor.Utf
open Go.Proofs.YteelmjmiankflaaGreatDoor.Num (tx laid_arr laid_size Tab tPd tFd tPu tFu tGu)

theorem laid_drop {W : World} : ∀ (a r : List (String × DataW Unit)), laidMet Tryz.prog (a ++ r) W → laidMet Tryz.prog r W
  | [], r, h => h
  | x :: a, r, h => laid_drop a r h.tail
theorem star_err : "*" ++ "errors.errorString" = "*errors.errorString" := by decide
theorem row_err (u : TypeId) (h : Tryz.prog.typeName? 3 u = some "*errors.errorString") : u = 149 :=
  typeName_ptr_named (nm := "errors.errorString") (by rw [star_err]; kernel_rfl) (by kernel_rfl) (by decide) u (by rw [star_err]; exact h)

/-- All of them. -/
structure GLaid (w : World) : Prop where
  f : FLaid w
  syn : ∃ tp p, w.var? Tryz.prog "strconv.ErrSyntax" = some #[.iface tp p]
  ran : ∃ tp p, w.var? Tryz.prog "strconv.ErrRange" = some #[.iface tp p]
theorem GLaid.next {w w' : World} (h : GLaid w) (hb : Below w.heap.size w w') : GLaid w' := by
  obtain ⟨t1, p1, h1⟩ := h.syn
  obtain ⟨t2, p2, h2⟩ := h.ran
  exact ⟨h.f.next hb, ⟨t1, p1, Joins.var_stays (g := 9) (by kernel_rfl) h1 hb (Nat.le_refl _)⟩, ⟨t2, p2, Joins.var_stays (g := 10) (by kernel_rfl) h2 hb (Nat.le_refl _)⟩⟩

theorem GLaid.of {W : World} {l : List (String × DataW Unit)} {b1 b2 : List UInt8} (hL : laidMetH Tryz.prog l W) (hp : ∀ w, laidMetH Tryz.prog l w = laidMet Tryz.prog l w)
    (h0 : ("internal/strconv.uint64pow10", Lib.tabData .u64 Lib.pow10Tab) ∈ l)
    (h1 : ("henkan/numeral.plainDigits", Tab tPd) ∈ l)
    (h2 : ("henkan/numeral.formalDigits", Tab tFd) ∈ l)
    (h3 : ("henkan/numeral.plainUnits", Tab tPu) ∈ l)
    (h4 : ("henkan/numeral.formalUnits", Tab tFu) ∈ l)
    (h5 : ("henkan/numeral.groupUnits", Tab tGu) ∈ l)
    (h6 : ("henkan/caldate.monthDays", Lib.tabData .i64 tMd) ∈ l) (h7 : ("henkan/caldate.weekdays", Tab tWd) ∈ l) (h8 : ("henkan/caldate.eras", eraData) ∈ l)
    (h9 : ("strconv.ErrRange", .iface "*errors.errorString" (.ptr (.agg [.lit (.string b1)]))) ∈ l) (h10 : ("strconv.ErrSyntax", .iface "*errors.errorString" (.ptr (.agg [.lit (.string b2)]))) ∈ l) : GLaid W := by
  refine ⟨FLaid.of hL hp h0 h1 h2 h3 h4 h5 h6 h7 h8, ?_, ?_⟩
  · rw [hp] at hL
    obtain ⟨a, r, rfl⟩ := List.append_of_mem h10
    obtain ⟨x, s, hv, _⟩ := laid_sentinel (laid_drop _ _ hL) (g := 9) (ti := 70) (tp := 149) (te := 151) (ts := 9) (by kernel_rfl) (by kernel_rfl) Tryz.underlying70 row_err Tryz.underlying149 Tryz.underlying151 rfl rfl Tryz.underlying9 (by kernel_rfl) (by kernel_rfl)
    exact ⟨_, _, hv⟩
  · rw [hp] at hL
    obtain ⟨a, r, rfl⟩ := List.append_of_mem h9
    obtain ⟨x, s, hv, _⟩ := laid_sentinel (laid_drop _ _ hL) (g := 10) (ti := 70) (tp := 149) (te := 151) (ts := 9) (by kernel_rfl) (by kernel_rfl) Tryz.underlying70 row_err Tryz.underlying149 Tryz.underlying151 rfl rfl Tryz.underlying9 (by kernel_rfl) (by kernel_rfl)
    exact ⟨_, _, hv⟩

end Go.Proofs.YteelmjmiankflaaGreatDoor.Cal
