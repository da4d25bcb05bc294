/-
  PackedLeast returns true for every list of numbers: the width of a sequence is the least one. Conditions: none.
-/
import Derived.Test.YtleegkocahobkaaPkI
import Derived.OpenShut
import Derived.ShutString
import Derived.ChangeOld
import Derived.HandedShaped
import Derived.LaidMore
import Derived.Lay
import Derived.SizedLaws
import Derived.Deep.DeepHandedRow
import Derived.Test.YtleegkocahobkaaBvFr
set_option linter.unusedVariables false
set_option linter.unusedSimpArgs false
set_option maxRecDepth 100000
namespace Go.Proofs.Ytleegkocahobkaa.packedLeast
open Go Go.RowKit Go.ChangeShapes Go.WideShapes Go.ChangeAt Go.Proofs.Ytleegkocahobkaa Go.Proofs.Ytleegkocahobkaa.Kit Go.Proofs.Ytleegkocahobkaa.Bv
open Go.ChangeMaps (open_string shut_string)
open Go.Proofs.Ytleegkocahobkaa.Pk
/-- What the loop keeps: a number found that needs the width, or none among the first i. -/
def LRel (l : List Nat) (V n : Nat) (q y : Value) : Prop := ∃ (i : Nat) (b : Bool), i ≤ n ∧ y = .int .i64 i ∧ q = .bool b ∧ Hid (b = true ∨ ∀ x ∈ l.take i, x < 2 ^ V)
set_option maxHeartbeats 4000000 in
theorem walk (a0 : Option Addr) (len0 cap0 : Nat) (z0 : List Int) (w : World) (w0 : IsRow .u64 w a0 len0 cap0 z0) :
    Calls Try.prog 8 #[.slice a0 len0 cap0] w fun e w' => e = .returned (.bool true) ∧ Below w.heap.size w w' := by
  obtain ⟨l, hR, rfl, hx⟩ := u64_of_row w0
  clear w0
  have hlen := hR.len.2
  unfold maxLen at hlen
  by_cases hl : l.length ≤ 3000
  · have HN := Lib.hid (pnew_at l a0 cap0 w (by omega) hx hR)
    have HR := Lib.hid hR
    have HWK := Lib.hid works_pk
    have hW := wid_64 hx
    have HLT := Lib.hid (fun x (h : x ∈ l) => wid_lt h)
    have HLE := Lib.hid (fun m (h : ∀ x ∈ l, x < 2 ^ m) => (wid_le l m).2 h)
    have hlz : (l.length : Int) ≤ 3000 := by omega
    have HWP := Lib.hid (fun (B0 B1 p : Nat) (w : World) (h : PkAt B0 B1 w p l) => wid_pk h)
    obtain ⟨n, hn⟩ : ∃ n, l.length = n := ⟨_, rfl⟩
    have HNN := Lib.hid hn
    rw [hn] at hlen hl hlz HN HR ⊢
    obtain ⟨W, hWW⟩ : ∃ W, wid l = W := ⟨_, rfl⟩
    rw [hWW] at hW HLT HLE HWP
    clear hn hR hx hWW
    by_cases hW0 : W = 0
    · have hz : ((W : Int) == 0) = true := by rw [beq_iff_eq]; omega
      subst hW0
      go_enter Try.func8, Try.ntmps8
      go_wp2_with (first
        | (go_at_call 11; (with_reducible refine HN.out.mono ?_); rintro e w1 ⟨p, rfl, hv, hb1⟩; have HW1 := Lib.hid (HWP.out _ _ _ _ hv); clear hv)
        | (go_at_call 13; (with_reducible refine HW1.out.mono ?_); rintro e w2 ⟨rfl, rfl⟩))
      clear HN HW1 HWP
      go_loopw [6, 7] (fun q y wr => ∃ i : Nat, i ≤ n ∧ y = .int .i64 i ∧ q = .bool true ∧ w1 = wr) (fun _ y _ => n - (intOf y).toNat)
      case atStart => exact ⟨0, Nat.zero_le _, rfl, rfl, rfl⟩
      case round =>
        obtain ⟨i, hi, rfl, rfl, hww⟩ := hrel
        subst hww
        by_cases hlt : i < n
        · obtain ⟨x, hxi⟩ : ∃ x, l[i]? = some x := ⟨_, List.getElem?_eq_getElem (by rw [HNN.out]; exact hlt)⟩
          obtain ⟨b, off, rfl, hblt, hc0⟩ := Reads.cell HR.out (u64s_get hxi)
          have hx0 := HLT.out x (List.mem_of_getElem? hxi)
          rw [Nat.pow_zero] at hx0
          obtain rfl : x = 0 := by omega
          have hcell : w1.cell? ⟨b, off + i, none⟩ = some (.int .u64 0) := by rw [hb1.cell (p := ⟨b, off + i, none⟩) hblt]; exact hc0
          clear hxi hc0 hx0
          go_wp2
          go_roundw
          case rel => exact ⟨i + 1, by omega, by go_num, rfl, trivial⟩
          case measure => simp [intOf]; omega
        · obtain rfl : i = n := by omega
          go_wp2_with (go_at_call 16; (with_reducible refine (HWK.out _).mono ?_); rintro e w9 ⟨rfl, hb9⟩)
          go_ret
          exact ⟨rfl, hb1.trans (hb9.mono hb1.size)⟩
    · have hz : ((W : Int) == 0) = false := by rw [beq_eq_false_iff_ne]; omega
      obtain ⟨V, hV⟩ : ∃ V, W = V + 1 := ⟨W - 1, by omega⟩
      have hVz : (W : Int) - 1 = (V : Int) := by omega
      have hVw : IntKind.u64.wrap (V : Int) = (V : Int) := by rw [IntKind.wrap_u64]; omega
      have hWw : IntKind.u64.wrap (W : Int) = (W : Int) := by rw [IntKind.wrap_u64]; omega
      have hV64 : V < 64 := by omega
      have HVW := Lib.hid hV
      clear hV hW0
      go_enter Try.func8, Try.ntmps8
      go_wp2_with (first
        | (go_at_call 11; (with_reducible refine HN.out.mono ?_); rintro e w1 ⟨p, rfl, hv, hb1⟩; have HW1 := Lib.hid (HWP.out _ _ _ _ hv); clear hv)
        | (go_at_call 13; (with_reducible refine HW1.out.mono ?_); rintro e w2 ⟨rfl, rfl⟩))
      clear HN HW1 HWP
      go_loopw [6, 7] (fun q y wr => LRel l V n q y ∧ w1 = wr) (fun _ y _ => n - (intOf y).toNat)
      case atStart => exact ⟨⟨0, false, Nat.zero_le _, rfl, rfl, Lib.hid (.inr (by intro x hx; simp at hx))⟩, rfl⟩
      case round =>
        obtain ⟨⟨i, bq, hi, rfl, rfl, hq⟩, hww⟩ := hrel
        subst hww
        by_cases hlt : i < n
        · obtain ⟨x, hxi⟩ : ∃ x, l[i]? = some x := ⟨_, List.getElem?_eq_getElem (by rw [HNN.out]; exact hlt)⟩
          obtain ⟨b, off, rfl, hblt, hc0⟩ := Reads.cell HR.out (u64s_get hxi)
          have hxW := HLT.out x (List.mem_of_getElem? hxi)
          have hcell : w1.cell? ⟨b, off + i, none⟩ = some (.int .u64 (x : Int)) := by rw [hb1.cell (p := ⟨b, off + i, none⟩) hblt]; exact hc0
          have hshW := shr_u 27 x W 0 (by rw [Nat.min_eq_left (by omega)]; exact Nat.div_eq_of_lt hxW)
          obtain ⟨X, hX⟩ : ∃ X, x / 2 ^ V = X := ⟨_, rfl⟩
          have hshV := shr_u 27 x V X (by rw [Nat.min_eq_left (by omega)]; exact hX)
          have hXV : X = 0 → x < 2 ^ V := fun h => by rw [h] at hX; have := (div_zero_iff x V).1 hX; exact (blen_le x V).1 this
          have hnx : ∀ b', b' = true ∨ (bq = false ∧ x < 2 ^ V) → Hid (b' = true ∨ ∀ y ∈ l.take (i + 1), y < 2 ^ V) := fun b' hb' => Lib.hid (by
            rcases hb' with h | ⟨h1, h2⟩
            · exact .inl h
            · right
              rcases hq.out with h | h
              · rw [h] at h1; cases h1
              · intro y hy
                rw [List.take_add_one, hxi, List.mem_append] at hy
                rcases hy with hy | hy
                · exact h y hy
                · simp at hy; subst hy; exact h2)
          simp only [Int.cast_ofNat_Int] at hshW
          by_cases hW64 : W < 64
          · have hWz : (W : Int) < 64 := by omega
            cases bq with
            | true =>
              have HNX := hnx true (.inl rfl)
              clear hnx hXV hX hxW hxi hc0 hq
              go_wp2
              go_roundw
              case rel => exact ⟨⟨i + 1, true, by omega, by go_num, rfl, HNX⟩, trivial⟩
              case measure => simp [intOf]; omega
            | false =>
              by_cases hX0 : X = 0
              · have HNX := hnx false (.inr ⟨rfl, hXV hX0⟩)
                have hbe : ((X : Int) != 0) = false := by rw [bne_eq_false_iff_eq]; omega
                subst hX0
                clear hnx hXV hX hxW hxi hc0 hq
                go_wp2
                go_roundw
                case rel => exact ⟨⟨i + 1, false, by omega, by go_num, rfl, HNX⟩, trivial⟩
                case measure => simp [intOf]; omega
              · have HNX := hnx true (.inl rfl)
                have hbe : ((X : Int) != 0) = true := by rw [bne_iff_ne]; omega
                clear hnx hXV hX hxW hxi hc0 hq
                go_wp2
                go_roundw
                case rel => exact ⟨⟨i + 1, true, by omega, by go_num, rfl, HNX⟩, trivial⟩
                case measure => simp [intOf]; omega
          · have hWz : (64 : Int) ≤ (W : Int) := by omega
            cases bq with
            | true =>
              have HNX := hnx true (.inl rfl)
              clear hnx hXV hX hxW hxi hc0 hq
              go_wp2
              go_roundw
              case rel => exact ⟨⟨i + 1, true, by omega, by go_num, rfl, HNX⟩, trivial⟩
              case measure => simp [intOf]; omega
            | false =>
              by_cases hX0 : X = 0
              · have HNX := hnx false (.inr ⟨rfl, hXV hX0⟩)
                have hbe : ((X : Int) != 0) = false := by rw [bne_eq_false_iff_eq]; omega
                subst hX0
                clear hnx hXV hX hxW hxi hc0 hq
                go_wp2
                go_roundw
                case rel => exact ⟨⟨i + 1, false, by omega, by go_num, rfl, HNX⟩, trivial⟩
                case measure => simp [intOf]; omega
              · have HNX := hnx true (.inl rfl)
                have hbe : ((X : Int) != 0) = true := by rw [bne_iff_ne]; omega
                clear hnx hXV hX hxW hxi hc0 hq
                go_wp2
                go_roundw
                case rel => exact ⟨⟨i + 1, true, by omega, by go_num, rfl, HNX⟩, trivial⟩
                case measure => simp [intOf]; omega
        · obtain rfl : i = n := by omega
          have hbt : bq = true := by
            rcases hq.out with h | h
            · exact h
            · rw [List.take_of_length_le (by rw [HNN.out]; exact Nat.le_refl _)] at h
              have := HLE.out V h
              have := HVW.out
              omega
          subst hbt
          go_wp2_with (go_at_call 16; (with_reducible refine (HWK.out _).mono ?_); rintro e w9 ⟨rfl, hb9⟩)
          go_ret
          exact ⟨rfl, hb1.trans (hb9.mono hb1.size)⟩
  · have hlz : (3000 : Int) < (l.length : Int) := by omega
    clear hl hR hx
    go_enter Try.func8, Try.ntmps8
    go_wp2
    go_ret
    exact ⟨rfl, Below.refl _ _⟩
theorem own : ownKnob Try.prog.godebug = none := by kernel_rfl
theorem laidOut : laidOutB Try.prog = true := by kernel_rfl

set_option maxRecDepth 100000 in
theorem lifted (os : Os) (started : os.Started) (H : Type) (enc : TypeId × Value → H) :
    ReturnsInHanded {} Try.checked os 8 .any (Rows.packedLeastSpec.pre6 enc Try.prog Try.f8 Rows.packedLeastRow.domain false) (Rows.packedLeastSpec.post enc Try.prog Try.f8 false true false false) := by
  refine returnsInHanded_of_change_shaped (C := Try.checked) own started (by kernel_rfl) Try.func8
    (ChangeSpec.witness6 (enc := enc) (C := Try.checked) false ⟨#[], #[.slice none 0 0], []⟩ 8 (by kernel_rfl) (by kernel_rfl) (by kernel_rfl) (by kernel_rfl)) ?_
  intro W base args ds gs before hval0 hW hcnd hsz0 hsh _
  have hval : ∀ (j : Nat) t v, Try.f8.params[j]? = some t → args[j]? = some v → Value.okWide Try.prog W .any base t v := hval0
  have hW' := hW
  obtain ⟨p, q, hA0, hV, rfl, hfz, hnd⟩ := hW
  have hA : DataW.TrodAll enc Try.prog W 0 (fun _ => true) true Try.f8.params.toList args.toList ds p := hA0
  rw [Try.params8] at hA hval
  obtain ⟨v0, vs0, d0, ds0, p0, q0, hargs, rfl, rfl, h0, r0⟩ := trodAll_cons hA
  obtain ⟨rfl, rfl, rfl⟩ := trodAll_nil r0
  obtain rfl : args = #[v0] := by cases args; simp_all
  obtain ⟨rfl, rfl⟩ := trodVars_none hV
  obtain ⟨a0, len0, cap0, rfl⟩ := okWide_slice Try.underlying22 (hval 0 22 v0 rfl rfl)
  have k0 := h0
  have lt0 : ∀ x ∈ p0, x.block < W.heap.size := by obtain ⟨m, hm⟩ := k0; exact DataW.trod_lt m _ _ _ hm
  obtain ⟨z0, w0⟩ : ∃ zs, IsRow .u64 W a0 len0 cap0 zs := by
    obtain ⟨fuel, hf⟩ := h0
    rcases open_ints Try.underlying22 Try.underlying27 (by kernel_rfl) hf with ⟨hcs, _⟩ | ⟨x, l, c, zs, hcs, _, hl, hm, hz, _, hcell, hwz⟩
    · simp [Value.cells] at hcs
      obtain ⟨rfl, rfl, rfl⟩ := hcs
      exact ⟨[], .inl ⟨rfl, rfl, rfl, rfl⟩⟩
    · simp [Value.cells] at hcs
      obtain ⟨rfl, rfl, rfl⟩ := hcs
      exact ⟨zs, .inr ⟨_, rfl, hl, hm, by simpa using hz, hcell, hwz⟩⟩
  clear hA0 hval0
  refine (walk a0 len0 cap0 z0 W w0).mono fun e W' ⟨he, bel⟩ => ?_
  subst he
  exact ⟨_, rfl, _, _, _, [], _, [], hW', trodAll_mk1 (shut_bool Try.underlying4 _), (trodAll_cons_mk (Below.trod laidOut (by kernel_rfl) (of_decide_eq_true (by kernel_rfl)) k0 bel lt0) trodAll_mk0), rfl, bel.frame _, fun h => by cases h⟩

theorem over : Rows.packedLeastRow.holds Try.pinned (OpenSpec.ofChange Rows.packedLeastSpec) :=
  OpenClaim.holds_of_wide 8 Try.f8 rfl rfl rfl rfl rfl rfl rfl ⟨rfl, rfl, rfl, rfl, rfl⟩ rfl rfl rfl rfl rfl (by kernel_rfl) Try.func8 (by kernel_rfl)
    (of_decide_eq_true (by kernel_rfl)) (by unfold Func.isWrapper; first | (rw [if_pos (by decide +kernel)]; kernel_rfl) | (rw [if_neg (by decide +kernel)]; exact ⟨rfl, rfl⟩))
    (fun os started H enc _ => lifted os started H enc)

theorem proved : Rows.PackedLeastSaid := over
end Go.Proofs.Ytleegkocahobkaa.packedLeast
