/-
  UtfWrites returns true for every list of numbers: utf.Text agrees with the reference and leaves its argument as it is. Conditions: none.
-/
import Derived.Test.YtmfkieejopmaaaaUtfL
import Derived.Test.YtmfkieejopmaaaaKit2
import Derived.OpenShut
import Derived.ShutString
import Derived.ChangeOld
set_option linter.unusedVariables false
set_option linter.unusedSimpArgs false
namespace Go.Proofs.Ytmfkieejopmaaaa.utfWrites
open Go Go.RowKit Go.ChangeShapes Go.WideShapes Go.ChangeAt Go.Proofs.Ytmfkieejopmaaaa Go.Proofs.Ytmfkieejopmaaaa.Kit
open Go.ChangeMaps (open_string shut_string)
open Go.Proofs.Ytmfkieejopmaaaa.Utf

theorem walk (a0 : Option Addr) (len0 cap0 : Nat) (z0 : List Int) (w : World) (w0 : IsRow .i32 w a0 len0 cap0 z0) :
    Calls Try.prog 4 #[.slice a0 len0 cap0] w fun e w' => e = .returned (.bool true) ∧ Below w.heap.size w w' := by
  obtain ⟨hl1, hl2, hl3⟩ := w0.len
  unfold maxLen at hl2
  by_cases hs : len0 ≤ 1000
  · have hr0 := w0.reads
    have hlen : (z0.take len0).length = len0 := by simp; omega
    obtain ⟨l, hL⟩ : ∃ l, z0.take len0 = l := ⟨_, rfl⟩
    obtain ⟨i0, hi, hz0, hz1, hz2⟩ := info_parts info_i32
    have hown0 := own_empty w 21 w.heap.size w.heap.size 1 rfl (Nat.le_refl _)
    have hb0 : Below w.heap.size w (w.alloc (.cells #[] 21)) := (Below.refl _ _).alloc (Nat.le_refl _) _
    have fin : ∀ (v : Value) (wx : World), wx.ownsRow w.heap.size 21 1 v l.length (ints l) → Below w.heap.size w wx → Reads wx v (ints l) ∧ Reads wx (.slice a0 len0 cap0) (ints l) := fun v wx h1 h2 => by
      refine ⟨own_reads h1, ?_⟩
      rw [hL] at hr0; exact hr0.later h2
    have FIN := Lib.hid fin; clear fin
    have hll : l.length ≤ 1000 := by rw [← hL, hlen]; exact hs
    cases a0 with
    | none =>
      have hnil : len0 = 0 ∧ cap0 = 0 := by
        rcases w0 with ⟨_, h1, h2, _⟩ | ⟨x, h, _⟩
        · exact ⟨h1, h2⟩
        · cases h
      obtain ⟨rfl, rfl⟩ := hnil
      have hl0 : l = [] := by rw [← hL]; rfl
      have hown1 : (w.alloc (.cells #[] 21)).ownsRow w.heap.size 21 1 (.slice (some ⟨w.heap.size, 0, none⟩) 0 0) l.length (ints l) := by rw [hl0]; exact hown0
      have hr1 := FIN.out _ _ hown1 hb0
      clear w0 hr0 hL hlen hl0
      go_enter Try.func4, Try.ntmps4
      go_wp2_with (first
        | (at_builtin; refine wpList_append_own_none rfl _ _ _ rfl w.heap.size 21 i0 1 Try.underlying22 hi _ 0 [] rfl hown0 rfl ?_)
        | (go_at_call 18; refine (text_any l _ _ (by omega) hr1.1).mono ?_; rintro e w1 ⟨rfl, hb1⟩)
        | (go_at_call 19; refine (rtext_any l _ _ (by omega) (hr1.2.later hb1)).mono ?_; rintro e w2 ⟨rfl, hb2⟩)
        | (go_at_call 13; refine (ex_same _ _ _ l ((hr1.1.later hb1).later hb2) ((hr1.2.later hb1).later hb2)).mono ?_; rintro e w3 ⟨rfl, hb3⟩)
        | (go_at_call 17; refine (works_any _).mono ?_; rintro e w7 ⟨rfl, hb7⟩))
      go_ret
      have s0 := hb0.size
      have s1 := hb1.size
      have s2 := hb2.size
      have s3 := hb3.size
      exact ⟨rfl, (((hb0.trans (hb1.mono s0)).trans (hb2.mono (by omega))).trans (hb3.mono (by omega))).trans (hb7.mono (by omega))⟩
    | some x =>
      have hnews := Lib.hid (w0.news hb0)
      have hll2 : len0 = l.length := by rw [← hL, hlen]
      rw [hL] at hnews
      clear w0 hr0 hL hlen
      subst hll2
      go_enter Try.func4, Try.ntmps4
      go_wp2_with (at_builtin; refine wpList_append_own _ rfl _ _ _ rfl w.heap.size 21 i0 (.int .i32 0) 1 4 Try.underlying22 hi hz0 hz1 hz2 rfl (by decide) _ 0 [] rfl hown0 x l.length cap0 (ints l) rfl ?c1 hnews.out (ints_oneCell _ _) ?c3 ?c4 ?c5 ?_)
      case c1 => simp
      case c3 => unfold maxLen; omega
      case c4 => omega
      case c5 => simp
      intro v' w5 hown5 hg5 _
      have hb5 := below_own hb0 hown0 (Nat.le_refl _) (by simp) hg5
      have hr1 := FIN.out v' w5 (by simpa using hown5) hb5
      clear hown5 hg5 hown0 hnews
      go_wp2_with (first
        | (go_at_call 18; refine (text_any l _ _ (by omega) hr1.1).mono ?_; rintro e w1 ⟨rfl, hb1⟩)
        | (go_at_call 19; refine (rtext_any l _ _ (by omega) (hr1.2.later hb1)).mono ?_; rintro e w2 ⟨rfl, hb2⟩)
        | (go_at_call 13; refine (ex_same _ _ _ l ((hr1.1.later hb1).later hb2) ((hr1.2.later hb1).later hb2)).mono ?_; rintro e w3 ⟨rfl, hb3⟩)
        | (go_at_call 17; refine (works_any _).mono ?_; rintro e w7 ⟨rfl, hb7⟩))
      go_ret
      have s0 := hb5.size
      have s1 := hb1.size
      have s2 := hb2.size
      have s3 := hb3.size
      exact ⟨rfl, (((hb5.trans (hb1.mono s0)).trans (hb2.mono (by omega))).trans (hb3.mono (by omega))).trans (hb7.mono (by omega))⟩
  · clear w0
    go_enter Try.func4, Try.ntmps4
    go_wp2
    go_ret
    exact ⟨rfl, Below.refl _ _⟩
theorem own : ownKnob Try.prog.godebug = none := by kernel_rfl
theorem laidOut : laidOutB Try.prog = true := by kernel_rfl

set_option maxRecDepth 100000 in
theorem lifted (os : Os) (started : os.Started) (H : Type) (enc : TypeId × Value → H) :
    ReturnsInHanded {} Try.checked os 4 .any (Rows.utfWritesSpec.pre6 enc Try.prog Try.f4 Rows.utfWritesRow.domain false) (Rows.utfWritesSpec.post enc Try.prog Try.f4 false true false false) := by
  refine returnsInHanded_of_change (C := Try.checked) own started (by kernel_rfl) Try.func4
    (ChangeSpec.witness6 (enc := enc) (C := Try.checked) false ⟨#[], #[.slice none 0 0], []⟩ 8 (by kernel_rfl) (by kernel_rfl) (by kernel_rfl) (by kernel_rfl)) ?_
  intro W base args ds gs before hval0 hW hcnd _
  have hval : ∀ (j : Nat) t v, Try.f4.params[j]? = some t → args[j]? = some v → Value.okWide Try.prog W .any base t v := hval0
  have hW' := hW
  obtain ⟨p, q, hA0, hV, rfl, hfz, hnd⟩ := hW
  have hA : DataW.TrodAll enc Try.prog W 0 (fun _ => true) true Try.f4.params.toList args.toList ds p := hA0
  rw [Try.params4] at hA hval
  obtain ⟨v0, vs0, d0, ds0, p0, q0, hargs, rfl, rfl, h0, r0⟩ := trodAll_cons hA
  obtain ⟨rfl, rfl, rfl⟩ := trodAll_nil r0
  obtain rfl : args = #[v0] := by cases args; simp_all
  obtain ⟨rfl, rfl⟩ := trodVars_none hV
  obtain ⟨a0, len0, cap0, rfl⟩ := okWide_slice Try.underlying22 (hval 0 22 v0 rfl rfl)
  have k0 := h0
  have lt0 : ∀ x ∈ p0, x.block < W.heap.size := by obtain ⟨m, hm⟩ := k0; exact DataW.trod_lt m _ _ _ hm
  obtain ⟨z0, w0⟩ : ∃ zs, IsRow .i32 W a0 len0 cap0 zs := by
    obtain ⟨fuel, hf⟩ := h0
    rcases open_ints Try.underlying22 Try.underlying21 (by kernel_rfl) hf with ⟨hcs, _⟩ | ⟨x, l, c, zs, hcs, _, hl, hm, hz, _, hcell, hwz⟩
    · simp [Value.cells] at hcs
      obtain ⟨rfl, rfl, rfl⟩ := hcs
      exact ⟨[], .inl ⟨rfl, rfl, rfl, rfl⟩⟩
    · simp [Value.cells] at hcs
      obtain ⟨rfl, rfl, rfl⟩ := hcs
      exact ⟨zs, .inr ⟨_, rfl, hl, hm, by simpa using hz, hcell, hwz⟩⟩
  clear hA0 hval0
  refine (walk a0 len0 cap0 z0 W w0).mono fun e W' ⟨he, bel⟩ => ?_
  subst he
  exact ⟨_, rfl, _, _, _, [], _, [], hW', trodAll_mk1 (shut_bool Try.underlying4 _), (trodAll_cons_mk (Below.trod laidOut (by kernel_rfl) (of_decide_eq_true (by kernel_rfl)) k0 bel lt0) trodAll_mk0), rfl, bel.frame _, fun h => by cases h⟩

theorem over : Rows.utfWritesRow.holds Try.pinned (OpenSpec.ofChange Rows.utfWritesSpec) :=
  OpenClaim.holds_of_wide 4 Try.f4 rfl rfl rfl rfl rfl rfl rfl ⟨rfl, rfl, rfl, rfl, rfl⟩ rfl rfl rfl rfl rfl (by kernel_rfl) Try.func4 (by kernel_rfl)
    (of_decide_eq_true (by kernel_rfl)) (by unfold Func.isWrapper; first | (rw [if_pos (by decide +kernel)]; kernel_rfl) | (rw [if_neg (by decide +kernel)]; exact ⟨rfl, rfl⟩))
    (fun os started H enc _ => lifted os started H enc)

theorem proved : Rows.UtfWritesSaid := over
end Go.Proofs.Ytmfkieejopmaaaa.utfWrites
