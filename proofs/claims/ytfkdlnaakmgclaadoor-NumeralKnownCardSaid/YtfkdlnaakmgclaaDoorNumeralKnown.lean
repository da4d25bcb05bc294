/-
  NumeralKnown returns true: the examples of the chapter. Conditions: the tables of package numeral as start-up code lays them.
-/
import Derived.Test.YtfkdlnaakmgclaaDoorNumZ
import Derived.Test.YtfkdlnaakmgclaaDoorNumKn
import Derived.OpenShut
import Derived.ShutString
import Derived.ChangeOld
import Derived.LaidMore
import Derived.Lay
import Derived.SevenTiedAt
import Derived.SizedLaws
import Derived.Test.YtfkdlnaakmgclaaDoorCards
import Derived.Test.YtfkdlnaakmgclaaDoorTie
import Derived.Test.YtfkdlnaakmgclaaDoorNumO
set_option linter.unusedVariables false
set_option linter.unusedSimpArgs false
namespace Go.Proofs.YtfkdlnaakmgclaaDoor.numeralKnown
open Go Go.RowKit Go.ChangeShapes Go.WideShapes Go.ChangeAt Go.Proofs.YtfkdlnaakmgclaaDoor Go.Proofs.YtfkdlnaakmgclaaDoor.Kit
open Go.ChangeMaps (open_string shut_string)
open Go.Proofs.YtfkdlnaakmgclaaDoor.Num Go.Proofs.YtfkdlnaakmgclaaDoor.Utf

theorem forms_is (s : ByteArray) (l : List ByteArray) (hs : s.size ≤ 140737488355000) (h : formsOut s = l) (w : World) (hL : Laid w) :
    Calls Tryd.prog 24 #[.string s] w fun e w' => ∃ v, e = .returned v ∧ w'.ownsRow w.heap.size 9 1 v l.length (l.map Value.string) ∧ Below w.heap.size w w' := by
  have := forms_any s w hs hL
  rw [h] at this
  exact this
theorem forms_nil (s : ByteArray) (hs : s.size ≤ 140737488355000) (h : formsOut s = []) (w : World) (hL : Laid w) :
    Calls Tryd.prog 24 #[.string s] w fun e w' => (∃ a cap, e = .returned (.slice a 0 cap)) ∧ Below w.heap.size w w' := by
  refine (forms_is s [] hs h w hL).mono ?_
  rintro e w' ⟨v, rfl, ho, hb⟩
  obtain ⟨a, cap, rfl⟩ := own_shape ho
  exact ⟨⟨a, cap, rfl⟩, hb⟩
theorem same_lit (l : List ByteArray) (v : Value) (xs : Array Value) (n : Nat) (hx : xs.toList = l.map Value.string) (hn : n = xs.size) (hm : n ≤ maxLen) (B : Nat) (w1 : World)
    (h : w1.ownsRow B 9 1 v l.length (l.map Value.string)) (hz : B ≤ w1.heap.size) :
    Calls Tryd.prog 23 #[v, .slice (some ⟨w1.heap.size, 0, none⟩) n n] (w1.alloc (.cells xs 9)) fun e w' => e = .returned (.bool true) ∧ Below w1.heap.size w1 w' := by
  have hb := (Below.refl w1.heap.size w1).alloc (Nat.le_refl _) (.cells xs 9)
  refine (same_eq l _ _ _ (own_reads (own_later h hb)) (by rw [← hx]; exact reads_lit w1 xs _ _ n rfl hn hm)).mono ?_
  rintro e w' ⟨rfl, h2⟩
  exact ⟨rfl, hb.trans (h2.mono hb.size)⟩

def kl0 : List ByteArray := [{ data := #[53] }, { data := #[239, 188, 149] }, { data := #[228, 186, 148] }]
def kl1 : List ByteArray := [{ data := #[49, 48] }, { data := #[239, 188, 145, 239, 188, 144] }, { data := #[228, 184, 128, 227, 128, 135] }, { data := #[229, 141, 129] }, { data := #[229, 163, 177, 230, 139, 190] }]
def kl2 : List ByteArray := [{ data := #[49, 50, 51, 52] }, { data := #[239, 188, 145, 239, 188, 146, 239, 188, 147, 239, 188, 148] }, { data := #[49, 44, 50, 51, 52] }, { data := #[228, 184, 128, 228, 186, 140, 228, 184, 137, 229, 155, 155] }, { data := #[229, 141, 131, 228, 186, 140, 231, 153, 190, 228, 184, 137, 229, 141, 129, 229, 155, 155] }, { data := #[229, 163, 177, 229, 141, 131, 229, 188, 144, 231, 153, 190, 229, 143, 130, 230, 139, 190, 229, 155, 155] }]

set_option maxHeartbeats 600000 in
set_option maxRecDepth 100000 in
theorem walk (w : World) (hL : Laid w) :
    Calls Tryd.prog 11 #[] w fun e w' => e = .returned (.bool true) ∧ Below w.heap.size w w' := by
  have a0 := Lib.hid (all_at { data := #[48] } { data := #[233, 155, 182] } { data := #[227, 128, 135] } { data := #[233, 155, 182] } { data := #[48] } true (by decide) (by kernel_rfl) (by kernel_rfl) (by kernel_rfl) (by kernel_rfl) (by kernel_rfl) (by kernel_rfl))
  have a1 := Lib.hid (all_at { data := #[49, 49] } { data := #[229, 141, 129, 228, 184, 128] } { data := #[228, 184, 128, 228, 184, 128] } { data := #[229, 163, 177, 230, 139, 190, 229, 163, 177] } { data := #[49, 49] } true (by decide) (by kernel_rfl) (by kernel_rfl) (by kernel_rfl) (by kernel_rfl) (by kernel_rfl) (by kernel_rfl))
  have a2 := Lib.hid (all_at { data := #[49, 49, 49, 48] } { data := #[229, 141, 131, 231, 153, 190, 229, 141, 129] } { data := #[228, 184, 128, 228, 184, 128, 228, 184, 128, 227, 128, 135] } { data := #[229, 163, 177, 229, 141, 131, 229, 163, 177, 231, 153, 190, 229, 163, 177, 230, 139, 190] } { data := #[49, 44, 49, 49, 48] } true (by decide) (by kernel_rfl) (by kernel_rfl) (by kernel_rfl) (by kernel_rfl) (by kernel_rfl) (by kernel_rfl))
  have a3 := Lib.hid (all_at { data := #[49, 48, 48, 48, 48, 48, 48, 48] } { data := #[229, 141, 131, 228, 184, 135] } { data := #[228, 184, 128, 227, 128, 135, 227, 128, 135, 227, 128, 135, 227, 128, 135, 227, 128, 135, 227, 128, 135, 227, 128, 135] } { data := #[229, 163, 177, 229, 141, 131, 228, 184, 135] } { data := #[49, 48, 44, 48, 48, 48, 44, 48, 48, 48] } true (by decide) (by kernel_rfl) (by kernel_rfl) (by kernel_rfl) (by kernel_rfl) (by kernel_rfl) (by kernel_rfl))
  have a4 := Lib.hid (all_at { data := #[49, 48, 48, 48, 49, 48, 48, 48, 48] } { data := #[228, 184, 128, 229, 132, 132, 228, 184, 128, 228, 184, 135] } { data := #[228, 184, 128, 227, 128, 135, 227, 128, 135, 227, 128, 135, 228, 184, 128, 227, 128, 135, 227, 128, 135, 227, 128, 135, 227, 128, 135] } { data := #[229, 163, 177, 229, 132, 132, 229, 163, 177, 228, 184, 135] } { data := #[49, 48, 48, 44, 48, 49, 48, 44, 48, 48, 48] } true (by decide) (by kernel_rfl) (by kernel_rfl) (by kernel_rfl) (by kernel_rfl) (by kernel_rfl) (by kernel_rfl))
  have a5 := Lib.hid (all_at { data := #[48, 48] } { data := #[] } { data := #[] } { data := #[] } { data := #[] } false (by decide) (by kernel_rfl) (by kernel_rfl) (by kernel_rfl) (by kernel_rfl) (by kernel_rfl) (by kernel_rfl))
  have a6 := Lib.hid (all_at { data := #[49, 97] } { data := #[] } { data := #[] } { data := #[] } { data := #[] } false (by decide) (by kernel_rfl) (by kernel_rfl) (by kernel_rfl) (by kernel_rfl) (by kernel_rfl) (by kernel_rfl))
  have a7 := Lib.hid (all_at { data := #[] } { data := #[] } { data := #[] } { data := #[] } { data := #[] } false (by decide) (by kernel_rfl) (by kernel_rfl) (by kernel_rfl) (by kernel_rfl) (by kernel_rfl) (by kernel_rfl))
  have a8 := Lib.hid (all_at { data := #[49, 49, 49, 49, 49, 49, 49, 49, 49, 49, 49, 49, 49, 49, 49, 49, 49, 49, 49, 49, 49] } { data := #[] } { data := #[] } { data := #[] } { data := #[] } false (by decide) (by kernel_rfl) (by kernel_rfl) (by kernel_rfl) (by kernel_rfl) (by kernel_rfl) (by kernel_rfl))
  have a9 := Lib.hid (all_at { data := #[49, 48, 48, 48, 48, 48, 48, 48, 48, 48, 48, 48, 48, 48, 48, 48, 48, 48, 48, 48] } { data := #[229, 141, 131, 228, 186, 172] } { data := #[228, 184, 128, 227, 128, 135, 227, 128, 135, 227, 128, 135, 227, 128, 135, 227, 128, 135, 227, 128, 135, 227, 128, 135, 227, 128, 135, 227, 128, 135, 227, 128, 135, 227, 128, 135, 227, 128, 135, 227, 128, 135, 227, 128, 135, 227, 128, 135, 227, 128, 135, 227, 128, 135, 227, 128, 135, 227, 128, 135] } { data := #[229, 163, 177, 229, 141, 131, 228, 186, 172] } { data := #[49, 48, 44, 48, 48, 48, 44, 48, 48, 48, 44, 48, 48, 48, 44, 48, 48, 48, 44, 48, 48, 48, 44, 48, 48, 48] } true (by decide) (by kernel_rfl) (by kernel_rfl) (by kernel_rfl) (by kernel_rfl) (by kernel_rfl) (by kernel_rfl))
  have p0 := Lib.hid (parse_is { data := #[228, 184, 128, 227, 128, 135, 227, 128, 135, 228, 184, 128] } { data := #[49, 48, 48, 49] } (by decide) ⟨by kernel_rfl, .inr (.inl (by kernel_rfl))⟩)
  have p1 := Lib.hid (parse_is { data := #[229, 163, 177, 229, 141, 131, 229, 163, 177] } { data := #[49, 48, 48, 49] } (by decide) ⟨by kernel_rfl, .inr (.inr (by kernel_rfl))⟩)
  have p2 := Lib.hid (parse_not { data := #[228, 184, 128, 229, 141, 131, 228, 184, 128] } (by decide) ⟨by kernel_rfl, by kernel_rfl, by kernel_rfl⟩ ⟨by kernel_rfl, by kernel_rfl, by kernel_rfl⟩)
  have p3 := Lib.hid (parse_not { data := #[227, 128, 135, 228, 184, 128] } (by decide) ⟨by kernel_rfl, by kernel_rfl, by kernel_rfl⟩ ⟨by kernel_rfl, by kernel_rfl, by kernel_rfl⟩)
  have p4 := Lib.hid (parse_not { data := #[] } (by decide) ⟨by kernel_rfl, by kernel_rfl, by kernel_rfl⟩ ⟨by kernel_rfl, by kernel_rfl, by kernel_rfl⟩)
  have p5 := Lib.hid (parse_not { data := #[229, 141, 131, 228, 184] } (by decide) ⟨by kernel_rfl, by kernel_rfl, by kernel_rfl⟩ ⟨by kernel_rfl, by kernel_rfl, by kernel_rfl⟩)
  have f0 := Lib.hid (forms_is { data := #[53] } kl0 (by decide) (by kernel_rfl))
  have s0 := Lib.hid (fun v B w1 h1 h2 => same_lit kl0 v #[.string { data := #[53] }, .string { data := #[239, 188, 149] }, .string { data := #[228, 186, 148] }] 3 (by kernel_rfl) (by kernel_rfl) (by decide) B w1 h1 h2)
  have f1 := Lib.hid (forms_is { data := #[239, 188, 145, 48] } kl1 (by decide) (by kernel_rfl))
  have s1 := Lib.hid (fun v B w1 h1 h2 => same_lit kl1 v #[.string { data := #[49, 48] }, .string { data := #[239, 188, 145, 239, 188, 144] }, .string { data := #[228, 184, 128, 227, 128, 135] }, .string { data := #[229, 141, 129] }, .string { data := #[229, 163, 177, 230, 139, 190] }] 5 (by kernel_rfl) (by kernel_rfl) (by decide) B w1 h1 h2)
  have f2 := Lib.hid (forms_is { data := #[49, 50, 51, 52] } kl2 (by decide) (by kernel_rfl))
  have s2 := Lib.hid (fun v B w1 h1 h2 => same_lit kl2 v #[.string { data := #[49, 50, 51, 52] }, .string { data := #[239, 188, 145, 239, 188, 146, 239, 188, 147, 239, 188, 148] }, .string { data := #[49, 44, 50, 51, 52] }, .string { data := #[228, 184, 128, 228, 186, 140, 228, 184, 137, 229, 155, 155] }, .string { data := #[229, 141, 131, 228, 186, 140, 231, 153, 190, 228, 184, 137, 229, 141, 129, 229, 155, 155] }, .string { data := #[229, 163, 177, 229, 141, 131, 229, 188, 144, 231, 153, 190, 229, 143, 130, 230, 139, 190, 229, 155, 155] }] 6 (by kernel_rfl) (by kernel_rfl) (by decide) B w1 h1 h2)
  have f3 := Lib.hid (forms_nil { data := #[48, 49] } (by decide) (by kernel_rfl))
  have f4 := Lib.hid (forms_nil { data := #[] } (by decide) (by kernel_rfl))
  have f5 := Lib.hid (forms_nil { data := #[228, 184, 128] } (by decide) (by kernel_rfl))
  have hB : Below w.heap.size w w := Below.refl _ _
  go_enter Tryd.func11, Tryd.ntmps11
  go_wp2_with (first
    | (go_at_call 28; (first | with_reducible refine (a0.out _ (hL.next hB)).mono ?_ | with_reducible refine (a1.out _ (hL.next hB)).mono ?_ | with_reducible refine (a2.out _ (hL.next hB)).mono ?_ | with_reducible refine (a3.out _ (hL.next hB)).mono ?_ | with_reducible refine (a4.out _ (hL.next hB)).mono ?_ | with_reducible refine (a5.out _ (hL.next hB)).mono ?_ | with_reducible refine (a6.out _ (hL.next hB)).mono ?_ | with_reducible refine (a7.out _ (hL.next hB)).mono ?_ | with_reducible refine (a8.out _ (hL.next hB)).mono ?_ | with_reducible refine (a9.out _ (hL.next hB)).mono ?_); rintro e w1 ⟨rfl, hb⟩; have hB := hB.trans (hb.mono hB.size); clear hb)
    | (go_at_call 21; (first | with_reducible refine (p0.out _ (hL.next hB)).mono ?_ | with_reducible refine (p1.out _ (hL.next hB)).mono ?_ | with_reducible refine (p2.out _ (hL.next hB)).mono ?_ | with_reducible refine (p3.out _ (hL.next hB)).mono ?_ | with_reducible refine (p4.out _ (hL.next hB)).mono ?_ | with_reducible refine (p5.out _ (hL.next hB)).mono ?_); rintro e w1 ⟨rfl, hb⟩; have hB := hB.trans (hb.mono hB.size); clear hb)
    | (go_at_call 24; (first | with_reducible refine (f0.out _ (hL.next hB)).mono ?_ | with_reducible refine (f1.out _ (hL.next hB)).mono ?_ | with_reducible refine (f2.out _ (hL.next hB)).mono ?_); rintro e w1 ⟨v, rfl, hown, hb⟩; have hB := hB.trans (hb.mono hB.size); have hz := hb.size; clear hb)
    | (go_at_call 24; (first | with_reducible refine (f3.out _ (hL.next hB)).mono ?_ | with_reducible refine (f4.out _ (hL.next hB)).mono ?_ | with_reducible refine (f5.out _ (hL.next hB)).mono ?_); rintro e w1 ⟨⟨a, cap, rfl⟩, hb⟩; have hB := hB.trans (hb.mono hB.size); clear hb)
    | (go_at_call 23; (first | with_reducible refine (s0.out _ _ _ hown hz).mono ?_ | with_reducible refine (s1.out _ _ _ hown hz).mono ?_ | with_reducible refine (s2.out _ _ _ hown hz).mono ?_); clear hown hz; rintro e w1 ⟨rfl, hb⟩; have hB := hB.trans (hb.mono hB.size); clear hb)
    | (go_at_call 20; refine (works_any _ (hL.next hB)).mono ?_; rintro e w1 ⟨rfl, hb⟩; have hB := hB.trans (hb.mono hB.size); clear hb))
  go_ret
  exact ⟨rfl, hB⟩
theorem own : ownKnob Tryd.prog.godebug = none := by kernel_rfl
theorem laidOut : laidOutB Tryd.prog = true := by kernel_rfl

set_option maxRecDepth 100000 in
theorem lifted (os : Os) (started : os.Started) (H : Type) (enc : TypeId × Value → H) :
    ReturnsInHanded {} Tryd.checked os 11 .any (fun w args => (Rows.numeralKnownSpec.pre enc Tryd.prog Tryd.f11 Rows.numeralKnownRow.domain false w args ∧ laidMetH Tryd.prog Rows.numeralKnownRow.laid w) ∧ sizedMet enc Tryd.prog Tryd.f11 (OpenSpec.ofChange Rows.numeralKnownSpec) false w args)
      (Rows.numeralKnownSpec.post enc Tryd.prog Tryd.f11 false true false false) := by
  refine returnsInHanded_of_change_and (C := Tryd.checked) (X := fun w _ => laidMetH Tryd.prog Rows.numeralKnownRow.laid w) (fun _ _ _ hh h => h.of_heap hh) own started (by kernel_rfl) Tryd.func11
    (ChangeSpec.witness_shaped (enc := enc) (C := Tryd.checked) (os := os) (X := fun w _ => laidMetH Tryd.prog Rows.numeralKnownRow.laid w) false (World.laidAll Tryd.prog os Rows.numeralKnownRow.laid) #[] 8 (World.laidAll_os _ _ _)
      (World.shaped_of_ZipB (by kernel_rfl) (by kernel_rfl)) (by kernel_rfl) (by kernel_rfl) (by kernel_rfl)
      (by rw [MakeChecks.laidMetH_plain _ _ _ (by kernel_rfl)]; exact laidMet_laidAll _ (by kernel_rfl) (by kernel_rfl))) ?_
  intro W base args ds gs before hval0 hW hcnd hsz0 hL _
  have hval : ∀ (j : Nat) t v, Tryd.f11.params[j]? = some t → args[j]? = some v → Value.okWide Tryd.prog W .any base t v := hval0
  have hW' := hW
  obtain ⟨p, q, hA0, hV, rfl, hfz, hnd⟩ := hW
  have hA : DataW.TrodAll enc Tryd.prog W 0 (fun _ => true) true Tryd.f11.params.toList args.toList ds p := hA0
  rw [Tryd.params11] at hA hval
  obtain ⟨rfl, rfl, rfl⟩ := trodAll_none hA
  obtain ⟨rfl, rfl⟩ := trodVars_none hV
  have hLaid : Laid W := Laid.of hL (fun _ => MakeChecks.laidMetH_plain _ _ _ (by kernel_rfl))
    (List.mem_of_getElem? (i := 4) (by kernel_rfl)) (List.mem_of_getElem? (i := 5) (by kernel_rfl)) (List.mem_of_getElem? (i := 6) (by kernel_rfl)) (List.mem_of_getElem? (i := 7) (by kernel_rfl)) (List.mem_of_getElem? (i := 8) (by kernel_rfl))
  clear hA0 hval0
  refine (walk W hLaid).mono fun e W' ⟨he, bel⟩ => ?_
  subst he
  exact ⟨_, rfl, _, _, _, [], _, [], hW', trodAll_mk1 (shut_bool Tryd.underlying4 _), trodAll_mk0, rfl, bel.frame _, fun h => by cases h⟩

theorem over : Rows.numeralKnownRow.holds Tryd.pinned (OpenSpec.ofChange Rows.numeralKnownSpec) :=
  OpenClaim.holds_of_wide 11 Tryd.f11 rfl rfl rfl rfl rfl rfl rfl ⟨rfl, rfl, rfl, rfl, rfl⟩ rfl rfl rfl rfl rfl (by kernel_rfl) Tryd.func11 (by kernel_rfl)
    (of_decide_eq_true (by kernel_rfl)) (by unfold Func.isWrapper; first | (rw [if_pos (by decide +kernel)]; kernel_rfl) | (rw [if_neg (by decide +kernel)]; exact ⟨rfl, rfl⟩))
    (fun os started H enc _ => lifted os started H enc)

theorem proved : Rows.NumeralKnownCardSaid :=
  Claim7.holds_tied_plain_at .later [] Rows.numeralKnownCard.laidKinds true Rows.numeralKnownCard.stood.harness false over (fun _ h => by cases h) (by kernel_rfl) (fun _ h => by cases h) numeralKnown_row_tie rfl ⟨rfl, rfl⟩ (by kernel_rfl) rfl
    (fun f fn hf hfn => by
      obtain rfl : f = 11 := Option.some.inj ((show Tryd.prog.funcNamed "henkan/henkanlaw03.NumeralKnown" = some 11 by kernel_rfl).symm.trans hf) |>.symm
      obtain rfl : fn = Tryd.f11 := (Option.some.inj (Tryd.func11.symm.trans hfn)).symm
      exact ⟨by kernel_rfl, fun j t ht => by
        rw [Tryd.params11] at ht
        have hm : t ∈ ([] : List TypeId) := by simpa using Array.mem_of_getElem? ht
        have hall : (([] : List TypeId).all fun u => !Tryd.prog.wantsStandIn u) = true := by kernel_rfl
        exact (show Tryd.prog.wantsStandIn t = false by simpa using List.all_eq_true.1 hall t hm)⟩)
    (by kernel_rfl)
end Go.Proofs.YtfkdlnaakmgclaaDoor.numeralKnown
