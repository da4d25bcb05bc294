/-
  Contracts of the statements' small and works.
-/
import Derived.Test.YtmbccolkgephgaaAutZ
import Derived.Test.YtmbccolkgephgaaAutL
set_option linter.unusedVariables false
set_option linter.unusedSimpArgs false
set_option maxRecDepth 100000
namespace Go.Proofs.Ytmbccolkgephgaa.Aut
open Go Go.RowKit Go.Proofs.Ytmbccolkgephgaa.Kit Go.Proofs.Ytmbccolkgephgaa.Utf Go.Proofs.Ytmbccolkgephgaa.Rom

theorem small_any (w : World) : Calls Try.prog 29 #[] w fun e w' => ∃ v, e = .returned v ∧ RowR w' v smallR ∧ Below w.heap.size w w' := by
  go_enter Try.func29, Try.ntmps29
  go_wp2
  go_ret
  refine ⟨_, rfl, (row_of_own (base := 0) (e := 32) (n := 5) (rs := smallR) ⟨rfl, .inr ⟨w.heap.size, 5, _, rfl, Nat.zero_le _, heap_alloc_new w _, Nat.le_refl _, by simp [maxLen], rfl, rfl⟩⟩).1, (Below.refl _ _).alloc (Nat.le_refl _) _⟩
theorem small_short : ∀ r ∈ smallR, Short r := by
  intro r hr
  have h := ok_of small_ok hr
  have h1 := okR_next h
  have h2 := okR_out h
  exact ⟨by omega, by omega, by omega⟩
theorem new_small (v : Value) (w : World) (hR : RowR w v smallR) : Calls Try.prog 15 #[v] w fun e w' => ∃ a, e = .returned (.tuple #[.pointer (some ⟨a, 0, none⟩), .int .i64 0]) ∧ AutoAt w'.heap.size w' a smallR ∧ Below w.heap.size w w' := by
  refine (new_any v smallR w hR small_short).mono ?_
  rintro e w' ⟨hb, ⟨h, _⟩ | ⟨_, a, rfl, hA, _⟩⟩
  · exact absurd small_check h
  · exact ⟨a, rfl, hA, hb⟩
theorem run_small {ks o q : By} (hf : Feeds smallR [] ks o q) (hk : AllK ks) (hl : ks.length ≤ 1000) (B a : Nat) (w : World) (hA : AutoAt B w a smallR) (hB : B ≤ w.heap.size) :
    Calls Try.prog 19 #[.pointer (some ⟨a, 0, none⟩), .string (ba ks)] w fun e w' => e = .returned (.tuple #[.string (ba o), .string (ba q)]) ∧ Below w.heap.size w w' := by
  have h := run_any small_ok B a (ba ks) w hA hB (by rw [ba_size]; omega)
  rw [bs_ba, keysOf_id hk, hf.fd] at h
  exact h
theorem type_small {s k : By} {ok : Bool} (hL : Least smallR s k ok) (hc : 0 ≤ count s ∧ count s ≤ 64) (hl : s.length ≤ 1000) (B a : Nat) (w : World) (hA : AutoAt B w a smallR) (hB : B ≤ w.heap.size) (hm : MaxL w) (hG : 0 < w.heap.size) :
    Calls Try.prog 26 #[.pointer (some ⟨a, 0, none⟩), .string (ba s)] w fun e w' => e = .returned (.tuple #[.string (ba k), .bool ok]) ∧ Below w.heap.size w w' := by
  refine (type_any small_ok (by decide) B a (ba s) w hA hB hm hG (by rw [ba_size]; unfold maxLen; omega)).mono ?_
  rintro e w' ⟨k', ok', rfl, hT, _, hb⟩
  rw [bs_ba] at hT
  obtain ⟨rfl, rfl⟩ := hT.det (.inr ⟨hc, hL⟩)
  exact ⟨rfl, hb⟩
theorem flush_small {p F : By} (hF : Flushes smallR p F) (hk : AllK p) (hl : p.length ≤ 1000) (B a : Nat) (w : World) (hA : AutoAt B w a smallR) (hB : B ≤ w.heap.size) :
    Calls Try.prog 23 #[.pointer (some ⟨a, 0, none⟩), .string (ba p)] w fun e w' => e = .returned (.string (ba F)) ∧ Below w.heap.size w w' := by
  refine (flush_any small_ok B a (ba p) w hA hB (by rw [ba_size]; omega)).mono ?_
  rintro e w' ⟨F', rfl, hF', hb⟩
  rw [bs_ba, keysOf_id hk] at hF'
  rw [hF'.det hF]
  exact ⟨rfl, hb⟩
theorem allK_dec {l : By} (h : l.all isKb = true) : AllK l := by rw [List.all_eq_true] at h; exact h

set_option maxHeartbeats 4000000 in
theorem works_any (w : World) (hm : MaxL w) (hG : 0 < w.heap.size) : Calls Try.prog 18 #[] w fun e w' => e = .returned (.bool true) ∧ Below w.heap.size w w' := by
  have HR1 : Hid (∀ (B a : Nat) (W : World), AutoAt B W a smallR → B ≤ W.heap.size → Calls Try.prog 19 #[.pointer (some ⟨a, 0, none⟩), .string { data := #[110, 110, 97] }] W fun e w' => e = .returned (.tuple #[.string { data := #[227, 130, 147, 227, 129, 130] }, .string { data := #[] }]) ∧ Below W.heap.size W w') := Lib.hid fun B a W h1 h2 => run_small small_run1 (allK_dec rfl) (by decide) B a W h1 h2
  have HR2 : Hid (∀ (B a : Nat) (W : World), AutoAt B W a smallR → B ≤ W.heap.size → Calls Try.prog 19 #[.pointer (some ⟨a, 0, none⟩), .string { data := #[120, 121, 97] }] W fun e w' => e = .returned (.tuple #[.string { data := #[227, 129, 130, 227, 129, 130] }, .string { data := #[] }]) ∧ Below W.heap.size W w') := Lib.hid fun B a W h1 h2 => run_small small_run2 (allK_dec rfl) (by decide) B a W h1 h2
  have HTY : Hid (∀ (B a : Nat) (W : World), AutoAt B W a smallR → B ≤ W.heap.size → MaxL W → 0 < W.heap.size → Calls Try.prog 26 #[.pointer (some ⟨a, 0, none⟩), .string { data := #[227, 129, 170] }] W fun e w' => e = .returned (.tuple #[.string { data := #[110, 97] }, .bool true]) ∧ Below W.heap.size W w') := Lib.hid fun B a W h1 h2 h3 h4 => type_small small_na (by decide +kernel) (by decide) B a W h1 h2 h3 h4
  have HFL : Hid (∀ (B a : Nat) (W : World), AutoAt B W a smallR → B ≤ W.heap.size → Calls Try.prog 23 #[.pointer (some ⟨a, 0, none⟩), .string { data := #[110] }] W fun e w' => e = .returned (.string { data := #[227, 130, 147] }) ∧ Below W.heap.size W w') := Lib.hid fun B a W h1 h2 => flush_small small_flush (allK_dec rfl) (by decide) B a W h1 h2
  have HSM := Lib.hid small_any
  have HNW := Lib.hid new_small
  have HML := Lib.hid hm
  clear hm
  go_enter Try.func18, Try.ntmps18
  go_wp2_with (first
    | (go_at_call 29; (with_reducible refine (HSM.out _).mono ?_); rintro e w1 ⟨v, rfl, hR1, hb1⟩)
    | (go_at_call 15; (with_reducible refine (HNW.out _ _ hR1).mono ?_); rintro e w2 ⟨a, rfl, hA2, hb2⟩)
    | (go_at_call 19; (with_reducible refine (HR1.out _ _ _ hA2 (Nat.le_refl _)).mono ?_); rintro e w3 ⟨rfl, hb3⟩; have hA3 := hA2.later hb3 (Nat.le_refl _); clear HR1)
    | (go_at_call 19; (with_reducible refine (HR2.out _ _ _ hA3 hb3.size).mono ?_); rintro e w4 ⟨rfl, hb4⟩; have hA4 := hA3.later hb4 hb3.size; have hbw4 : Below w.heap.size w w4 := (((hb1.trans (hb2.mono hb1.size)).trans (hb3.mono (Nat.le_trans hb1.size hb2.size))).trans (hb4.mono (Nat.le_trans (Nat.le_trans hb1.size hb2.size) hb3.size))))
    | (go_at_call 26; (with_reducible refine (HTY.out _ _ _ hA4 (Nat.le_trans hb3.size hb4.size) (HML.out.later hbw4 hG) (Nat.lt_of_lt_of_le hG hbw4.size)).mono ?_); rintro e w5 ⟨rfl, hb5⟩; have hA5 := hA4.later hb5 (Nat.le_trans hb3.size hb4.size))
    | (go_at_call 23; (with_reducible refine (HFL.out _ _ _ hA5 (Nat.le_trans (Nat.le_trans hb3.size hb4.size) hb5.size)).mono ?_); rintro e w6 ⟨rfl, hb6⟩))
  go_ret
  exact ⟨rfl, (hbw4.trans (hb5.mono hbw4.size)).trans (hb6.mono (Nat.le_trans hbw4.size hb5.size))⟩

end Go.Proofs.Ytmbccolkgephgaa.Aut
