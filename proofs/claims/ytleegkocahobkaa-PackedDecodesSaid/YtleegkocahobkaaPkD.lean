/-
  Packed numbers: contracts of Find and of the function that it makes.
-/
import Derived.Test.YtleegkocahobkaaPkC
import Derived.Deep.QuietTactic
import Derived.BigQuiet
set_option linter.unusedVariables false
set_option linter.unusedSimpArgs false
set_option maxRecDepth 100000
namespace Go.Proofs.Ytleegkocahobkaa.Pk
open Go Go.RowKit Go.Proofs.Ytleegkocahobkaa.Kit Go.Proofs.Ytleegkocahobkaa.Bv

theorem IntsAt.drewN {B0 B1 : Nat} {w : World} {p n W S : Nat} (h : IntsAt B0 B1 w p n W S) (m : Nat) : IntsAt B0 B1 (w.drewN m) p n W S := h.later fun _ _ _ => rfl
/-- What the search asks of number i. -/
def fp (S W n x i : Nat) : Bool := decide (n ≤ i ∨ x ≤ gv S W i)

set_option maxHeartbeats 1000000 in
theorem find1_pk {B0 B1 p n W S : Nat} {w : World} (h : IntsAt B0 B1 w p n W S) (hB : B1 ≤ w.heap.size) (hn : n ≤ 1048577) (hW : W ≤ 255) (x : Nat) (g1 g2 : Nat)
    (x1 : w.cell? ⟨g1, 0, none⟩ = some (.pointer (some ⟨p, 0, none⟩))) (x2 : w.cell? ⟨g2, 0, none⟩ = some (.int .u64 (x : Int))) (hg2 : g2 < w.heap.size) (i : Nat) (hi : i < n) :
    Calls Try.prog 29 #[.int .i64 (i : Int), .pointer (some ⟨g1, 0, none⟩), .pointer (some ⟨g2, 0, none⟩)] w fun e w' => e = .returned (.bool (fp S W n x i)) ∧ Below w.heap.size w w' := by
  have HG := Lib.hid (get_pk h hB hn hW i hi)
  obtain ⟨R, hR⟩ : ∃ R, gv S W i = R := ⟨_, rfl⟩
  have HP : Hid (fp S W n x i = decide ((x : Int) ≤ (R : Int))) := Lib.hid (by unfold fp; rw [hR, decide_eq_decide]; omega)
  rw [hR] at HG
  rw [HP.out]
  clear hR h hB hn hW hi HP
  go_enter Try.func29, Try.ntmps29
  go_wp2_with (go_at_call 15; (with_reducible refine HG.out.mono ?_); rintro e w1 ⟨rfl, hb1⟩; have x3 : w1.cell? ⟨g2, 0, none⟩ = some (.int .u64 (x : Int)) := (by rw [hb1.cell (p := ⟨g2, 0, none⟩) hg2]; exact x2))
  go_ret
  first | exact ⟨rfl, hb1⟩ | (refine ⟨ret_bool ?_, hb1⟩; simp)

def FindPost (n : Nat) (q : Nat → Bool) (w : World) (e : Ending) (w' : World) : Prop := ∃ r : Nat, e = .returned (.int .i64 (r : Int)) ∧ Bv.Found n q r ∧ Below w.heap.size w w'
set_option maxHeartbeats 1000000 in
theorem find_pk {B0 B1 p n W S : Nat} {w : World} (h : IntsAt B0 B1 w p n W S) (hB : B1 ≤ w.heap.size) (hn : n ≤ 1048576) (hW : W ≤ 255) (x : Nat) (hm : ∀ i j, i ≤ j → j < n → x ≤ gv S W i → x ≤ gv S W j) :
    Calls Try.prog 17 #[.pointer (some ⟨p, 0, none⟩), .int .u64 (x : Int)] w (FindPost n (fp S W n x) w) := by
  obtain ⟨W1, hW1⟩ : ∃ W1, (w.alloc (.cells #[.pointer (some ⟨p, 0, none⟩)] 23)).alloc (.cells #[.int .u64 (x : Int)] 27) = W1 := ⟨_, rfl⟩
  have e0 : W1.heap[w.heap.size]? = some (.cells #[.pointer (some ⟨p, 0, none⟩)] 23 (0, 0)) := by
    rw [← hW1, Below.heap_alloc _ _ _ (by simp)]; exact heap_alloc_new w _
  have e1 : W1.heap[w.heap.size + 1]? = some (.cells #[.int .u64 (x : Int)] 27 (0, 0)) := by
    have := heap_alloc_new (w.alloc (.cells #[.pointer (some ⟨p, 0, none⟩)] 23)) (.cells #[.int .u64 (x : Int)] 27)
    rw [World.size_alloc] at this
    rw [← hW1]; exact this
  have hbW : Below w.heap.size w W1 := by rw [← hW1]; exact ((Below.refl _ w).alloc (Nat.le_refl _) _).alloc (by simp) _
  have hWs : W1.heap.size = w.heap.size + 2 := by rw [← hW1]; simp
  have hv : IntsAt B0 B1 W1 p n W S := h.below hbW hB
  have HBW := Lib.hid hbW
  have HWW := Lib.hid hW1
  have HWS := Lib.hid hWs
  have HL := Lib.hid (len_pk hv)
  have hc0 : Hid (W1.cell? ⟨w.heap.size, 0, none⟩ = some (.pointer (some ⟨p, 0, none⟩))) := Lib.hid (by rw [cell_of_row W1 _ 0 _ _ _ e0]; rfl)
  have hmono : Hid (∀ i j : Nat, i ≤ j → fp S W n x i = true → fp S W n x j = true) := Lib.hid (fun i j hij hi => by
    unfold fp at hi ⊢
    rw [decide_eq_true_iff] at hi ⊢
    by_cases hj : n ≤ j
    · exact .inl hj
    · exact .inr (hm i j hij (by omega) (by omega)))
  have HS := Lib.hid (search_any n hn 29 #[.pointer (some ⟨w.heap.size, 0, none⟩), .pointer (some ⟨w.heap.size + 1, 0, none⟩)] (fp S W n x) W1 (fun _ _ => by kernel_rfl) hmono.out (fun W' hW' i hi => by
    have hs := hW'.size
    have c0 : W'.cell? ⟨w.heap.size, 0, none⟩ = some (.pointer (some ⟨p, 0, none⟩)) := by rw [hW'.cell (p := ⟨w.heap.size, 0, none⟩) (by show w.heap.size < _; omega), cell_of_row W1 _ 0 _ _ _ e0]; rfl
    have c1 : W'.cell? ⟨w.heap.size + 1, 0, none⟩ = some (.int .u64 (x : Int)) := by rw [hW'.cell (p := ⟨w.heap.size + 1, 0, none⟩) (by show w.heap.size + 1 < _; omega), cell_of_row W1 _ 0 _ _ _ e1]; rfl
    exact (find1_pk (hv.below hW' (by omega)) (by omega) (by omega) hW x _ _ c0 c1 (by omega) i hi).mono fun e w2 h2 => ⟨h2.1, h2.2.mono (by omega)⟩))
  clear e0 e1 hv hbW hWs hmono h hW1 hm hB hn hW
  go_enter Try.func17, Try.ntmps17
  go_wp2_with fail
  rw [HWW.out]
  refine HL.out.mono ?_
  rintro e w1 ⟨rfl, rfl⟩
  go_wp2_with fail
  refine HS.out.mono ?_
  rintro e w2 ⟨r, rfl, hf, hb2⟩
  have HF := Lib.hid hf
  have hbw : Below w.heap.size w w2 := HBW.out.trans (hb2.mono (by have := HWS.out; omega))
  clear HS HL HWW HBW HWS hc0 hf hb2
  go_wp2
  go_ret
  exact ⟨r, rfl, HF.out, hbw⟩
theorem find_pk_nil (x : Nat) (w : World) :
    Calls Try.prog 17 #[.pointer none, .int .u64 (x : Int)] w fun e w' => e = .returned (.int .i64 0) ∧ Below w.heap.size w w' := by
  obtain ⟨W1, hW1⟩ : ∃ W1, (w.alloc (.cells #[.pointer none] 23)).alloc (.cells #[.int .u64 (x : Int)] 27) = W1 := ⟨_, rfl⟩
  have HBW : Hid (Below w.heap.size w W1) := Lib.hid (by rw [← hW1]; exact ((Below.refl _ w).alloc (Nat.le_refl _) _).alloc (by simp) _)
  have HWS : Hid (W1.heap.size = w.heap.size + 2) := Lib.hid (by rw [← hW1]; simp)
  have HWW := Lib.hid hW1
  have HL := Lib.hid (len_pk_nil W1)
  have HS := Lib.hid (search_any 0 (by decide) 29 #[.pointer (some ⟨w.heap.size, 0, none⟩), .pointer (some ⟨w.heap.size + 1, 0, none⟩)] (fun i => false) W1 (fun _ _ => by kernel_rfl) (fun _ _ _ h => by cases h) (fun W' hW' i hi => by omega))
  have hS0 : (((0 : Nat) : Int)) = 0 := rfl
  rw [hS0] at HS
  clear hW1 hS0
  go_enter Try.func17, Try.ntmps17
  go_wp2_with fail
  rw [HWW.out]
  refine HL.out.mono ?_
  rintro e w1 ⟨rfl, rfl⟩
  go_wp2_with fail
  refine HS.out.mono ?_
  rintro e w2 ⟨r, rfl, hf, hb2⟩
  have hr0 : r = 0 := by have := hf.1; omega
  subst hr0
  have hbw : Below w.heap.size w w2 := HBW.out.trans (hb2.mono (by have := HWS.out; omega))
  clear HS HL HWW HBW HWS hf hb2
  go_wp2
  go_ret
  exact ⟨rfl, hbw⟩
end Go.Proofs.Ytleegkocahobkaa.Pk
