/-
  Contract of the laws' number; rows of bytes of one kind; one rule that is laid.
-/
import Derived.Test.YtpaeppklkicngaaDoorRomKm
import Derived.Test.YtpaeppklkicngaaDoorUtfH
import Derived.OwnWalk
set_option linter.unusedVariables false
set_option linter.unusedSimpArgs false
set_option maxRecDepth 100000
namespace Go.Proofs.YtpaeppklkicngaaDoor.Rom
open Go Go.RowKit Go.Proofs.YtpaeppklkicngaaDoor.Kit Go.Proofs.YtpaeppklkicngaaDoor.Utf

theorem conv_two (W : World) (B : Nat) (x y : Int) (hB : B = W.heap.size) (h0 : 0 ≤ x) (h1 : x < 256) (h2 : 0 ≤ y) (h3 : y < 256) :
    (convert 58 9 (.slice (some ⟨B, 0, none⟩) 2 2)).run Tryd.prog (W.alloc (.cells #[.int .u8 x, .int .u8 y] 5)) = .ok (.string (ba [UInt8.ofNat x.toNat, UInt8.ofNat y.toNat])) (W.alloc (.cells #[.int .u8 x, .int .u8 y] 5)) := by
  subst hB
  have e : [Value.int .u8 x, Value.int .u8 y] = u8s [UInt8.ofNat x.toNat, UInt8.ofNat y.toNat] := by
    simp [u8s]; omega
  have h : (W.alloc (.cells #[.int .u8 x, .int .u8 y] 5)).ownsRow 0 5 1 (.slice (some ⟨W.heap.size, 0, none⟩) 2 2) 2 (u8s [UInt8.ofNat x.toNat, UInt8.ofNat y.toNat]) := by
    rw [← e]
    exact ⟨rfl, .inr ⟨W.heap.size, 2, #[.int .u8 x, .int .u8 y], rfl, Nat.zero_le _, heap_alloc_new W _, Nat.le_refl _, by simp [maxLen], rfl, by simp⟩⟩
  exact conv_bytes h Tryd.underlying58 Tryd.underlying5 Tryd.underlying9

set_option maxHeartbeats 1000000 in
theorem number_any (m : Nat) (hm : m < 500) (w : World) :
    Calls Tryd.prog 30 #[.int .i64 m] w fun e w' => e = .returned (.string (ba (nk m))) ∧ Below w.heap.size w w' := by
  have m0 : (0 : Int) ≤ m := by omega
  have m1 : (m : Int) < 500 := by omega
  have HE : Hid (ba [UInt8.ofNat (97 + (m : Int) / 26).toNat, UInt8.ofNat (97 + (m : Int) % 26).toNat] = ba (nk m)) := by
    unfold nk
    rw [show (97 + (m : Int) / 26).toNat = 97 + m / 26 by omega, show (97 + (m : Int) % 26).toNat = 97 + m % 26 by omega]
    exact rfl
  have hcv := conv_two w w.heap.size (97 + (m : Int) / 26) (97 + (m : Int) % 26) rfl (by omega) (by omega) (by omega) (by omega)
  go_enter Tryd.func30, Tryd.ntmps30
  go_wp2
  go_ret
  exact ⟨ret_string HE.out, by go_grown⟩

/-! ### a row of bytes that is filled -/
def hv (N m : Nat) : List Value := List.replicate m (.int .u8 35) ++ List.replicate (N - m) (.int .u8 0)
theorem hv_len {N m : Nat} (h : m ≤ N) : (hv N m).length = N := by unfold hv; rw [List.length_append, List.length_replicate, List.length_replicate]; omega
theorem hv_set {N m : Nat} (h : m < N) : (hv N m).set m (.int .u8 35) = hv N (m + 1) := by
  unfold hv
  rw [List.set_append_right _ _ (by rw [List.length_replicate]; exact Nat.le_refl _), List.length_replicate, Nat.sub_self]
  obtain ⟨k, hk⟩ : ∃ k, N - m = k + 1 := ⟨N - m - 1, by omega⟩
  rw [hk, show N - (m + 1) = k by omega, List.replicate_succ, List.set_cons_zero, List.replicate_succ']
  rw [List.append_assoc]
  rfl
theorem hv_zero (N : Nat) : (madeCells (Value.int .u8 0).cells (N * 1)).toList = hv N 0 := by
  show (madeCells #[Value.int .u8 0] (N * 1)).toList = _
  rw [toList_madeCells_one, Nat.mul_one]
  unfold hv
  simp
def hb (n : Nat) : List UInt8 := List.replicate n 35
theorem hv_full (N : Nat) : hv N N = u8s (hb N) := by
  unfold hv hb u8s
  rw [List.map_replicate, Nat.sub_self]
  simp
theorem own_part {w : World} {base e n cap g k : Nat} {xs : List Value} (h : w.ownsRow base e 1 (.slice (some ⟨g, 0, none⟩) n cap) n xs) (hk : k ≤ n) : w.ownsRow base e 1 (.slice (some ⟨g, 0, none⟩) k cap) k (xs.take k) := by
  have hl := h.1
  refine ⟨by rw [List.length_take]; omega, ?_⟩
  rcases h.2 with ⟨e1, h1⟩ | ⟨g', c, cur, e1, hb, hg, hnc, hcm, hcs, htake⟩
  · cases e1
  · cases e1
    refine .inr ⟨g, cap, cur, rfl, hb, hg, by omega, hcm, hcs, ?_⟩
    rw [← htake, List.take_take]
    congr 1
    omega
theorem hb_take {n k : Nat} (h : k ≤ n) : (u8s (hb n)).take k = u8s (hb k) := by
  unfold hb u8s
  rw [List.map_replicate, List.map_replicate, List.take_replicate, Nat.min_eq_left h]
/-- The row as a string. -/
theorem conv_row {w : World} {base n g cap : Nat} (h : w.ownsRow base 5 1 (.slice (some ⟨g, 0, none⟩) n cap) n (u8s (hb n))) :
    (convert 58 9 (.slice (some ⟨g, 0, none⟩) n cap)).run Tryd.prog w = .ok (.string (ba (hb n))) w :=
  conv_bytes h Tryd.underlying58 Tryd.underlying5 Tryd.underlying9
theorem info_byte : (Tryd.prog.info? 5).map (fun i => (i.zero, i.size, i.bytes)) = some (some (.int .u8 0), 1, 1) := by kernel_rfl
/-- One rule of the reference's, laid. -/
theorem row_one {w : World} {b : Nat} {r : Rule} (h : w.heap[b]? = some (.cells #[.string r.k, .string r.o, .string r.n] 43 (0, 0))) : RowR w (.slice (some ⟨b, 0, none⟩) 1 1) [r] := by
  refine ⟨_, 1, 1, rfl, rfl, Nat.le_refl _, by simp [maxLen], .inr (.inr ⟨b, 0, rfl, (Array.getElem?_eq_some_iff.1 h).1, fun i hi => ?_⟩)⟩
  have e : i = 0 := by simp at hi; omega
  subst e
  refine ⟨?_, ?_, ?_⟩
  · rw [cell_of_row w b _ _ _ (0, 0) h]; rfl
  · rw [cell_of_row w b _ _ _ (0, 0) h]; rfl
  · rw [cell_of_row w b _ _ _ (0, 0) h]; rfl

end Go.Proofs.YtpaeppklkicngaaDoor.Rom
