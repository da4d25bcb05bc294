/-
  Contract of the laws' works: the examples of the chapter.
-/
import Derived.Test.YtpaeppklkicngaaDoorRomU
import Derived.Test.YtpaeppklkicngaaDoorRomR
set_option linter.unusedVariables false
set_option linter.unusedSimpArgs false
set_option maxRecDepth 100000
namespace Go.Proofs.YtpaeppklkicngaaDoor.Rom
open Go Go.RowKit Go.Proofs.YtpaeppklkicngaaDoor.Kit Go.Proofs.YtpaeppklkicngaaDoor.Utf

def exS : ByteArray := { data := #[107, 97, 9, 227, 129, 139, 10, 107, 107, 9, 227, 129, 163, 9, 107] }
def exA : Rule := ⟨{ data := #[107, 97] }, { data := #[227, 129, 139] }, { data := #[] }⟩
def exB : Rule := ⟨{ data := #[107, 107] }, { data := #[227, 129, 163] }, { data := #[107] }⟩
theorem ex_parse : parseL exS = ([exA, exB], 0, 0) := by decide +kernel
theorem ex_print : printL [exA, exB] = ({ data := #[107, 97, 9, 227, 129, 139, 10, 107, 107, 9, 227, 129, 163, 9, 107, 10] }, 0) := by decide +kernel
theorem ex_long : longL [exA, exB] { data := #[107] } = true := by decide +kernel
theorem ex_long2 : longL [exA, exB] { data := #[107, 107] } = false := by decide +kernel

theorem row_lit (w : World) (rs : List Rule) (cs : Array Value) (e : TypeId) (n g : Nat) (hg : g = w.heap.size) (hn : n = rs.length) (hm : n ≤ maxLen) (hc : cs = (rc rs).toArray) : RowR (w.alloc (.cells cs e)) (.slice (some ⟨g, 0, none⟩) n n) rs := by
  subst hg hn hc
  refine (row_of_own (base := w.heap.size) (e := e) (n := rs.length) ⟨by rw [rc_len], .inr ⟨w.heap.size, rs.length, (rc rs).toArray, rfl, Nat.le_refl _, heap_alloc_new w _, Nat.le_refl _, hm, by simp [rc_len], by rw [List.toList_toArray]; exact List.take_of_length_le (by rw [rc_len]; exact Nat.le_refl _)⟩⟩).1

set_option maxHeartbeats 4000000 in
theorem works_any (w : World) : Calls Tryd.prog 14 #[] w fun e w' => e = .returned (.bool true) ∧ Below w.heap.size w w' := by
  have HPA := parse_any exS
  rw [ex_parse] at HPA
  have hsh : ∀ r ∈ [exA, exB], Short r := by
    intro r hr
    rcases List.mem_cons.1 hr with rfl | hr
    · exact ⟨by decide, by decide, by decide⟩
    · rw [List.mem_singleton] at hr; subst hr; exact ⟨by decide, by decide, by decide⟩
  have HPR := fun v w h => print_any v [exA, exB] w h hsh
  rw [ex_print] at HPR
  have HL1 := fun v w h => longer_any v [exA, exB] { data := #[107] } w h
  have HL2 := fun v w h => longer_any v [exA, exB] { data := #[107, 107] } w h
  rw [ex_long] at HL1
  rw [ex_long2] at HL2
  have HSA := fun v1 v2 w h1 h2 => same_any v1 v2 [exA, exB] [exA, exB] w h1 h2 (by decide)
  rw [decide_eq_true rfl] at HSA
  have HPA := Lib.hid (fun w => HPA w (by decide))
  have HPR := Lib.hid HPR
  have HL1 := Lib.hid HL1
  have HL2 := Lib.hid HL2
  have HSA := Lib.hid HSA
  have HLIT := Lib.hid (fun (w : World) (g : Nat) (hg : g = w.heap.size) => row_lit w [exA, exB] _ 43 2 g hg rfl (by decide) rfl)
  simp only [rc_cons, rc_nil] at HLIT
  go_enter Tryd.func14, Tryd.ntmps14
  go_wp2_with (first
    | (go_at_call 11; (refine (HPA.out _).mono ?_); rintro e w1 ⟨v, rfl, hown, hb1, _, _⟩; have hR1 := (row_of_own hown).1; simp only)
    | (go_at_call 17; (refine (HPR.out _ _ hR1).mono ?_); rintro e w2 ⟨rfl, hb2⟩; have hR2 := hR1.later hb2 (Nat.le_refl _); have hbw2 := hb1.trans (hb2.mono hb1.size))
    | (go_at_call 13; (refine (HSA.out _ _ _ (hR2.later ((Below.refl _ _).alloc (Nat.le_refl _) _) (Nat.le_refl _)) (HLIT.out _ _ rfl)).mono ?_); rintro e w3 ⟨rfl, hb3⟩; have hb3' := ((Below.refl w2.heap.size w2).alloc (Nat.le_refl _) _).trans (hb3.mono (by simp)); have hR3 := hR2.later hb3' (Nat.le_refl _); have hbw3 := hbw2.trans (hb3'.mono hbw2.size))
    | (go_at_call 23; first
        | ((refine (HL2.out _ _ hR4).mono ?_); rintro e w5 ⟨rfl, hb5⟩; have hbw5 := hbw4.trans (hb5.mono hbw4.size))
        | ((refine (HL1.out _ _ hR3).mono ?_); rintro e w4 ⟨rfl, hb4⟩; have hR4 := hR3.later hb4 (Nat.le_refl _); have hbw4 := hbw3.trans (hb4.mono hbw3.size))))
  go_ret
  exact ⟨rfl, hbw5⟩

end Go.Proofs.YtpaeppklkicngaaDoor.Rom
