/-
  Contracts of caldate.kanji, inEra.
-/
import Derived.Test.YteelmjmiankflaaDoorCalP
set_option linter.unusedVariables false
set_option linter.unusedSimpArgs false
namespace Go.Proofs.YteelmjmiankflaaDoor.Cal
open Go Go.RowKit Go.Proofs.YteelmjmiankflaaDoor.Kit Go.Proofs.YteelmjmiankflaaDoor.Utf
open Go.Proofs.YteelmjmiankflaaDoor.Num

theorem kanjiN_at (n : Nat) (hn : n ≤ 9999) (w : World) (hL : FLaid w) :
    Calls Tryd.prog 38 #[.string (tx (ascC (digs n)))] w fun e w' => e = .returned (.tuple #[.string (tx (kanjiC (digs n))), .bool true]) ∧ Below w.heap.size w w' := by
  have hd := digs_DS hn
  have h := kanji_any (dg (digs n)) w (by rw [dg_size]; have := digs_len4 hn; unfold maxLen; omega) hL.num
  rw [wOut_dg _ hd, isDec_dg hd, dg_tx _ hd.2.2.1] at h
  exact h

theorem kanji_at (n k : Nat) (u : List Int) (hn : n ≤ 9999) (hu : (encs u).length ≤ 100) (w : World) (hL : FLaid w) :
    Calls Tryd.prog 31 #[.agg #[.int .i64 n, .int .i64 k, .string (tx u)]] w fun e w' => e = .returned (.string (tx (kanC n k u))) ∧ Below w.heap.size w w' := by
  have hb1 : Below w.heap.size w (w.alloc (.cells #[.int .i64 n, .int .i64 k, .string (tx u)] 47)) := (Below.refl _ w).alloc (Nat.le_refl _) _
  have hsz1 := size_alloc w (.cells #[.int .i64 n, .int .i64 k, .string (tx u)] 47)
  have HI := Lib.hid (itoa_at n hn _ (hL.next hb1))
  have k2 : (w.alloc (.cells #[.int .i64 n, .int .i64 k, .string (tx u)] 47)).cell? ⟨w.heap.size, 2, none⟩ = some (.string (tx u)) := by rw [World.cell?_alloc_at _ _ _ _ rfl]; rfl
  have HC : ∀ w2, Below (w.alloc (.cells #[.int .i64 n, .int .i64 k, .string (tx u)] 47)).heap.size (w.alloc (.cells #[.int .i64 n, .int .i64 k, .string (tx u)] 47)) w2 →
      w2.cell? ⟨w.heap.size, 2, none⟩ = some (.string (tx u)) ∧ Below w.heap.size w w2 ∧ w.heap.size < w2.heap.size := by
    intro w2 h2
    refine ⟨?_, hb1.trans (h2.mono (by rw [hsz1]; omega)), by have := h2.size; omega⟩
    rw [h2.cell (p := ⟨w.heap.size, 2, none⟩) (show w.heap.size < _ by rw [hsz1]; omega)]; exact k2
  have HC := Lib.hid HC
  have HK := Lib.hid (fun W hW => kanjiN_at n hn W hW)
  have hx2 := add_tx (kanjiC (digs n)) u (by have := size_kanji (digs_DS hn); rw [tx_size] at this; omega)
  have hres : kanjiC (digs n) ++ u = kanC n k u := rfl
  rw [hres] at hx2
  generalize ascC (digs n) = D at *
  generalize kanC n k u = R at *
  generalize kanjiC (digs n) = K at *
  clear hsz1 k2 hb1 hres
  go_enter Tryd.func31, Tryd.ntmps31
  go_wp2_with (first
    | (go_at_call 35; refine HI.out.mono ?_; rintro e w2 ⟨rfl, hb2⟩
       obtain ⟨q2, hb3, hs3⟩ := HC.out w2 hb2
       clear hb2 HC HI)
    | (go_at_call 38; refine (HK.out _ (hL.next hb3)).mono ?_; rintro e w3 ⟨rfl, hb4⟩
       have q3 : w3.cell? ⟨w.heap.size, 2, none⟩ = some (.string (tx u)) := (hb4.cell (p := ⟨w.heap.size, 2, none⟩) hs3).trans q2))
  go_ret
  exact ⟨rfl, hb3.trans (hb4.mono hb3.size)⟩

/-- inEra's function value. -/
theorem inEra_at (F : FuncId) (w : World) :
    Calls Tryd.prog 32 #[.func (.func F) #[] #[]] w fun e w' => e = .returned (.func (.func 39) #[] #[.pointer (some ⟨w.heap.size, 0, none⟩)]) ∧ w' = w.alloc (.cells #[.func (.func F) #[] #[]] 45) := by
  go_enter Tryd.func32, Tryd.ntmps32
  go_wp2
  go_ret
  exact ⟨rfl, rfl⟩

/-- The units of fields. -/
def unitL : List (List Int) := [[24180], [26376], [26085], [47], [45], []]
theorem unit_len : ∀ u ∈ unitL, (encs u).length ≤ 100 := by decide
theorem unit_valid : ∀ u ∈ unitL, ∀ c ∈ u, validRune c = true := by decide
theorem unit_year : ∀ u ∈ unitL, ¬ u = [24180] → ((tx u).toList == [229, 185, 180]) = false := by decide +kernel

/-- A function that writes fields. -/
def FieldFn (F : FuncId) (caps : Array Value) (out : Nat → Nat → List Int → List Int) (Inv : World → Prop) : Prop :=
  ∀ (n k : Nat) (u : List Int) (W : World), n ≤ 9999 → k ≤ 4 → u ∈ unitL → FLaid W → Inv W →
    Calls Tryd.prog F (#[.agg #[.int .i64 n, .int .i64 k, .string (tx u)]] ++ caps) W fun e W' => e = .returned (.string (tx (out n k u))) ∧ Below W.heap.size W W'

theorem decimal_fn : FieldFn 27 #[] decC (fun _ => True) := fun n k u W hn hk hu hL _ => decimal_at n k u hn hk (unit_len u hu) W hL
theorem kanji_fn : FieldFn 31 #[] kanC (fun _ => True) := fun n k u W hn hk hu hL _ => kanji_at n k u hn (unit_len u hu) W hL

theorem cell_lt {w : World} {a : Addr} {v : Value} (h : w.cell? a = some v) : a.block < w.heap.size := by
  unfold World.cell? at h
  cases hq : w.heap[a.block]? with
  | none => simp [hq] at h
  | some o => exact (Array.getElem?_eq_some_iff.1 hq).1

theorem inEra1_fn (F : FuncId) (out : Nat → Nat → List Int → List Int) (hF : FieldFn F #[] out (fun _ => True)) (eF : ∀ args w, (callFunc F args).run Tryd.prog w = .ok (.enter F args) w) (p : Nat) :
    FieldFn 39 #[.pointer (some ⟨p, 0, none⟩)] (eraC out) (fun W => W.cell? ⟨p, 0, none⟩ = some (.func (.func F) #[] #[])) := by
  intro n k u w hn hk hu hL hI
  have hb1 : Below w.heap.size w (w.alloc (.cells #[.int .i64 n, .int .i64 k, .string (tx u)] 47)) := (Below.refl _ w).alloc (Nat.le_refl _) _
  have hI1 : (w.alloc (.cells #[.int .i64 n, .int .i64 k, .string (tx u)] 47)).cell? ⟨p, 0, none⟩ = some (.func (.func F) #[] #[]) := (cell_old _ _ _ _ (cell_lt hI)).trans hI
  have HF := Lib.hid (hF n k u _ hn hk hu (hL.next hb1) trivial)
  by_cases h1 : n = 1
  · by_cases h2 : u = [24180]
    · subst h1 h2
      have e : tx [24180] = { data := #[229, 185, 180] } := by decide +kernel
      have e2 : tx (eraC out 1 k [24180]) = { data := #[229, 133, 131, 229, 185, 180] } := by unfold eraC; rw [if_pos ⟨rfl, rfl⟩]; decide +kernel
      rw [e] at hb1
      rw [e2, e]
      clear HF hI1
      go_enter Tryd.func39, Tryd.ntmps39
      go_wp2
      go_ret
      exact ⟨rfl, hb1⟩
    · have ht := unit_year u hu h2
      have e2 : eraC out n k u = out n k u := by unfold eraC; rw [if_neg (fun h => h2 h.2)]
      have hn1 : ((n : Int) == 1) = true := by simp; omega
      rw [e2]
      clear h1 h2 e2 hu
      go_enter Tryd.func39, Tryd.ntmps39
      go_wp2_with (refine HF.out.mono ?_; rintro e w2 ⟨rfl, hb2⟩)
      go_ret
      exact ⟨rfl, hb1.trans (hb2.mono hb1.size)⟩
  · have hn1 : ((n : Int) == 1) = false := by simp; omega
    have e2 : eraC out n k u = out n k u := by unfold eraC; rw [if_neg (fun h => h1 h.1)]
    rw [e2]
    clear e2 hu h1
    go_enter Tryd.func39, Tryd.ntmps39
    go_wp2_with (refine HF.out.mono ?_; rintro e w2 ⟨rfl, hb2⟩)
    go_ret
    exact ⟨rfl, hb1.trans (hb2.mono hb1.size)⟩

end Go.Proofs.YteelmjmiankflaaDoor.Cal
