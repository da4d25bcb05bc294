/-
  Joined texts: CmpY, CmpFr, CmpU, CmpV, CmpW, CmpL.
-/
import Derived.Test.YtamdlbefiggkfaaGreatM10
import Derived.Test.YtamdlbefiggkfaaGreatM11
import Derived.Test.YtamdlbefiggkfaaGreatM13
import Derived.Deep.Slices
import Derived.Deep.SlicePairs
import Derived.Deep.Fields
import Derived.ChangeSame
import Derived.ChangeArms
import Derived.Shelf.Vars
import Derived.Test.YtamdlbefiggkfaaGreatM8
import Derived.Deep.RegionLaw
import Derived.Deep.DeepCutAuto
set_option linter.unusedVariables false
set_option linter.unusedSimpArgs false
set_option maxRecDepth 100000
namespace Go.Proofs.YtamdlbefiggkfaaGreat.Cmp
open Go Go.RowKit Go.Proofs.YtamdlbefiggkfaaGreat.Kit Go.Proofs.YtamdlbefiggkfaaGreat.Utf Go.Proofs.YtamdlbefiggkfaaGreat.Rom Go.Proofs.YtamdlbefiggkfaaGreat.Aut

theorem def_okL : okL defL = true := (ok_of_check def_check).2
theorem def_shortL : ∀ r ∈ defL, Short r := by
  intro r hr
  have h := ok_of def_okL hr
  have h1 := okR_next h
  have h2 := okR_out h
  exact ⟨by omega, by omega, by omega⟩

/-! ### typing, as a program -/
def keyO (rs : List Rule) (b : Bf) (k : UInt8) : Option Bf :=
  if val b && isKb k then
    match feedO rs 1000 (bs b.p) [k] with
    | some (o, q) => match chars o with
      | some cs => if b.is.length + cs.length > 64 then none else some (insB { b with p := ba q } (itemsL (ba (endsL (bs b.p ++ [k]) q)) cs))
      | none => none
    | none => none
  else none
theorem keyO_sound {rs : List Rule} {b b' : Bf} {k : UInt8} (h : keyO rs b k = some b') : keyB rs b k = (b', 0) := by
  unfold keyO at h
  unfold keyB
  split at h
  · rename_i hv
    rw [if_pos hv]
    split at h
    · rename_i o q hf
      rw [(feedO_sound hf).fd]
      split at h
      · rename_i cs hc
        rw [chs_some hc]
        split at h
        · cases h
        · rename_i hl
          rw [if_neg hl]
          cases h; rfl
      · cases h
    · cases h
  · cases h
def typO (rs : List Rule) : Bf → By → Option Bf
  | b, [] => some b
  | b, k :: ks => match keyO rs b k with
    | some b' => typO rs b' ks
    | none => none
theorem typO_sound {rs : List Rule} : ∀ {ks : By} {b b' : Bf}, typO rs b ks = some b' → typL rs b ks = (b', true)
  | [], b, b', h => by cases h; rfl
  | k :: ks, b, b', h => by
    unfold typO at h
    split at h
    · rename_i c hc
      unfold typL
      rw [keyO_sound hc, if_pos rfl]
      exact typO_sound h
    · cases h

/-! ### k, y, o, u, n -/
def b5 : Bf := ⟨[⟨ba [107, 121, 111], ba [227, 129, 141]⟩, ⟨ba [], ba [227, 130, 135]⟩, ⟨ba [117], ba [227, 129, 134]⟩], 3, ba [110]⟩
def b6 : Bf := ⟨[⟨ba [107, 121, 111], ba [227, 129, 141]⟩, ⟨ba [], ba [227, 130, 135]⟩, ⟨ba [117], ba [227, 129, 134]⟩, ⟨ba [110], ba [227, 130, 147]⟩], 4, ba []⟩
theorem typ5 : typO defL noB [107, 121, 111, 117, 110] = some b5 := by decide +kernel
theorem flu5 : flushO defL 10 [110] = some [227, 130, 147] := by decide +kernel
theorem val5 : val b5 = true := by decide +kernel
theorem flub5 : fluB b5 [227, 130, 147] = b6 := by decide +kernel
theorem tex5 : texB b5 = (ba [227, 129, 141, 227, 130, 135, 227, 129, 134], ba [110], ba []) := by decide +kernel
theorem tex6 : texB b6 = (ba [227, 129, 141, 227, 130, 135, 227, 129, 134, 227, 130, 147], ba [], ba []) := by decide +kernel
theorem raw6 : rawB b6 = ba [107, 121, 111, 117, 110] := by decide +kernel

theorem new_def (v : Value) (w : World) (hR : RowR w v defL) : Calls Tryz.prog 6 #[v] w fun e w' => ∃ a, e = .returned (.tuple #[.pointer (some ⟨a, 0, none⟩), .int .i64 0]) ∧ AutoAt w'.heap.size w' a defL ∧ Below w.heap.size w w' := by
  refine (new_any v defL w hR def_shortL).mono ?_
  rintro e w' ⟨hb, ⟨h, _⟩ | ⟨_, a, rfl, hA, _⟩⟩
  · exact absurd def_check h
  · exact ⟨a, rfl, hA, hb⟩
theorem def_any (w : World) : Calls Tryz.prog 23 #[] w fun e w' => ∃ v, e = .returned v ∧ RowR w' v defL ∧ Below w.heap.size w w' := by
  refine (default_any w).mono ?_
  rintro e w' ⟨v, rfl, ho, hb⟩
  exact ⟨v, rfl, (row_of_own ho).1, hb⟩
/-- Keys that are typed with the rules of the document. -/
theorem typed_def {ks : By} {b : Bf} (h : typO defL noB ks = some b) (hl : ks.length ≤ 1000) (Q q0 : Nat) (w : World) (hA : AutoAt Q w q0 defL) (hQ : Q ≤ w.heap.size) :
    Calls Tryz.prog 27 #[.pointer (some ⟨q0, 0, none⟩), .string (ba ks)] w fun e w' => ∃ a m k, e = .returned (.tuple #[.agg #[.slice a m k, .int .i64 b.c, .string b.p], .bool true]) ∧ ItR w' (.slice a m k) b.is ∧ Below w.heap.size w w' ∧ Sh b := by
  have h1 := typed_any def_okL Q q0 (ba ks) w hA hQ (by rw [ba_size]; omega)
  rw [bs_ba, typO_sound h] at h1
  exact h1
theorem sh5 : Sh b5 := by
  refine ⟨?_, by decide, by decide⟩
  intro i hi
  simp only [b5, List.mem_cons, List.not_mem_nil, or_false] at hi
  rcases hi with rfl | rfl | rfl <;> exact ⟨by decide, by decide⟩
theorem sh6 : Sh b6 := by
  refine ⟨?_, by decide, by decide⟩
  intro i hi
  simp only [b6, List.mem_cons, List.not_mem_nil, or_false] at hi
  rcases hi with rfl | rfl | rfl | rfl <;> exact ⟨by decide, by decide⟩

set_option maxHeartbeats 4000000 in
theorem works_any (w : World) : Calls Tryz.prog 7 #[] w fun e w' => e = .returned (.bool true) ∧ Below w.heap.size w w' := by
  have HDF := Lib.hid def_any
  have HNW := Lib.hid new_def
  have HTY : Hid (∀ (Q q0 : Nat) (W : World), AutoAt Q W q0 defL → Q ≤ W.heap.size → Calls Tryz.prog 27 #[.pointer (some ⟨q0, 0, none⟩), .string { data := #[107, 121, 111, 117, 110] }] W fun e w' => ∃ a m k, e = .returned (.tuple #[.agg #[.slice a m k, .int .i64 3, .string { data := #[110] }], .bool true]) ∧ ItR w' (.slice a m k) b5.is ∧ Below W.heap.size W w' ∧ Sh b5) := Lib.hid fun Q q0 W h1 h2 => typed_def typ5 (by decide) Q q0 W h1 h2
  have HTX : Hid (∀ (a : Option Addr) (m k : Nat) (W : World), ItR W (.slice a m k) b5.is → Calls Tryz.prog 28 #[.agg #[.slice a m k, .int .i64 3, .string { data := #[110] }]] W fun e w' => e = .returned (.tuple #[.string { data := #[227, 129, 141, 227, 130, 135, 227, 129, 134] }, .string { data := #[110] }, .string { data := #[] }]) ∧ Below W.heap.size W w') := Lib.hid fun a m k W h => by
    have h1 := text_buf b5 (.agg #[.slice a m k, .int .i64 3, .string { data := #[110] }]) W ⟨_, rfl, h⟩ sh5
    rw [tex5] at h1
    exact h1
  have HFL : Hid (∀ (Q q0 : Nat) (a : Option Addr) (m k : Nat) (W : World), AutoAt Q W q0 defL → Q ≤ W.heap.size → ItR W (.slice a m k) b5.is → Calls Tryz.prog 15 #[.pointer (some ⟨q0, 0, none⟩), .agg #[.slice a m k, .int .i64 3, .string { data := #[110] }]] W fun e w' => ∃ a' m' k', e = .returned (.agg #[.slice a' m' k', .int .i64 4, .string { data := #[] }]) ∧ w'.ownsRow W.heap.size 72 2 (.slice a' m' k') 4 (ic b6.is) ∧ Below W.heap.size W w') := Lib.hid fun Q q0 a m k W h1 h2 h3 => by
    have h4 := flushbuf_any def_okL Q q0 b5 [227, 130, 147] (.agg #[.slice a m k, .int .i64 3, .string { data := #[110] }]) W h1 h2 ⟨_, rfl, h3⟩ sh5 (fun _ => flushO_sound flu5)
    rw [flub5] at h4
    exact h4
  have HTX6 : Hid (∀ (a : Option Addr) (m k : Nat) (W : World), ItR W (.slice a m k) b6.is → Calls Tryz.prog 28 #[.agg #[.slice a m k, .int .i64 4, .string { data := #[] }]] W fun e w' => e = .returned (.tuple #[.string { data := #[227, 129, 141, 227, 130, 135, 227, 129, 134, 227, 130, 147] }, .string { data := #[] }, .string { data := #[] }]) ∧ Below W.heap.size W w') := Lib.hid fun a m k W h => by
    have h1 := text_buf b6 (.agg #[.slice a m k, .int .i64 4, .string { data := #[] }]) W ⟨_, rfl, h⟩ sh6
    rw [tex6] at h1
    exact h1
  have HRW : Hid (∀ (a : Option Addr) (m k : Nat) (W : World), ItR W (.slice a m k) b6.is → Calls Tryz.prog 29 #[.agg #[.slice a m k, .int .i64 4, .string { data := #[] }]] W fun e w' => e = .returned (.string { data := #[107, 121, 111, 117, 110] }) ∧ Below W.heap.size W w') := Lib.hid fun a m k W h => by
    have h1 := raw_buf b6 (.agg #[.slice a m k, .int .i64 4, .string { data := #[] }]) W ⟨_, rfl, h⟩ sh6
    rw [raw6] at h1
    exact h1
  generalize b5.is = I5 at *
  generalize b6.is = I6 at *
  go_enter Tryz.func7, Tryz.ntmps7
  go_wp2_with (first
    | (go_at_call 23; (with_reducible refine (HDF.out _).mono ?_); rintro e w1 ⟨v, rfl, hR1, hb1⟩; have HR1 := Lib.hid hR1; clear hR1)
    | (go_at_call 6; (with_reducible refine (HNW.out _ _ HR1.out).mono ?_); rintro e w2 ⟨q0, rfl, hA2, hb2⟩; have HA2 := Lib.hid hA2; have hbw2 := hb1.trans (hb2.mono hb1.size); clear hA2 HR1)
    | (go_at_call 27; (with_reducible refine (HTY.out _ _ _ HA2.out (Nat.le_refl _)).mono ?_); rintro e w3 ⟨a3, m3, k3, rfl, hI3, hb3, _⟩; have HI3 := Lib.hid (fun o => hI3.later ((Below.refl w3.heap.size w3).alloc (Nat.le_refl _) o) (Nat.le_refl _)); have HA3 := Lib.hid (fun o => HA2.out.later (hb3.alloc hb3.size o) (Nat.le_refl _)); have hbw3 := hbw2.trans (hb3.mono hbw2.size); have hbq := hb3.size; clear hI3 HTY)
    | (go_at_call 28; (with_reducible refine (HTX.out _ _ _ _ (HI3.out _)).mono ?_); rintro e w4 ⟨rfl, hb4⟩; have hbx4 := (hb4.block w3.heap.size (by simp)).trans (heap_alloc_new w3 _); obtain ⟨c0, c1, c2, cf⟩ := box_facts hbx4; have HI4 := Lib.hid ((HI3.out _).later hb4 (Nat.le_refl _)); have hs4 := hb4.size; simp at hs4; have HA4 := Lib.hid ((HA3.out _).later hb4 (by simp; omega)); have hbw4 := (hbw3.alloc hbw3.size (Obj.cells #[.slice a3 m3 k3, .int .i64 3, .string { data := #[110] }] 25)).trans (hb4.mono (by have := hbw3.size; simp; omega)); clear HTX)
    | (go_at_call 15; (with_reducible refine (HFL.out _ _ _ _ _ _ HA4.out (by omega) HI4.out).mono ?_); rintro e w5 ⟨a6, m6, k6, rfl, ho6, hb6⟩; have hbx5 := (hb6.block w3.heap.size (by omega)).trans hbx4; clear c0 c1 c2 cf; obtain ⟨c0, c1, c2, cf⟩ := box_facts hbx5; have hbw5 := hbw4.trans (hb6.mono hbw4.size); have HO6 := Lib.hid ho6; have hs6 := hb6.size; clear HFL ho6)
    | (go_at_call 28; obtain ⟨W7, hW7⟩ : ∃ W7, (((w5.setCell ⟨w3.heap.size, 0, none⟩ (.slice a6 m6 k6)).setCell ⟨w3.heap.size, 1, none⟩ (.int .i64 4)).setCell ⟨w3.heap.size, 2, none⟩ (.string { data := #[] })) = W7 := ⟨_, rfl⟩; rw [hW7]; have hbx7 := box_set3 (y0 := .slice a6 m6 k6) (y1 := .int .i64 4) (y2 := .string { data := #[] }) hbx5; have hI7 := (items_of_own (ownsRow_setCell_below (ownsRow_setCell_below (ownsRow_setCell_below HO6.out (a := ⟨w3.heap.size, 0, none⟩) (by show w3.heap.size < _; omega) (.slice a6 m6 k6)) (a := ⟨w3.heap.size, 1, none⟩) (by show w3.heap.size < _; omega) (.int .i64 4)) (a := ⟨w3.heap.size, 2, none⟩) (by show w3.heap.size < _; omega) (.string { data := #[] }))).1; have hbw7 := Below.setCell (Below.setCell (Below.setCell hbw5 (p := ⟨w3.heap.size, 0, none⟩) hbw3.size (.slice a6 m6 k6)) (p := ⟨w3.heap.size, 1, none⟩) hbw3.size (.int .i64 4)) (p := ⟨w3.heap.size, 2, none⟩) hbw3.size (.string { data := #[] }); have hs7 : W7.heap.size = w5.heap.size := (by rw [← hW7]; simp); rw [hW7] at hbx7 hI7 hbw7; clear hW7; (with_reducible refine (HTX6.out _ _ _ _ hI7).mono ?_); rintro e w8 ⟨rfl, hb8⟩; clear c0 c1 c2 cf; obtain ⟨c0, c1, c2, cf⟩ := box_facts ((hb8.block w3.heap.size (by omega)).trans hbx7); have HI8 := Lib.hid (hI7.later hb8 (Nat.le_refl _)); have hbw8 := hbw7.trans (hb8.mono hbw7.size); clear hI7)
    | (go_at_call 29; (with_reducible refine (HRW.out _ _ _ _ HI8.out).mono ?_); rintro e w9 ⟨rfl, hb9⟩))
  go_ret
  exact ⟨rfl, hbw8.trans (hb9.mono hbw8.size)⟩

end Go.Proofs.YtamdlbefiggkfaaGreat.Cmp

set_option linter.unusedVariables false
set_option linter.unusedSimpArgs false
set_option maxRecDepth 100000
namespace Go.Proofs.YtamdlbefiggkfaaGreat.Cmp
open Go Go.RowKit Go.ChangeShapes Go.WideShapes Go.Deep Go.Proofs.YtamdlbefiggkfaaGreat Go.Proofs.YtamdlbefiggkfaaGreat.Kit Go.Proofs.YtamdlbefiggkfaaGreat.Utf Go.Proofs.YtamdlbefiggkfaaGreat.Rom Go.Proofs.YtamdlbefiggkfaaGreat.Aut

theorem bulk_pos {H : Type} (d : DataW H) : 1 ≤ Rows.uptoBulk d := by
  cases d with
  | lit l => cases l <;> simp [Rows.uptoBulk]
  | _ => simp [Rows.uptoBulk]
theorem bulk_mem {H : Type} {d : DataW H} {l : List (DataW H)} (h : d ∈ l) : Rows.uptoBulk d ≤ Rows.uptoBulkAll l := by
  induction l with
  | nil => cases h
  | cons x r ih =>
    simp only [Rows.uptoBulkAll]
    rcases List.mem_cons.1 h with rfl | h
    · omega
    · have := ih h; omega
theorem bulk_len {H : Type} (l : List (DataW H)) : l.length ≤ Rows.uptoBulkAll l := by
  induction l with
  | nil => simp
  | cons x r ih =>
    simp only [Rows.uptoBulkAll, List.length_cons]
    have := bulk_pos x
    omega
theorem bulk_string {H : Type} (s : ByteArray) : Rows.uptoBulk (H := H) (.lit (.string s.data.toList)) = s.size + 1 := by
  have e : s.data.toList.length = s.size := by rw [Array.length_toList]; rfl
  simp only [Rows.uptoBulk, e]

theorem items_open {H : Type} {enc : TypeId × Value → H} {w : World} {base : Nat} {spare : Nat → Bool} {held : Bool} {fuel : Nat} {cs : List Value} {x : DataW H × List MemPlace}
    (h : DataW.trod enc Tryz.prog w base spare held fuel 23 cs = some x) : ∃ a len cap is, cs = [.slice a len cap] ∧ ItR w (.slice a len cap) is ∧ ∀ i ∈ is, i.r.size + i.o.size + is.length ≤ Rows.uptoBulk x.1 := by
  have hF : ∃ f0 f1, Tryz.prog.underlying 72 = some (.struct #[f0, f1]) ∧ f0.offset = 0 ∧ f1.offset = 1 ∧ f0.type = 9 ∧ f1.type = 9 := ⟨_, _, Tryz.underlying72, rfl, rfl, rfl, rfl⟩
  obtain ⟨f0, f1, hu, o0, o1, t0, t1⟩ := hF
  have cS : Tryz.prog.cellsOf 9 = 1 := by kernel_rfl
  rcases open_slice_pairs Tryz.underlying23 hu (by kernel_rfl) o0 o1 (by rw [t0]; exact cS) (by rw [t1]; exact cS) h with ⟨rfl, _⟩ | ⟨a', len, cap, m, n, V0, V1, D0, D1, P0, P1, rfl, hb, hl, hm, hmm, hx, hi⟩
  · exact ⟨none, 0, 0, [], rfl, ItR.nil w, fun i hi => by cases hi⟩
  · have hlm : len ≤ m := by rw [hmm]; split <;> omega
    rw [t0, t1] at hi
    have key : ∀ i, ∃ r : It, i < len → w.cell? (a'.add (i * 2)) = some (.string r.r) ∧ w.cell? (a'.add (i * 2 + 1)) = some (.string r.o) ∧ D0 i = .lit (.string r.r.data.toList) ∧ D1 i = .lit (.string r.o.data.toList) := by
      intro i
      by_cases hil : i < len
      · obtain ⟨c0, c1, h0, h1⟩ := hi i (by omega)
        obtain ⟨s0, e0, d0, _⟩ := DataW.trod_string Tryz.underlying9 h0
        obtain ⟨s1, e1, d1, _⟩ := DataW.trod_string Tryz.underlying9 h1
        simp at e0 e1
        rw [e0] at c0
        rw [e1] at c1
        exact ⟨⟨s0, s1⟩, fun _ => ⟨c0, c1, by injection d0, by injection d1⟩⟩
      · exact ⟨default, fun h => absurd h hil⟩
    obtain ⟨f, hf⟩ := Classical.axiomOfChoice key
    have hget : ∀ i, i < len → ii ((List.range len).map f) i = f i := fun i hi2 => by
      unfold ii
      rw [List.getD_eq_getElem?_getD, List.getElem?_map, List.getElem?_range hi2]; rfl
    obtain ⟨b, off, spot⟩ := a'
    refine ⟨_, len, cap, (List.range len).map f, rfl, ⟨_, len, cap, rfl, by simp, hl, hm, ?_⟩, ?_⟩
    · by_cases h0 : len = 0
      · exact .inr (.inl ⟨_, rfl, h0⟩)
      · have hsp := (hf 0 (by omega)).1
        have hspot : spot = none := by simpa [Addr.add] using World.cell?_spot hsp
        subst hspot
        refine .inr (.inr ⟨b, off, rfl, World.block_lt_of_cell? w _ hsp, fun i hi2 => ?_⟩)
        simp only [List.length_map, List.length_range] at hi2
        rw [hget i hi2]
        have := hf i hi2
        simp only [Addr.add_lit] at this
        exact ⟨this.1, this.2.1⟩
    · intro i hi2
      obtain ⟨j, hj, rfl⟩ := List.mem_map.1 hi2
      rw [List.mem_range] at hj
      obtain ⟨_, _, q0, q1⟩ := hf j hj
      rw [hx]
      simp only [Rows.uptoBulk, List.length_map, List.length_range]
      have h1 : Rows.uptoBulk (.agg [D0 j, D1 j]) ≤ Rows.uptoBulkAll ((List.range len).map fun i => .agg [D0 i, D1 i]) := bulk_mem (List.mem_map.2 ⟨j, List.mem_range.2 hj, rfl⟩)
      have h2 : ∀ l : List Nat, j ∈ l → l.Nodup → Rows.uptoBulk (.agg [D0 j, D1 j]) + (l.length - 1) ≤ Rows.uptoBulkAll (l.map fun i => .agg [D0 i, D1 i]) := by
        intro l
        induction l with
        | nil => intro h; cases h
        | cons y r ih =>
          intro hm hnd
          rw [List.nodup_cons] at hnd
          simp only [List.map_cons, Rows.uptoBulkAll, List.length_cons]
          rcases List.mem_cons.1 hm with rfl | hm
          · have := bulk_len (r.map fun i => DataW.agg [D0 i, D1 i])
            rw [List.length_map] at this
            omega
          · have := ih hm hnd.2
            have h3 := bulk_pos (DataW.agg [D0 y, D1 y])
            have h4 : 0 < r.length := List.length_pos_of_mem hm
            omega
      have h3 := h2 (List.range len) (List.mem_range.2 hj) List.nodup_range
      simp only [Rows.uptoBulk, Rows.uptoBulkAll] at h3
      rw [q0, q1, bulk_string, bulk_string, List.length_range] at h3
      omega
theorem three_long2 (l : List Value) (h : l.length = 3) : ∃ a b c, l = [a, b, c] := by
  match l, h with
  | [a, b, c], _ => exact ⟨a, b, c, rfl⟩
theorem buf_open {H : Type} {enc : TypeId × Value → H} {w : World} {base : Nat} {spare : Nat → Bool} {held : Bool} {cs : Array Value} {d : DataW H} {p : List MemPlace} (hcs : cs.size = Tryz.prog.cellsOf 25)
    (h : DataW.Trod enc Tryz.prog w base spare held 25 (.agg cs) d p) : ∃ a len cap b, cs = #[.slice a len cap, .int .i64 b.c, .string b.p] ∧ ItR w (.slice a len cap) b.is ∧ (Lit.int .i64 b.c).wf = true ∧ (Rows.uptoBulk d ≤ 1048576 → Sh b) := by
  obtain ⟨fuel, h⟩ := h
  obtain ⟨ys, n', hn', hy, hlen, hyl, hf⟩ := DataW.trod_struct Tryz.underlying25 h
  have hC : Tryz.prog.cellsOf 25 = 3 := by kernel_rfl
  rw [hC] at hcs
  have hx : (Value.agg cs).cells.toList = cs.toList := rfl
  rw [hx] at hf
  obtain ⟨v0, v1, v2, hv⟩ := three_long2 cs.toList (by simpa using hcs)
  rw [hv] at hf
  have c0 : Tryz.prog.cellsOf 23 = 1 := by kernel_rfl
  have c1 : Tryz.prog.cellsOf 3 = 1 := by kernel_rfl
  have c2 : Tryz.prog.cellsOf 9 = 1 := by kernel_rfl
  have h0 : DataW.trod enc Tryz.prog w base spare held n' 23 (([v0, v1, v2].drop 0).take (Tryz.prog.cellsOf 23)) = ys[0]? := hf 0 _ rfl
  have h1 : DataW.trod enc Tryz.prog w base spare held n' 3 (([v0, v1, v2].drop 1).take (Tryz.prog.cellsOf 3)) = ys[1]? := hf 1 _ rfl
  have h2 : DataW.trod enc Tryz.prog w base spare held n' 9 (([v0, v1, v2].drop 2).take (Tryz.prog.cellsOf 9)) = ys[2]? := hf 2 _ rfl
  rw [c0] at h0
  rw [c1] at h1
  rw [c2] at h2
  have hys : ys.length = 3 := hyl
  rw [List.getElem?_eq_getElem (by omega)] at h0 h1 h2
  obtain ⟨a, len, cap, is, e0, hI, hbk⟩ := items_open h0
  obtain ⟨c, e1, d1, hwf⟩ := DataW.trod_int Tryz.underlying3 h1
  obtain ⟨s, e2, d2, _⟩ := DataW.trod_string Tryz.underlying9 h2
  simp at e0 e1 e2
  refine ⟨a, len, cap, ⟨is, c, s⟩, ?_, hI, hwf, fun hb => ?_⟩
  · apply Array.toList_inj.1
    rw [hv, e0, e1, e2]
  · have hd : d = .agg (ys.map (·.1)) := by injection hy
    have hb0 : Rows.uptoBulk ys[0].1 ≤ Rows.uptoBulkAll (ys.map (·.1)) := bulk_mem (List.mem_map.2 ⟨_, List.getElem_mem (by omega), rfl⟩)
    have hb2 : Rows.uptoBulk ys[2].1 ≤ Rows.uptoBulkAll (ys.map (·.1)) := bulk_mem (List.mem_map.2 ⟨_, List.getElem_mem (by omega), rfl⟩)
    rw [hd] at hb
    simp only [Rows.uptoBulk] at hb
    rw [d2, bulk_string] at hb2
    refine ⟨fun i hi => ?_, by show s.size ≤ _; omega, ?_⟩
    · have := hbk i hi
      exact ⟨by omega, by omega⟩
    · show is.length ≤ _
      by_cases hz : is.length = 0
      · omega
      · have := hbk _ (List.getElem_mem (l := is) (n := 0) (by omega))
        omega

theorem rules_bulk {H : Type} {enc : TypeId × Value → H} {w : World} {base : Nat} {spare : Nat → Bool} {held : Bool} {fuel : Nat} {a : Option Addr} {len cap : Nat} {x : DataW H × List MemPlace}
    (h : DataW.trod enc Tryz.prog w base spare held fuel 22 [.slice a len cap] = some x) : ∃ rs, RowR w (.slice a len cap) rs ∧ (Rows.uptoBulk x.1 ≤ 1048576 → ∀ r ∈ rs, Short r) := by
  rcases open_slice Tryz.underlying22 h with ⟨hcs, _⟩ | ⟨a', len', cap', m, n, D, Pl, hcs, hb, hl, hm, hmm, hx, hi⟩
  · simp at hcs
    obtain ⟨rfl, rfl, rfl⟩ := hcs
    exact ⟨[], RowR.nil w, fun _ r hr => by cases hr⟩
  · simp at hcs
    obtain ⟨rfl, rfl, rfl⟩ := hcs
    have hlm : len ≤ m := by rw [hmm]; split <;> omega
    have hC : Tryz.prog.cellsOf 64 = 3 := by kernel_rfl
    have hS : Tryz.prog.cellsOf 9 = 1 := by kernel_rfl
    rw [hC] at hi
    obtain ⟨b, off, spot⟩ := a'
    have key : ∀ i, ∃ r : Rule, i < len → w.cell? ((⟨b, off, spot⟩ : Addr).add (i * 3)) = some (.string r.k) ∧ w.cell? ((⟨b, off, spot⟩ : Addr).add (i * 3 + 1)) = some (.string r.o) ∧ w.cell? ((⟨b, off, spot⟩ : Addr).add (i * 3 + 2)) = some (.string r.n) ∧ D i = .agg [.lit (.string r.k.data.toList), .lit (.string r.o.data.toList), .lit (.string r.n.data.toList)] := by
      intro i
      by_cases hil : i < len
      · obtain ⟨cs', hc, ht'⟩ := hi i (by omega)
        obtain ⟨ys, n', hn', hy, hlen, hyl, hf⟩ := DataW.trod_struct Tryz.underlying64 ht'
        obtain ⟨_, hcl, hat⟩ := World.cells?_some hc
        obtain ⟨v0, v1, v2, rfl⟩ := three_long2 cs' hcl
        have h0 : DataW.trod enc Tryz.prog w base spare held n' 9 (([v0, v1, v2].drop 0).take (Tryz.prog.cellsOf 9)) = ys[0]? := hf 0 _ rfl
        have h1 : DataW.trod enc Tryz.prog w base spare held n' 9 (([v0, v1, v2].drop 1).take (Tryz.prog.cellsOf 9)) = ys[1]? := hf 1 _ rfl
        have h2 : DataW.trod enc Tryz.prog w base spare held n' 9 (([v0, v1, v2].drop 2).take (Tryz.prog.cellsOf 9)) = ys[2]? := hf 2 _ rfl
        rw [hS] at h0 h1 h2
        have hys : ys.length = 3 := hyl
        rw [List.getElem?_eq_getElem (by omega)] at h0 h1 h2
        obtain ⟨s0, e0, g0, _⟩ := DataW.trod_string Tryz.underlying9 h0
        obtain ⟨s1, e1, g1, _⟩ := DataW.trod_string Tryz.underlying9 h1
        obtain ⟨s2, e2, g2, _⟩ := DataW.trod_string Tryz.underlying9 h2
        have hD : D i = .agg (ys.map (·.1)) := by injection hy
        have hys3 : ys = [ys[0], ys[1], ys[2]] := by
          apply List.ext_getElem
          · simp; omega
          · intro k hk _
            have : k = 0 ∨ k = 1 ∨ k = 2 := by omega
            rcases this with rfl | rfl | rfl <;> rfl
        have hD2 : D i = .agg [.lit (.string s0.data.toList), .lit (.string s1.data.toList), .lit (.string s2.data.toList)] := by
          rw [hD, hys3, g0, g1, g2]; rfl
        simp at e0 e1 e2
        have c0 := hat 0 (by omega)
        have c1 := hat 1 (by omega)
        have c2 := hat 2 (by omega)
        rw [Go.Deep.add_add] at c0 c1 c2
        refine ⟨⟨s0, s1, s2⟩, fun _ => ⟨?_, ?_, ?_, hD2⟩⟩
        · rw [Nat.add_zero] at c0; rw [c0]; simp [e0]
        · rw [c1]; simp [e1]
        · rw [c2]; simp [e2]
      · exact ⟨default, fun h => absurd h hil⟩
    obtain ⟨f, hf⟩ := Classical.axiomOfChoice key
    refine ⟨(List.range len).map f, ⟨_, len, cap, rfl, by simp, hl, hm, ?_⟩, ?_⟩
    rotate_left
    · intro hbk r hr
      obtain ⟨j, hj, rfl⟩ := List.mem_map.1 hr
      rw [List.mem_range] at hj
      obtain ⟨_, _, _, q⟩ := hf j hj
      rw [hx] at hbk
      simp only [Rows.uptoBulk] at hbk
      have h1 : Rows.uptoBulk (D j) ≤ Rows.uptoBulkAll ((List.range len).map D) := bulk_mem (List.mem_map.2 ⟨j, List.mem_range.2 hj, rfl⟩)
      rw [q] at h1
      simp only [Rows.uptoBulk, Rows.uptoBulkAll] at h1
      simp only [Array.length_toList] at h1
      exact ⟨by show (f j).k.data.size ≤ _; omega, by show (f j).o.data.size ≤ _; omega, by show (f j).n.data.size ≤ _; omega⟩
    by_cases h0 : len = 0
    · exact .inr (.inl ⟨_, rfl, h0⟩)
    · have hsp := (hf 0 (by omega)).1
      have hspot : spot = none := by simpa [Addr.add] using World.cell?_spot hsp
      subst hspot
      refine .inr (.inr ⟨b, off, rfl, World.block_lt_of_cell? w _ hsp, fun i hi2 => ?_⟩)
      simp only [List.length_map, List.length_range] at hi2
      have e : ri ((List.range len).map f) i = f i := by
        unfold ri
        rw [List.getD_eq_getElem?_getD, List.getElem?_map, List.getElem?_range hi2]; rfl
      rw [e]
      have := hf i hi2
      simp only [Addr.add_lit] at this
      exact ⟨this.1, this.2.1, this.2.2.1⟩


end Go.Proofs.YtamdlbefiggkfaaGreat.Cmp

set_option linter.unusedVariables false
set_option linter.unusedSimpArgs false
set_option maxRecDepth 100000
namespace Go.Proofs.YtamdlbefiggkfaaGreat.Cmp
open Go Go.RowKit Go.Proofs.YtamdlbefiggkfaaGreat.Kit Go.Proofs.YtamdlbefiggkfaaGreat.Utf Go.Proofs.YtamdlbefiggkfaaGreat.Rom Go.Proofs.YtamdlbefiggkfaaGreat.Aut

theorem load_rbuf {w : World} {g o : Nat} {a : Option Addr} {n k : Nat} {c : Int} {p : ByteArray} (h0 : w.cell? ⟨g, o, none⟩ = some (.slice a n k)) (h1 : w.cell? ⟨g, o + 1, none⟩ = some (.int .i64 c)) (h2 : w.cell? ⟨g, o + 2, none⟩ = some (.string p)) :
    (loadVar 33 ⟨g, o, none⟩).run Tryz.prog w = .ok (.agg #[.slice a n k, .int .i64 c, .string p]) w := by
  go_simp

set_option maxHeartbeats 8000000 in
theorem gvn8_any (b : Bf) (s : Value) (w : World) (hR : ItR w s b.is) (hn : b.is.length ≤ 1000000000) :
    Calls Tryz.prog 8 #[.agg #[s, .int .i64 b.c, .string b.p]] w fun e w' => ∃ v, e = .returned (.agg #[v, .int .i64 b.c, .string b.p]) ∧ w'.ownsRow w.heap.size 73 2 v b.is.length (ic b.is) ∧ Below w.heap.size w w' := by
  obtain ⟨i0, hi0, hz0, hz1, hz2⟩ := info_parts info_ritem
  obtain ⟨a, len, cap, rfl, hlen, hcap, hmax, _⟩ := id hR
  subst hlen
  have HR := Lib.hid hR
  obtain ⟨is, c, p⟩ := b
  simp only at *
  clear hR
  have fact : ∀ o1 o2 o3 W, o1 = Obj.cells #[.slice a is.length cap, .int .i64 c, .string p] 25 → o2 = Obj.cells #[.slice none 0 0, .int .i64 0, .string { data := #[] }] 33 → o3 = Obj.cells #[.slice none 0 0, .int .i64 c, .string p] 33 → ((w.alloc o1).alloc o2).alloc o3 = W →
      W.heap[w.heap.size]? = some o1 ∧ W.heap[w.heap.size + 1]? = some o2 ∧ W.heap[w.heap.size + 2]? = some o3 ∧ Below w.heap.size w W ∧ W.heap.size = w.heap.size + 3 := by
    rintro o1 o2 o3 W h1 h2 h3 rfl
    have s1 : (w.alloc o1).heap.size = w.heap.size + 1 := by simp
    have s2 : ((w.alloc o1).alloc o2).heap.size = w.heap.size + 2 := by simp
    have e1 := heap_alloc_new w o1
    have e2 := heap_alloc_new (w.alloc o1) o2
    have e3 := heap_alloc_new ((w.alloc o1).alloc o2) o3
    rw [s1] at e2
    rw [s2] at e3
    rw [← Below.heap_alloc _ o2 _ (by simp), ← Below.heap_alloc _ o3 _ (by simp; omega)] at e1
    rw [← Below.heap_alloc _ o3 _ (by simp)] at e2
    exact ⟨e1, e2, e3, (((Below.refl _ _).alloc (Nat.le_refl _) _).alloc (by simp) _).alloc (by simp; omega) _, by simp⟩
  have FACT := Lib.hid fact
  clear fact
  go_enter Tryz.func8, Tryz.ntmps8
  go_wp2
  obtain ⟨W, hW⟩ : ∃ W, ((w.alloc (Obj.cells #[.slice a is.length cap, .int .i64 c, .string p] 25)).alloc (Obj.cells #[.slice none 0 0, .int .i64 0, .string { data := #[] }] 33)).alloc (Obj.cells #[.slice none 0 0, .int .i64 c, .string p] 33) = W := ⟨_, rfl⟩
  rw [hW]
  obtain ⟨f1, f2, f3, f4, f5⟩ := FACT.out _ _ _ W rfl rfl rfl hW
  clear hW FACT
  go_loopw [4] (fun i wr => ∃ k : Nat, i = .int .i64 k ∧ k ≤ is.length ∧ ∃ a2 m2 c2, wr.heap[w.heap.size + 2]? = some (Obj.cells #[.slice a2 m2 c2, .int .i64 c, .string p] 33) ∧ wr.ownsRow (w.heap.size + 3) 73 2 (.slice a2 m2 c2) k (ic (is.take k)) ∧ Below (w.heap.size + 2) W wr ∧ w.heap.size + 3 ≤ wr.heap.size) (fun i _ => is.length - (intOf i).toNat)
  case atStart => exact ⟨0, rfl, Nat.zero_le _, none, 0, 0, f3, World.ownsRow_nil _ _ _ _, Below.refl _ _, by omega⟩
  case round =>
    obtain ⟨k, rfl, hk, a2, m2, c2, hbox, hown, hbw, hws⟩ := hrel
    obtain ⟨b0, b1, b2, bf⟩ := box_facts ((hbw.block w.heap.size (by omega)).trans f1)
    obtain ⟨d0, d1, d2, df⟩ := box_facts hbox
    by_cases hkl : k < is.length
    · obtain ⟨g, off, rfl, hb, hx⟩ := HR.out.at (by omega)
      obtain ⟨x0, x1⟩ := hx k hkl
      have hgw : g < w.heap.size := hb
      rw [← f4.cell (p := ⟨g, _, none⟩) hb, ← hbw.cell (p := ⟨g, _, none⟩) (by show g < _; omega)] at x0 x1
      have hsn := Lib.hid (ic_snoc (is.take k) (ii is k))
      have hts := Lib.hid (take_succ_ii is k hkl)
      have hxl : (ic (is.take k)).length = k * 2 := by rw [ic_len, len_take_i hk]
      clear hx
      generalize ii is k = r at x0 x1 hsn hts
      obtain ⟨rr, ro⟩ := r
      simp only at x0 x1
      have k0 : (0 : Int) ≤ k := by omega
      have k1 : (k : Int) < is.length := by omega
      generalize ic (is.take k) = xs at hown hsn hxl
      have hlt := hown.lt
      have HBX := Lib.hid (show ∀ w5, ((wr.alloc (Obj.cells #[.string rr, .string ro] 73)).drew).grownBy w5 (Value.slice a2 m2 c2).ownBlock → w5.heap[w.heap.size + 1 + 1]? = some (Obj.cells #[.slice a2 m2 c2, .int .i64 c, .string p] 33) ∧ Below (w.heap.size + 2) W w5 ∧ w.heap.size + 3 ≤ w5.heap.size from fun w5 hg => by
        have hs5 := hg.size
        have hs6 : (wr.alloc (Obj.cells #[.string rr, .string ro] 73)).drew.heap.size = wr.heap.size + 1 := by simp
        refine ⟨?_, ((hbw.alloc (by omega) _).drew).grown hg (by rw [hs6]; omega) (fun j hj => by have := hlt j hj; omega), by omega⟩
        rw [hg.block (w.heap.size + 1 + 1) (by rw [hs6]; omega) (fun e => by have := hlt _ e.symm; omega)]
        show (wr.alloc (Obj.cells #[.string rr, .string ro] 73)).heap[w.heap.size + 1 + 1]? = _
        rw [Below.heap_alloc _ _ _ (by omega)]
        exact hbox)
      have d0' : (wr.alloc (Obj.cells #[.string rr, .string ro] 73)).cell? ⟨w.heap.size + 1 + 1, 0, none⟩ = some (.slice a2 m2 c2) := by rw [World.cell?_alloc_past _ _ _ (by omega)]; exact d0
      have d1' : (wr.alloc (Obj.cells #[.string rr, .string ro] 73)).drew.cell? ⟨w.heap.size + 1 + 1, 0, none⟩ = some (.slice a2 m2 c2) := d0'
      go_wp2
      go_region_law (refine step_append_lies _ (by rfl) _ _ _ (by rfl) (w.heap.size + 3) 73 i0 _ 2 32 Tryz.underlying31 hi0 hz0 hz1 hz2 rfl (by omega) _ k xs (by rfl) ((hown.alloc _).drew) ⟨wr.heap.size, 0, none⟩ 1 1 [.string rr, .string ro] (by rfl) (by rfl) (World.news_of_block (cs := #[.string rr, .string ro]) (t := 73) (fr := (0, 0)) (heap_alloc_new wr _)) (by simp [Value.oneCell']) (by omega) (by unfold maxLen; omega) (by omega) (by simp; omega) (wr.heap.size + 1) (by simp) ?_; intro gg cap1 w5 hown5 hgrow hat hlt5; obtain ⟨y1, y2, y3⟩ := HBX.out w5 hgrow; obtain ⟨q0, q1, q2, qf⟩ := box_facts y1)
      all_goals
        have hz := (box_set (y0 := .slice (some ⟨gg, 0, none⟩) (k + 1) cap1) (y1 := .int .i64 0) (y2 := .int .i64 0) y1).1
        have ho := ownsRow_setCell_below hown5 (a := ⟨w.heap.size + 1 + 1, 0, none⟩) (by show w.heap.size + 1 + 1 < _; omega) (.slice (some ⟨gg, 0, none⟩) (k + 1) cap1)
        have hB := Below.setCell y2 (p := ⟨w.heap.size + 1 + 1, 0, none⟩) (by show _ ≤ w.heap.size + 1 + 1; omega) (.slice (some ⟨gg, 0, none⟩) (k + 1) cap1)
        go_wp2
        exact ⟨⟨k + 1, by go_num, by omega, some ⟨gg, 0, none⟩, k + 1, cap1, hz, by rw [hts.out, hsn.out]; exact ho, hB, by simp; omega⟩, by simp [intOf]; omega⟩
    · have e1 : k = is.length := by omega
      subst e1
      rw [List.take_length] at hown
      obtain ⟨r0, r1, r2, rf⟩ := box_facts ((hbw.block (w.heap.size + 1) (by omega)).trans f2)
      have HOW := Lib.hid hown
      have hbw2 : Below w.heap.size w wr := f4.trans (hbw.mono (by omega))
      clear hown hbox f1 f2 f3
      go_wp2
      obtain ⟨q0, q1, q2⟩ := three_set (w := wr) (g := w.heap.size + 1) (x := .slice a2 m2 c2) (y := .int .i64 c) (z := .string p) (by rw [r0]; rfl) (by rw [r1]; rfl) (by rw [r2]; rfl)
      refine bodyPost_ret (v := .agg #[.slice a2 m2 c2, .int .i64 c, .string p]) ?_ rfl ⟨_, rfl, own_base (ownsRow_setCell_below (ownsRow_setCell_below (ownsRow_setCell_below HOW.out (by show w.heap.size + 1 < _; omega) _) (by show w.heap.size + 1 < _; omega) _) (by show w.heap.size + 1 < _; omega) _) (by omega), Below.setCell (Below.setCell (Below.setCell hbw2 (by show _ ≤ w.heap.size + 1; omega) _) (by show _ ≤ w.heap.size + 1; omega) _) (by show _ ≤ w.heap.size + 1; omega) _⟩
      rw [results_cell1 rfl]
      show ((loadVar 33 ⟨w.heap.size + 1, 0, none⟩).run Tryz.prog _) = _
      exact load_rbuf q0 q1 q2

end Go.Proofs.YtamdlbefiggkfaaGreat.Cmp

set_option linter.unusedVariables false
set_option linter.unusedSimpArgs false
set_option maxRecDepth 100000
namespace Go.Proofs.YtamdlbefiggkfaaGreat.Cmp
open Go Go.RowKit Go.Proofs.YtamdlbefiggkfaaGreat.Kit Go.Proofs.YtamdlbefiggkfaaGreat.Utf Go.Proofs.YtamdlbefiggkfaaGreat.Rom Go.Proofs.YtamdlbefiggkfaaGreat.Aut

theorem val_long {b : Bf} (h : ¬ b.p.size ≤ 8) : val b = false := by
  cases e : val b
  · rfl
  · exact absurd (val_parts e).2.2.2.2.1 h
theorem val_nokey {b : Bf} (h : fromB 33 (bs b.p) = false) : val b = false := by
  cases e : val b
  · rfl
  · have := (val_parts e).2.2.2.2.2
    rw [h] at this; cases this

set_option maxHeartbeats 4000000 in
theorem rvalid_any (b : Bf) (s : Value) (w : World) (hR : ItR w s b.is) (hsh : Sh b) :
    Calls Tryz.prog 37 #[.agg #[s, .int .i64 b.c, .string b.p]] w fun e w' => e = .returned (.bool (val b)) ∧ Below w.heap.size w w' := by
  obtain ⟨a, len, cap, rfl, hlen, hcap, hmax, _⟩ := id hR
  obtain ⟨sh1, sh2, sh3⟩ := hsh
  subst hlen
  unfold maxLen at hmax
  by_cases h1 : b.is.length ≤ 64
  rotate_left
  · rw [val_len h1]
    clear hR sh1
    obtain ⟨is, c, p⟩ := b
    simp only at *
    go_enter Tryz.func37, Tryz.ntmps37
    go_wp2
    go_ret
    exact ⟨rfl, (Below.refl _ _).alloc (Nat.le_refl _) _⟩
  by_cases h2 : 0 ≤ b.c
  rotate_left
  · rw [val_neg h2]
    clear hR sh1
    obtain ⟨is, c, p⟩ := b
    simp only at *
    go_enter Tryz.func37, Tryz.ntmps37
    go_wp2
    go_ret
    exact ⟨rfl, (Below.refl _ _).alloc (Nat.le_refl _) _⟩
  by_cases h3 : b.c ≤ b.is.length
  rotate_left
  · rw [val_gt h3]
    clear hR sh1
    obtain ⟨is, c, p⟩ := b
    simp only at *
    go_enter Tryz.func37, Tryz.ntmps37
    go_wp2
    go_ret
    exact ⟨rfl, (Below.refl _ _).alloc (Nat.le_refl _) _⟩
  by_cases h8 : b.p.size ≤ 8
  rotate_left
  · rw [val_long h8]
    clear hR sh1
    obtain ⟨is, c, p⟩ := b
    simp only at *
    go_enter Tryz.func37, Tryz.ntmps37
    go_wp2
    go_ret
    exact ⟨rfl, (Below.refl _ _).alloc (Nat.le_refl _) _⟩
  have HP := fun W => rbytes_any 33 b.p W (by omega) (by omega) (by omega)
  cases hFP : fromB 33 (bs b.p)
  · rw [val_nokey hFP]
    rw [hFP] at HP
    have HP := Lib.hid HP
    clear hR sh1 hFP
    obtain ⟨is, c, p⟩ := b
    simp only at *
    go_enter Tryz.func37, Tryz.ntmps37
    go_wp2_with (go_at_call 43; (with_reducible refine (HP.out _).mono ?_); rintro e w2 ⟨rfl, hw2⟩; obtain rfl := hw2.symm)
    go_ret
    exact ⟨rfl, (Below.refl _ _).alloc (Nat.le_refl _) _⟩
  rw [hFP] at HP
  obtain ⟨E, hE⟩ : ∃ E, val b = E := ⟨_, rfl⟩
  rw [hE]
  have HBAD := Lib.hid (fun (k : Nat) (hk : k < b.is.length) (h : okI (ii b.is k) = false) => (val_bad hk h).symm.trans hE)
  have HREST := Lib.hid (show (∀ j, j < b.is.length → okI (ii b.is j) = true) → true = E from fun h4 => by
    have h := (val_rest h1 h2 h3 h4).symm.trans hE
    rw [decide_eq_true h8, hFP] at h
    exact h)
  clear hE
  have HS := Lib.hid sh1
  have HR := Lib.hid hR
  obtain ⟨is, c, p⟩ := b
  simp only at *
  have HP := Lib.hid HP
  clear sh1 hR hFP
  go_enter Tryz.func37, Tryz.ntmps37
  go_wp2_with (go_at_call 43; (with_reducible refine (HP.out _).mono ?_); rintro e w2 ⟨rfl, hw2⟩; obtain rfl := hw2.symm)
  go_loopw [3] (fun i wr => ∃ k : Nat, i = .int .i64 k ∧ k ≤ is.length ∧ Hid (∀ j, j < k → okI (ii is j) = true) ∧ Below w.heap.size w wr ∧ wr.cell? ⟨w.heap.size, 0, none⟩ = some (.slice a is.length cap) ∧ w.heap.size + 1 ≤ wr.heap.size) (fun i _ => is.length - (intOf i).toNat)
  case atStart => exact ⟨0, rfl, Nat.zero_le _, Lib.hid (fun j hj => by omega), (Below.refl _ _).alloc (Nat.le_refl _) _, by simp, by simp⟩
  case round =>
    obtain ⟨k, rfl, hk, hall, hbw, hc2, hz⟩ := hrel
    by_cases hkl : k < is.length
    · obtain ⟨g, off, rfl, hb, hx⟩ := HR.out.at (by omega)
      obtain ⟨x0, x1⟩ := hx k hkl
      rw [← hbw.cell (p := ⟨g, _, none⟩) hb] at x0 x1
      obtain ⟨z1, z2⟩ := HS.out _ (ii_mem hkl)
      have HB2 := Lib.hid (HBAD.out k hkl)
      have HA2 := Lib.hid (show okI (ii is k) = true → ∀ j, j < k + 1 → okI (ii is j) = true from fun h j hj => by
        rcases Nat.lt_or_ge j k with h' | h'
        · exact hall.out j h'
        · rw [show j = k by omega]; exact h)
      clear hx
      generalize ii is k = r at x0 x1 z1 z2 HB2 HA2
      obtain ⟨rr, ro⟩ := r
      simp only at x0 x1 z1 z2
      unfold okI at HB2 HA2
      simp only at HB2 HA2
      have HC := fun W => rcount_any ro W (by omega)
      have HF := fun W => rbytes_any 32 rr W (by omega) (by omega) (by omega)
      obtain ⟨Z, hZ⟩ : ∃ Z, count (bs ro) = Z := ⟨_, rfl⟩
      obtain ⟨F, hF⟩ : ∃ F, fromB 32 (bs rr) = F := ⟨_, rfl⟩
      rw [hZ] at HC HB2 HA2
      rw [hF] at HF HB2 HA2
      have HC := Lib.hid HC
      have HF := Lib.hid HF
      have k0 : (0 : Int) ≤ k := by omega
      have k1 : (k : Int) < is.length := by omega
      clear hZ hF
      have hws := hbw.size
      have hgs : g < wr.heap.size := by omega
      by_cases hz1 : Z = 1
      · subst hz1
        cases F
        · have HB3 := Lib.hid (HB2.out rfl)
          go_wp2_with (first
            | (go_at_call 40; (with_reducible refine (HC.out _).mono ?_); rintro e w1 ⟨rfl, hb1⟩; have hd2 := (hb1.cell (p := ⟨w.heap.size, 0, none⟩) (by simp; omega)).trans hc2; have hx0 := (hb1.cell (p := ⟨g, _, none⟩) hgs).trans x0)
            | (go_at_call 43; (with_reducible refine (HF.out _).mono ?_); rintro e w2 ⟨rfl, hw2⟩; obtain rfl := hw2.symm))
          go_ret
          exact ⟨ret_bool HB3.out, hbw.trans (hb1.mono hws)⟩
        · have HA3 := Lib.hid (HA2.out rfl)
          go_wp2_with (first
            | (go_at_call 40; (with_reducible refine (HC.out _).mono ?_); rintro e w1 ⟨rfl, hb1⟩; have hd2 := (hb1.cell (p := ⟨w.heap.size, 0, none⟩) (by simp; omega)).trans hc2; have hx0 := (hb1.cell (p := ⟨g, _, none⟩) hgs).trans x0; have hs1 := hb1.size)
            | (go_at_call 43; (with_reducible refine (HF.out _).mono ?_); rintro e w2 ⟨rfl, hw2⟩; obtain rfl := hw2.symm))
          go_roundw
          case rel => exact ⟨k + 1, by go_num, by omega, HA3, hbw.trans (hb1.mono hws), hd2, by omega⟩
          case measure => simp [intOf]; omega
      · have hz2 : (Z != 1) = true := by simpa using hz1
        have HB3 := Lib.hid (HB2.out (by rw [decide_eq_false hz1]; rfl))
        go_wp2_with (go_at_call 40; (with_reducible refine (HC.out _).mono ?_); rintro e w1 ⟨rfl, hb1⟩)
        go_ret
        exact ⟨ret_bool HB3.out, hbw.trans (hb1.mono hws)⟩
    · have HE := Lib.hid (HREST.out (fun j hj => hall.out j (by omega)))
      go_wp2
      go_ret
      exact ⟨ret_bool HE.out, hbw⟩

theorem below_drn {B : Nat} {w w' : World} (h : Below B w w') (n : Nat) : Below B w (w'.drewN n) := h.trans ⟨rfl, rfl, rfl, Nat.le_refl _, fun _ _ => rfl⟩
theorem boxes {w : World} {o1 o2 : Obj} {W : World} (hW : (w.alloc o1).alloc o2 = W) : W.heap[w.heap.size]? = some o1 ∧ W.heap[w.heap.size + 1]? = some o2 ∧ Below w.heap.size w W ∧ W.heap.size = w.heap.size + 2 := by
  subst hW
  have s1 : (w.alloc o1).heap.size = w.heap.size + 1 := by simp
  have e1 := heap_alloc_new w o1
  have e2 := heap_alloc_new (w.alloc o1) o2
  rw [s1] at e2
  rw [← Below.heap_alloc _ o2 _ (by simp)] at e1
  exact ⟨e1, e2, ((Below.refl _ _).alloc (Nat.le_refl _) _).alloc (by simp) _, by simp⟩
theorem bf_ne_len {x y : Bf} (h : ¬ x.is.length = y.is.length) : decide (x = y) = false := decide_eq_false (fun e => h (by rw [e]))
theorem bf_ne_c {x y : Bf} (h : ¬ x.c = y.c) : decide (x = y) = false := decide_eq_false (fun e => h (by rw [e]))
theorem bf_ne_p {x y : Bf} (h : ¬ x.p = y.p) : decide (x = y) = false := decide_eq_false (fun e => h (by rw [e]))
theorem bf_eq {x y : Bf} (h2 : x.c = y.c) (h3 : x.p = y.p) : decide (x = y) = decide (x.is = y.is) := by
  congr 1
  exact propext ⟨fun h => by rw [h], fun h => Bf.ext' h h2 h3⟩

set_option maxHeartbeats 4000000 in
theorem rsam8_any (x y : Bf) (v1 v2 : Value) (w : World) (hA : BfR w v1 x) (hC : BfR w v2 y) (hn : x.is.length ≤ 1000000000) :
    Calls Tryz.prog 42 #[v1, v2] w fun e w' => e = .returned (.bool (decide (x = y))) ∧ Below w.heap.size w w' := by
  obtain ⟨a, len, cap, rfl, hIA⟩ := hA.open
  obtain ⟨a2, len2, cap2, rfl, hIC⟩ := hC.open
  obtain ⟨hlen, hcap, hmax⟩ := hIA.len
  obtain ⟨hlen2, hcap2, hmax2⟩ := hIC.len
  subst hlen hlen2
  unfold maxLen at hmax hmax2
  clear hA hC
  by_cases hl : x.is.length = y.is.length
  rotate_left
  · rw [bf_ne_len hl]
    have hne2 : (((x.is.length : Nat) : Int) != ((y.is.length : Nat) : Int)) = true := by simp; omega
    clear hIA hIC
    obtain ⟨is, c, p⟩ := x
    obtain ⟨js, d, q⟩ := y
    simp only at *
    go_enter Tryz.func42, Tryz.ntmps42
    go_wp2
    go_ret
    exact ⟨rfl, ((Below.refl _ _).alloc (Nat.le_refl _) _).alloc (by simp) _⟩
  by_cases hc : x.c = y.c
  rotate_left
  · rw [bf_ne_c hc]
    have hne2 : (x.c != y.c) = true := by simpa using hc
    clear hIA hIC
    obtain ⟨is, c, p⟩ := x
    obtain ⟨js, d, q⟩ := y
    simp only at *
    have hne3 : (((is.length : Nat) : Int) != ((js.length : Nat) : Int)) = false := by simp; omega
    go_enter Tryz.func42, Tryz.ntmps42
    go_wp2
    go_ret
    exact ⟨rfl, ((Below.refl _ _).alloc (Nat.le_refl _) _).alloc (by simp) _⟩
  by_cases hp : x.p = y.p
  rotate_left
  · rw [bf_ne_p hp]
    have hne2 : (x.p.toList == y.p.toList) = false := by rw [istr_beq]; exact decide_eq_false hp
    clear hIA hIC
    obtain ⟨is, c, p⟩ := x
    obtain ⟨js, d, q⟩ := y
    simp only at *
    subst hc
    have hne3 : (((is.length : Nat) : Int) != ((js.length : Nat) : Int)) = false := by simp; omega
    go_enter Tryz.func42, Tryz.ntmps42
    go_wp2
    go_ret
    exact ⟨rfl, ((Below.refl _ _).alloc (Nat.le_refl _) _).alloc (by simp) _⟩
  rw [bf_eq hc hp]
  obtain ⟨is, c, p⟩ := x
  obtain ⟨js, d, q⟩ := y
  simp only at *
  subst hc hp
  obtain ⟨n, hnn⟩ : ∃ n, is.length = n := ⟨_, rfl⟩
  have HN := Lib.hid (show is.length = n ∧ js.length = n from ⟨hnn, by omega⟩)
  have HA := Lib.hid hIA
  have HC := Lib.hid hIC
  rw [← hl, hnn] at HC hcap2
  rw [hnn] at HA hcap hn
  rw [← hl, hnn]
  obtain ⟨E, hE⟩ : ∃ E : Bool, decide (is = js) = E := ⟨_, rfl⟩
  rw [hE]
  have HP := Lib.hid (show is ≠ js → false = E from fun h => by rw [← hE, decide_eq_false h])
  have HP2 := Lib.hid (show is = js → true = E from fun h => by rw [← hE, decide_eq_true h])
  clear hE hIA hIC hl hnn
  go_enter Tryz.func42, Tryz.ntmps42
  go_wp2
  obtain ⟨W, hW⟩ : ∃ W, (w.alloc (Obj.cells #[.slice a n cap, .int .i64 c, .string p] 33)).alloc (Obj.cells #[.slice a2 n cap2, .int .i64 c, .string p] 33) = W := ⟨_, rfl⟩
  rw [hW]
  obtain ⟨f1, f2, f3, f4⟩ := boxes hW
  clear hW
  go_loopw [5] (fun i wr => ∃ k : Nat, i = .int .i64 k ∧ k ≤ n ∧ Hid (is.take k = js.take k) ∧ Below (w.heap.size + 2) W wr) (fun i _ => n - (intOf i).toNat)
  case atStart => exact ⟨0, rfl, Nat.zero_le _, Lib.hid rfl, Below.refl _ _⟩
  case round =>
    obtain ⟨k, rfl, hk, heq, hbw⟩ := hrel
    obtain ⟨b0, _, _, _⟩ := box_facts ((hbw.block w.heap.size (by omega)).trans f1)
    obtain ⟨d0, _, _, _⟩ := box_facts ((hbw.block (w.heap.size + 1) (by omega)).trans f2)
    have hbf : Below w.heap.size w wr := f3.trans (hbw.mono (by omega))
    by_cases hkl : k < n
    · obtain ⟨b, off, rfl, hb, hx⟩ := HA.out.at (by have := HN.out; omega)
      obtain ⟨x0, x1⟩ := hx k (by have := HN.out; omega)
      obtain ⟨b2, off2, rfl, hb2, hy⟩ := HC.out.at (by have := HN.out; omega)
      obtain ⟨y0, y1⟩ := hy k (by have := HN.out; omega)
      rw [← hbf.cell (p := ⟨b, _, none⟩) hb] at x0 x1
      rw [← hbf.cell (p := ⟨b2, _, none⟩) hb2] at y0 y1
      clear hx hy
      have H1 := Lib.hid (take_succ_ii is k (by have := HN.out; omega))
      have H2 := Lib.hid (take_succ_ii js k (by have := HN.out; omega))
      generalize ii is k = r at x0 x1 H1
      generalize ii js k = s at y0 y1 H2
      have heqn := fun W => eq_ritem r s W
      have hgd := guard_ritem
      have k0 : (0 : Int) ≤ k := by omega
      have k1 : (k : Int) < n := by omega
      by_cases hq : r = s
      · have H3 := Lib.hid (show is.take (k + 1) = js.take (k + 1) by rw [H1.out, H2.out, heq.out, hq])
        rw [decide_eq_true hq] at heqn
        clear hq
        go_wp2
        go_quiet (fail)
        have hb4 := below_drn hbw nq
        go_wp2
        go_roundw
        case rel => exact ⟨k + 1, by go_num, by omega, H3, hb4⟩
        case measure => simp [intOf]; omega
      · have H3 := Lib.hid (show is ≠ js from fun e => by
          have h1 := H1.out; have h2 := H2.out
          rw [e, h2, ← e, heq.out] at h1
          have h3 := List.append_cancel_left h1
          simp at h3
          exact hq h3.symm)
        rw [decide_eq_false hq] at heqn
        clear hq
        go_wp2
        go_quiet (fail)
        have hb4 := below_drn hbf nq
        go_wp2
        go_ret
        exact ⟨ret_bool (HP.out H3.out), hb4⟩
    · have H3 := Lib.hid (show is = js by have h := heq.out; have := HN.out; rwa [List.take_of_length_le (by omega), List.take_of_length_le (by omega)] at h)
      go_wp2
      go_ret
      exact ⟨ret_bool (HP2.out H3.out), hbf⟩

/-- The laws' same: a buffer of the program against one of the document. -/
theorem sam8_any (x y : Bf) (v1 v2 : Value) (w : World) (hA : BfR w v1 x) (hC : BfR w v2 y) (hn : x.is.length ≤ 1000000000) :
    Calls Tryz.prog 12 #[v1, v2] w fun e w' => e = .returned (.bool (decide (x = y))) ∧ Below w.heap.size w w' := by
  obtain ⟨a, len, cap, rfl, hIA⟩ := hA.open
  obtain ⟨a2, len2, cap2, rfl, hIC⟩ := hC.open
  have HG := Lib.hid (fun (W : World) (h : Below w.heap.size w W) => gvn8_any x (.slice a len cap) W (hIA.later h (Nat.le_refl _)) hn)
  have HS := Lib.hid (fun (v : Value) (W : World) (h : ItR W v x.is) (h2 : Below w.heap.size w W) => rsam8_any x y (.agg #[v, .int .i64 x.c, .string x.p]) (.agg #[.slice a2 len2 cap2, .int .i64 y.c, .string y.p]) W ⟨_, rfl, h⟩ ⟨_, rfl, hIC.later h2 (Nat.le_refl _)⟩ hn)
  clear hA hC hIA hIC
  generalize decide (x = y) = E at HS ⊢
  obtain ⟨is, c, p⟩ := x
  obtain ⟨js, d, q⟩ := y
  simp only at *
  go_enter Tryz.func12, Tryz.ntmps12
  go_wp2
  obtain ⟨W, hW⟩ : ∃ W, (w.alloc (Obj.cells #[.slice a len cap, .int .i64 c, .string p] 25)).alloc (Obj.cells #[.slice a2 len2 cap2, .int .i64 d, .string q] 33) = W := ⟨_, rfl⟩
  rw [hW]
  obtain ⟨f1, f2, f3, f4⟩ := boxes hW
  clear hW
  obtain ⟨b0, b1, b2, _⟩ := box_facts f1
  obtain ⟨d0, d1, d2, _⟩ := box_facts f2
  go_region_held3 (fun w' => w'.cell? ⟨w.heap.size, 0, none⟩ = some (.slice a len cap) ∧ w'.cell? ⟨w.heap.size, 1, none⟩ = some (.int .i64 c) ∧ w'.cell? ⟨w.heap.size, 2, none⟩ = some (.string p) ∧ w'.cell? ⟨w.heap.size + 1, 0, none⟩ = some (.slice a2 len2 cap2) ∧ w'.cell? ⟨w.heap.size + 1, 1, none⟩ = some (.int .i64 d) ∧ w'.cell? ⟨w.heap.size + 1, 2, none⟩ = some (.string q) ∧ Below w.heap.size w w' ∧ w.heap.size + 2 ≤ w'.heap.size)
    (first
      | exact ⟨b0, b1, b2, d0, d1, d2, f3.drew, by simp [f4]⟩
      | (go_split_ands
         refine ⟨?_, ?_, ?_, ?_, ?_, ?_, ?_, ?_⟩
         · (rw [hb.cell (by simp; omega)]; assumption)
         · (rw [hb.cell (by simp; omega)]; assumption)
         · (rw [hb.cell (by simp; omega)]; assumption)
         · (rw [hb.cell (by simp; omega)]; assumption)
         · (rw [hb.cell (by simp; omega)]; assumption)
         · (rw [hb.cell (by simp; omega)]; assumption)
         · exact Below.trans (by assumption) (hb.mono (by omega))
         · exact Nat.le_trans (by assumption) hb.size))
    (first
      | (go_at_call 8; go_split_ands; (with_reducible refine (HG.out _ (by assumption)).mono ?_); rintro e w5 ⟨v5, rfl, ho5, hb⟩; have HI5 := Lib.hid (items_of_own ho5).1; obtain ⟨a5, m5, k5, rfl⟩ := slice_of_own ho5)
      | (go_at_call 42; go_split_ands; (with_reducible refine (HS.out _ _ HI5.out (by assumption)).mono ?_); rintro e w6 ⟨rfl, hb⟩))
  all_goals
    rename_i hHeld
    obtain ⟨_, _, _, _, _, _, hB, _⟩ := hHeld
    go_wp2
    go_ret
    exact ⟨rfl, hB⟩

end Go.Proofs.YtamdlbefiggkfaaGreat.Cmp

set_option linter.unusedVariables false
set_option linter.unusedSimpArgs false
set_option maxRecDepth 100000
namespace Go.Proofs.YtamdlbefiggkfaaGreat.Cmp
open Go Go.RowKit Go.Proofs.YtamdlbefiggkfaaGreat.Kit Go.Proofs.YtamdlbefiggkfaaGreat.Utf Go.Proofs.YtamdlbefiggkfaaGreat.Rom Go.Proofs.YtamdlbefiggkfaaGreat.Aut

theorem ba_app (x : By) (s : ByteArray) : ba x ++ s = ba (x ++ bs s) := ba_ext (by simp [ba, bs])
theorem outs_cat (l : List It) : outs l = cat It.o l := rfl
theorem raws_cat (l : List It) : raws l = cat It.r l := rfl
theorem take_drop_succ (is : List It) {k c : Nat} (h : k < is.length) (hc : c ≤ k) : (is.take (k + 1)).drop c = (is.take k).drop c ++ [ii is k] := by
  rw [take_succ_ii is k h, List.drop_append_of_le_length (by rw [List.length_take]; omega)]
theorem take_drop_none (is : List It) {k c : Nat} (hc : k ≤ c) : (is.take k).drop c = [] := List.drop_of_length_le (by rw [List.length_take]; omega)
theorem cat_app (g : It → ByteArray) (a b : List It) : cat g (a ++ b) = cat g a ++ cat g b := by unfold cat; rw [List.flatMap_append]
theorem cat_one (g : It → ByteArray) (i : It) : cat g [i] = bs (g i) := by unfold cat; simp

/-- What Raw has joined when i items are passed. -/
def rawK (b : Bf) (i : Nat) : By := if i ≤ b.c.toNat then cat It.r (b.is.take i) else cat It.r (b.is.take b.c.toNat) ++ bs b.p ++ cat It.r ((b.is.take i).drop b.c.toNat)
theorem rawK_end {b : Bf} (h : b.c ≤ b.is.length) (h0 : 0 ≤ b.c) : rawK b (b.is.length + 1) = raws (b.is.take b.c.toNat) ++ bs b.p ++ raws (b.is.drop b.c.toNat) := by
  unfold rawK
  rw [if_neg (by omega), List.take_of_length_le (l := b.is) (i := b.is.length + 1) (by omega)]
  rfl
/-- Pending keys are joined at the caret. -/
def rawM (b : Bf) (i : Nat) : By := if i = b.c.toNat then rawK b i ++ bs b.p else rawK b i
theorem rawM_step {b : Bf} {i : Nat} (h : i < b.is.length) : rawK b (i + 1) = rawM b i ++ bs (ii b.is i).r := by
  unfold rawM rawK
  by_cases h1 : i < b.c.toNat
  · rw [if_pos (by omega), if_neg (by omega), if_pos (by omega), take_succ_ii _ _ h, cat_app, cat_one]
  · by_cases h2 : i = b.c.toNat
    · rw [if_neg (by omega), if_pos h2, if_pos (by omega), take_drop_succ _ h (by omega), take_drop_none _ (by omega), List.nil_append, cat_one, h2]
    · rw [if_neg (by omega), if_neg h2, if_neg (by omega), take_drop_succ _ h (by omega), cat_app, cat_one]
      simp only [List.append_assoc]
theorem rawM_end {b : Bf} (h : b.c ≤ b.is.length) (h0 : 0 ≤ b.c) : rawK b (b.is.length + 1) = rawM b b.is.length := by
  unfold rawM rawK
  rw [if_neg (by omega), List.take_of_length_le (by omega : b.is.length ≤ b.is.length + 1), List.take_length]
  by_cases h2 : b.is.length = b.c.toNat
  · rw [if_pos h2, if_pos (by omega), ← h2, List.take_length, List.drop_of_length_le (Nat.le_refl _)]
    simp [cat]
  · rw [if_neg h2, if_neg (by omega)]

end Go.Proofs.YtamdlbefiggkfaaGreat.Cmp

set_option linter.unusedVariables false
set_option linter.unusedSimpArgs false
namespace Go.Proofs.YtamdlbefiggkfaaGreat.Cmp
open Go Go.RowKit Go.Proofs.YtamdlbefiggkfaaGreat Go.Proofs.YtamdlbefiggkfaaGreat.Kit Go.Proofs.YtamdlbefiggkfaaGreat.Utf Go.Proofs.YtamdlbefiggkfaaGreat.Rom Go.Proofs.YtamdlbefiggkfaaGreat.Aut

theorem box_lt {w : World} {g : Nat} {o : Obj} (h : w.heap[g]? = some o) : g < w.heap.size := by
  by_cases hg : g < w.heap.size
  · exact hg
  · rw [Array.getElem?_eq_none (by omega)] at h; cases h
theorem box_alloc {w2 W3 : World} {o o1 : Obj} {g : Nat} (h : w2.heap[g]? = some o1) (hW : w2.alloc o = W3) : W3.heap[g]? = some o1 := by
  rw [← hW, heap_alloc_old w2 _ (box_lt h)]; exact h
theorem box_later {w w' : World} {g B : Nat} {o : Obj} (h : w.heap[g]? = some o) (hb : Below B w w') (hg : g < B) : w'.heap[g]? = some o := by
  rw [hb.block _ hg]; exact h
theorem box_new {w2 W3 : World} {o : Obj} (hW : w2.alloc o = W3) : W3.heap[w2.heap.size]? = some o ∧ W3.heap.size = w2.heap.size + 1 ∧ ∀ B, B ≤ w2.heap.size → Below B w2 W3 := by
  subst hW
  exact ⟨heap_alloc_new w2 _, by simp, fun B hB => (Below.refl B w2).alloc hB _⟩

end Go.Proofs.YtamdlbefiggkfaaGreat.Cmp
