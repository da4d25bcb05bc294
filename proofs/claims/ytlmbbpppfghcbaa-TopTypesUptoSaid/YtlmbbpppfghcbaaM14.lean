/-
  Joined texts: CmpY, CmpU, CmpV, CmpW, CmpL.
-/
import Derived.Test.YtlmbbpppfghcbaaM10
import Derived.Test.YtlmbbpppfghcbaaM11
import Derived.Test.YtlmbbpppfghcbaaM13
import Derived.Test.YtlmbbpppfghcbaaM8
import Derived.Deep.RegionLaw
import Derived.Deep.DeepCutAuto
set_option linter.unusedVariables false
set_option linter.unusedSimpArgs false
set_option maxRecDepth 100000
namespace Go.Proofs.Ytlmbbpppfghcbaa.Cmp
open Go Go.RowKit Go.Proofs.Ytlmbbpppfghcbaa.Kit Go.Proofs.Ytlmbbpppfghcbaa.Utf Go.Proofs.Ytlmbbpppfghcbaa.Rom Go.Proofs.Ytlmbbpppfghcbaa.Aut

theorem def_okL : okL defL = true := (ok_of_check def_check).2
theorem def_shortL : ∀ r ∈ defL, Short r := by
  intro r hr
  have h := ok_of def_okL hr
  have h1 := okR_next h
  have h2 := okR_out h
  exact ⟨by omega, by omega, by omega⟩

/-! ### typing, as a program -/
def keyO (rs : List Rule) (b : Bf) (k : UInt8) : Option Bf :=
  if val b && isKb k then
    match feedO rs 1000 (bs b.p) [k] with
    | some (o, q) => match chars o with
      | some cs => if b.is.length + cs.length > 64 then none else some (insB { b with p := ba q } (itemsL (ba (endsL (bs b.p ++ [k]) q)) cs))
      | none => none
    | none => none
  else none
theorem keyO_sound {rs : List Rule} {b b' : Bf} {k : UInt8} (h : keyO rs b k = some b') : keyB rs b k = (b', 0) := by
  unfold keyO at h
  unfold keyB
  split at h
  · rename_i hv
    rw [if_pos hv]
    split at h
    · rename_i o q hf
      rw [(feedO_sound hf).fd]
      split at h
      · rename_i cs hc
        rw [chs_some hc]
        split at h
        · cases h
        · rename_i hl
          rw [if_neg hl]
          cases h; rfl
      · cases h
    · cases h
  · cases h
def typO (rs : List Rule) : Bf → By → Option Bf
  | b, [] => some b
  | b, k :: ks => match keyO rs b k with
    | some b' => typO rs b' ks
    | none => none
theorem typO_sound {rs : List Rule} : ∀ {ks : By} {b b' : Bf}, typO rs b ks = some b' → typL rs b ks = (b', true)
  | [], b, b', h => by cases h; rfl
  | k :: ks, b, b', h => by
    unfold typO at h
    split at h
    · rename_i c hc
      unfold typL
      rw [keyO_sound hc, if_pos rfl]
      exact typO_sound h
    · cases h

/-! ### k, y, o, u, n -/
def b5 : Bf := ⟨[⟨ba [107, 121, 111], ba [227, 129, 141]⟩, ⟨ba [], ba [227, 130, 135]⟩, ⟨ba [117], ba [227, 129, 134]⟩], 3, ba [110]⟩
def b6 : Bf := ⟨[⟨ba [107, 121, 111], ba [227, 129, 141]⟩, ⟨ba [], ba [227, 130, 135]⟩, ⟨ba [117], ba [227, 129, 134]⟩, ⟨ba [110], ba [227, 130, 147]⟩], 4, ba []⟩
theorem typ5 : typO defL noB [107, 121, 111, 117, 110] = some b5 := by decide +kernel
theorem flu5 : flushO defL 10 [110] = some [227, 130, 147] := by decide +kernel
theorem val5 : val b5 = true := by decide +kernel
theorem flub5 : fluB b5 [227, 130, 147] = b6 := by decide +kernel
theorem tex5 : texB b5 = (ba [227, 129, 141, 227, 130, 135, 227, 129, 134], ba [110], ba []) := by decide +kernel
theorem tex6 : texB b6 = (ba [227, 129, 141, 227, 130, 135, 227, 129, 134, 227, 130, 147], ba [], ba []) := by decide +kernel
theorem raw6 : rawB b6 = ba [107, 121, 111, 117, 110] := by decide +kernel

theorem new_def (v : Value) (w : World) (hR : RowR w v defL) : Calls Try.prog 18 #[v] w fun e w' => ∃ a, e = .returned (.tuple #[.pointer (some ⟨a, 0, none⟩), .int .i64 0]) ∧ AutoAt w'.heap.size w' a defL ∧ Below w.heap.size w w' := by
  refine (new_any v defL w hR def_shortL).mono ?_
  rintro e w' ⟨hb, ⟨h, _⟩ | ⟨_, a, rfl, hA, _⟩⟩
  · exact absurd def_check h
  · exact ⟨a, rfl, hA, hb⟩
theorem def_any (w : World) : Calls Try.prog 27 #[] w fun e w' => ∃ v, e = .returned v ∧ RowR w' v defL ∧ Below w.heap.size w w' := by
  refine (default_any w).mono ?_
  rintro e w' ⟨v, rfl, ho, hb⟩
  exact ⟨v, rfl, (row_of_own ho).1, hb⟩
/-- Keys that are typed with the rules of the document. -/
theorem typed_def {ks : By} {b : Bf} (h : typO defL noB ks = some b) (hl : ks.length ≤ 1000) (Q q0 : Nat) (w : World) (hA : AutoAt Q w q0 defL) (hQ : Q ≤ w.heap.size) :
    Calls Try.prog 19 #[.pointer (some ⟨q0, 0, none⟩), .string (ba ks)] w fun e w' => ∃ a m k, e = .returned (.tuple #[.agg #[.slice a m k, .int .i64 b.c, .string b.p], .bool true]) ∧ ItR w' (.slice a m k) b.is ∧ Below w.heap.size w w' ∧ Sh b := by
  have h1 := typed_any def_okL Q q0 (ba ks) w hA hQ (by rw [ba_size]; omega)
  rw [bs_ba, typO_sound h] at h1
  exact h1
theorem sh5 : Sh b5 := by
  refine ⟨?_, by decide, by decide⟩
  intro i hi
  simp only [b5, List.mem_cons, List.not_mem_nil, or_false] at hi
  rcases hi with rfl | rfl | rfl <;> exact ⟨by decide, by decide⟩
theorem sh6 : Sh b6 := by
  refine ⟨?_, by decide, by decide⟩
  intro i hi
  simp only [b6, List.mem_cons, List.not_mem_nil, or_false] at hi
  rcases hi with rfl | rfl | rfl | rfl <;> exact ⟨by decide, by decide⟩

set_option maxHeartbeats 4000000 in
theorem works_any (w : World) : Calls Try.prog 17 #[] w fun e w' => e = .returned (.bool true) ∧ Below w.heap.size w w' := by
  have HDF := Lib.hid def_any
  have HNW := Lib.hid new_def
  have HTY : Hid (∀ (Q q0 : Nat) (W : World), AutoAt Q W q0 defL → Q ≤ W.heap.size → Calls Try.prog 19 #[.pointer (some ⟨q0, 0, none⟩), .string { data := #[107, 121, 111, 117, 110] }] W fun e w' => ∃ a m k, e = .returned (.tuple #[.agg #[.slice a m k, .int .i64 3, .string { data := #[110] }], .bool true]) ∧ ItR w' (.slice a m k) b5.is ∧ Below W.heap.size W w' ∧ Sh b5) := Lib.hid fun Q q0 W h1 h2 => typed_def typ5 (by decide) Q q0 W h1 h2
  have HTX : Hid (∀ (a : Option Addr) (m k : Nat) (W : World), ItR W (.slice a m k) b5.is → Calls Try.prog 11 #[.agg #[.slice a m k, .int .i64 3, .string { data := #[110] }]] W fun e w' => e = .returned (.tuple #[.string { data := #[227, 129, 141, 227, 130, 135, 227, 129, 134] }, .string { data := #[110] }, .string { data := #[] }]) ∧ Below W.heap.size W w') := Lib.hid fun a m k W h => by
    have h1 := text_buf b5 (.agg #[.slice a m k, .int .i64 3, .string { data := #[110] }]) W ⟨_, rfl, h⟩ sh5
    rw [tex5] at h1
    exact h1
  have HFL : Hid (∀ (Q q0 : Nat) (a : Option Addr) (m k : Nat) (W : World), AutoAt Q W q0 defL → Q ≤ W.heap.size → ItR W (.slice a m k) b5.is → Calls Try.prog 28 #[.pointer (some ⟨q0, 0, none⟩), .agg #[.slice a m k, .int .i64 3, .string { data := #[110] }]] W fun e w' => ∃ a' m' k', e = .returned (.agg #[.slice a' m' k', .int .i64 4, .string { data := #[] }]) ∧ w'.ownsRow W.heap.size 65 2 (.slice a' m' k') 4 (ic b6.is) ∧ Below W.heap.size W w') := Lib.hid fun Q q0 a m k W h1 h2 h3 => by
    have h4 := flushbuf_any def_okL Q q0 b5 [227, 130, 147] (.agg #[.slice a m k, .int .i64 3, .string { data := #[110] }]) W h1 h2 ⟨_, rfl, h3⟩ sh5 (fun _ => flushO_sound flu5)
    rw [flub5] at h4
    exact h4
  have HTX6 : Hid (∀ (a : Option Addr) (m k : Nat) (W : World), ItR W (.slice a m k) b6.is → Calls Try.prog 11 #[.agg #[.slice a m k, .int .i64 4, .string { data := #[] }]] W fun e w' => e = .returned (.tuple #[.string { data := #[227, 129, 141, 227, 130, 135, 227, 129, 134, 227, 130, 147] }, .string { data := #[] }, .string { data := #[] }]) ∧ Below W.heap.size W w') := Lib.hid fun a m k W h => by
    have h1 := text_buf b6 (.agg #[.slice a m k, .int .i64 4, .string { data := #[] }]) W ⟨_, rfl, h⟩ sh6
    rw [tex6] at h1
    exact h1
  have HRW : Hid (∀ (a : Option Addr) (m k : Nat) (W : World), ItR W (.slice a m k) b6.is → Calls Try.prog 14 #[.agg #[.slice a m k, .int .i64 4, .string { data := #[] }]] W fun e w' => e = .returned (.string { data := #[107, 121, 111, 117, 110] }) ∧ Below W.heap.size W w') := Lib.hid fun a m k W h => by
    have h1 := raw_buf b6 (.agg #[.slice a m k, .int .i64 4, .string { data := #[] }]) W ⟨_, rfl, h⟩ sh6
    rw [raw6] at h1
    exact h1
  generalize b5.is = I5 at *
  generalize b6.is = I6 at *
  go_enter Try.func17, Try.ntmps17
  go_wp2_with (first
    | (go_at_call 27; (with_reducible refine (HDF.out _).mono ?_); rintro e w1 ⟨v, rfl, hR1, hb1⟩; have HR1 := Lib.hid hR1; clear hR1)
    | (go_at_call 18; (with_reducible refine (HNW.out _ _ HR1.out).mono ?_); rintro e w2 ⟨q0, rfl, hA2, hb2⟩; have HA2 := Lib.hid hA2; have hbw2 := hb1.trans (hb2.mono hb1.size); clear hA2 HR1)
    | (go_at_call 19; (with_reducible refine (HTY.out _ _ _ HA2.out (Nat.le_refl _)).mono ?_); rintro e w3 ⟨a3, m3, k3, rfl, hI3, hb3, _⟩; have HI3 := Lib.hid (fun o => hI3.later ((Below.refl w3.heap.size w3).alloc (Nat.le_refl _) o) (Nat.le_refl _)); have HA3 := Lib.hid (fun o => HA2.out.later (hb3.alloc hb3.size o) (Nat.le_refl _)); have hbw3 := hbw2.trans (hb3.mono hbw2.size); have hbq := hb3.size; clear hI3 HTY)
    | (go_at_call 11; (with_reducible refine (HTX.out _ _ _ _ (HI3.out _)).mono ?_); rintro e w4 ⟨rfl, hb4⟩; have hbx4 := (hb4.block w3.heap.size (by simp)).trans (heap_alloc_new w3 _); obtain ⟨c0, c1, c2, cf⟩ := box_facts hbx4; have HI4 := Lib.hid ((HI3.out _).later hb4 (Nat.le_refl _)); have hs4 := hb4.size; simp at hs4; have HA4 := Lib.hid ((HA3.out _).later hb4 (by simp; omega)); have hbw4 := (hbw3.alloc hbw3.size (Obj.cells #[.slice a3 m3 k3, .int .i64 3, .string { data := #[110] }] 24)).trans (hb4.mono (by have := hbw3.size; simp; omega)); clear HTX)
    | (go_at_call 28; (with_reducible refine (HFL.out _ _ _ _ _ _ HA4.out (by omega) HI4.out).mono ?_); rintro e w5 ⟨a6, m6, k6, rfl, ho6, hb6⟩; have hbx5 := (hb6.block w3.heap.size (by omega)).trans hbx4; clear c0 c1 c2 cf; obtain ⟨c0, c1, c2, cf⟩ := box_facts hbx5; have hbw5 := hbw4.trans (hb6.mono hbw4.size); have HO6 := Lib.hid ho6; have hs6 := hb6.size; clear HFL ho6)
    | (go_at_call 11; obtain ⟨W7, hW7⟩ : ∃ W7, (((w5.setCell ⟨w3.heap.size, 0, none⟩ (.slice a6 m6 k6)).setCell ⟨w3.heap.size, 1, none⟩ (.int .i64 4)).setCell ⟨w3.heap.size, 2, none⟩ (.string { data := #[] })) = W7 := ⟨_, rfl⟩; rw [hW7]; have hbx7 := box_set3 (y0 := .slice a6 m6 k6) (y1 := .int .i64 4) (y2 := .string { data := #[] }) hbx5; have hI7 := (items_of_own (ownsRow_setCell_below (ownsRow_setCell_below (ownsRow_setCell_below HO6.out (a := ⟨w3.heap.size, 0, none⟩) (by show w3.heap.size < _; omega) (.slice a6 m6 k6)) (a := ⟨w3.heap.size, 1, none⟩) (by show w3.heap.size < _; omega) (.int .i64 4)) (a := ⟨w3.heap.size, 2, none⟩) (by show w3.heap.size < _; omega) (.string { data := #[] }))).1; have hbw7 := Below.setCell (Below.setCell (Below.setCell hbw5 (p := ⟨w3.heap.size, 0, none⟩) hbw3.size (.slice a6 m6 k6)) (p := ⟨w3.heap.size, 1, none⟩) hbw3.size (.int .i64 4)) (p := ⟨w3.heap.size, 2, none⟩) hbw3.size (.string { data := #[] }); have hs7 : W7.heap.size = w5.heap.size := (by rw [← hW7]; simp); rw [hW7] at hbx7 hI7 hbw7; clear hW7; (with_reducible refine (HTX6.out _ _ _ _ hI7).mono ?_); rintro e w8 ⟨rfl, hb8⟩; clear c0 c1 c2 cf; obtain ⟨c0, c1, c2, cf⟩ := box_facts ((hb8.block w3.heap.size (by omega)).trans hbx7); have HI8 := Lib.hid (hI7.later hb8 (Nat.le_refl _)); have hbw8 := hbw7.trans (hb8.mono hbw7.size); clear hI7)
    | (go_at_call 14; (with_reducible refine (HRW.out _ _ _ _ HI8.out).mono ?_); rintro e w9 ⟨rfl, hb9⟩))
  go_ret
  exact ⟨rfl, hbw8.trans (hb9.mono hbw8.size)⟩

end Go.Proofs.Ytlmbbpppfghcbaa.Cmp

set_option linter.unusedVariables false
set_option linter.unusedSimpArgs false
set_option maxRecDepth 100000
namespace Go.Proofs.Ytlmbbpppfghcbaa.Cmp
open Go Go.RowKit Go.Proofs.Ytlmbbpppfghcbaa.Kit Go.Proofs.Ytlmbbpppfghcbaa.Utf Go.Proofs.Ytlmbbpppfghcbaa.Rom Go.Proofs.Ytlmbbpppfghcbaa.Aut

theorem load_rbuf {w : World} {g o : Nat} {a : Option Addr} {n k : Nat} {c : Int} {p : ByteArray} (h0 : w.cell? ⟨g, o, none⟩ = some (.slice a n k)) (h1 : w.cell? ⟨g, o + 1, none⟩ = some (.int .i64 c)) (h2 : w.cell? ⟨g, o + 2, none⟩ = some (.string p)) :
    (loadVar 27 ⟨g, o, none⟩).run Try.prog w = .ok (.agg #[.slice a n k, .int .i64 c, .string p]) w := by
  go_simp

set_option maxHeartbeats 8000000 in
theorem gvn8_any (b : Bf) (s : Value) (w : World) (hR : ItR w s b.is) (hn : b.is.length ≤ 1000000000) :
    Calls Try.prog 9 #[.agg #[s, .int .i64 b.c, .string b.p]] w fun e w' => ∃ v, e = .returned (.agg #[v, .int .i64 b.c, .string b.p]) ∧ w'.ownsRow w.heap.size 66 2 v b.is.length (ic b.is) ∧ Below w.heap.size w w' := by
  obtain ⟨i0, hi0, hz0, hz1, hz2⟩ := info_parts info_ritem
  obtain ⟨a, len, cap, rfl, hlen, hcap, hmax, _⟩ := id hR
  subst hlen
  have HR := Lib.hid hR
  obtain ⟨is, c, p⟩ := b
  simp only at *
  clear hR
  have fact : ∀ o1 o2 o3 W, o1 = Obj.cells #[.slice a is.length cap, .int .i64 c, .string p] 24 → o2 = Obj.cells #[.slice none 0 0, .int .i64 0, .string { data := #[] }] 27 → o3 = Obj.cells #[.slice none 0 0, .int .i64 c, .string p] 27 → ((w.alloc o1).alloc o2).alloc o3 = W →
      W.heap[w.heap.size]? = some o1 ∧ W.heap[w.heap.size + 1]? = some o2 ∧ W.heap[w.heap.size + 2]? = some o3 ∧ Below w.heap.size w W ∧ W.heap.size = w.heap.size + 3 := by
    rintro o1 o2 o3 W h1 h2 h3 rfl
    have s1 : (w.alloc o1).heap.size = w.heap.size + 1 := by simp
    have s2 : ((w.alloc o1).alloc o2).heap.size = w.heap.size + 2 := by simp
    have e1 := heap_alloc_new w o1
    have e2 := heap_alloc_new (w.alloc o1) o2
    have e3 := heap_alloc_new ((w.alloc o1).alloc o2) o3
    rw [s1] at e2
    rw [s2] at e3
    rw [← Below.heap_alloc _ o2 _ (by simp), ← Below.heap_alloc _ o3 _ (by simp; omega)] at e1
    rw [← Below.heap_alloc _ o3 _ (by simp)] at e2
    exact ⟨e1, e2, e3, (((Below.refl _ _).alloc (Nat.le_refl _) _).alloc (by simp) _).alloc (by simp; omega) _, by simp⟩
  have FACT := Lib.hid fact
  clear fact
  go_enter Try.func9, Try.ntmps9
  go_wp2
  obtain ⟨W, hW⟩ : ∃ W, ((w.alloc (Obj.cells #[.slice a is.length cap, .int .i64 c, .string p] 24)).alloc (Obj.cells #[.slice none 0 0, .int .i64 0, .string { data := #[] }] 27)).alloc (Obj.cells #[.slice none 0 0, .int .i64 c, .string p] 27) = W := ⟨_, rfl⟩
  rw [hW]
  obtain ⟨f1, f2, f3, f4, f5⟩ := FACT.out _ _ _ W rfl rfl rfl hW
  clear hW FACT
  go_loopw [4] (fun i wr => ∃ k : Nat, i = .int .i64 k ∧ k ≤ is.length ∧ ∃ a2 m2 c2, wr.heap[w.heap.size + 2]? = some (Obj.cells #[.slice a2 m2 c2, .int .i64 c, .string p] 27) ∧ wr.ownsRow (w.heap.size + 3) 66 2 (.slice a2 m2 c2) k (ic (is.take k)) ∧ Below (w.heap.size + 2) W wr ∧ w.heap.size + 3 ≤ wr.heap.size) (fun i _ => is.length - (intOf i).toNat)
  case atStart => exact ⟨0, rfl, Nat.zero_le _, none, 0, 0, f3, World.ownsRow_nil _ _ _ _, Below.refl _ _, by omega⟩
  case round =>
    obtain ⟨k, rfl, hk, a2, m2, c2, hbox, hown, hbw, hws⟩ := hrel
    obtain ⟨b0, b1, b2, bf⟩ := box_facts ((hbw.block w.heap.size (by omega)).trans f1)
    obtain ⟨d0, d1, d2, df⟩ := box_facts hbox
    by_cases hkl : k < is.length
    · obtain ⟨g, off, rfl, hb, hx⟩ := HR.out.at (by omega)
      obtain ⟨x0, x1⟩ := hx k hkl
      have hgw : g < w.heap.size := hb
      rw [← f4.cell (p := ⟨g, _, none⟩) hb, ← hbw.cell (p := ⟨g, _, none⟩) (by show g < _; omega)] at x0 x1
      have hsn := Lib.hid (ic_snoc (is.take k) (ii is k))
      have hts := Lib.hid (take_succ_ii is k hkl)
      have hxl : (ic (is.take k)).length = k * 2 := by rw [ic_len, len_take_i hk]
      clear hx
      generalize ii is k = r at x0 x1 hsn hts
      obtain ⟨rr, ro⟩ := r
      simp only at x0 x1
      have k0 : (0 : Int) ≤ k := by omega
      have k1 : (k : Int) < is.length := by omega
      generalize ic (is.take k) = xs at hown hsn hxl
      have hlt := hown.lt
      have HBX := Lib.hid (show ∀ w5, ((wr.alloc (Obj.cells #[.string rr, .string ro] 66)).drew).grownBy w5 (Value.slice a2 m2 c2).ownBlock → w5.heap[w.heap.size + 1 + 1]? = some (Obj.cells #[.slice a2 m2 c2, .int .i64 c, .string p] 27) ∧ Below (w.heap.size + 2) W w5 ∧ w.heap.size + 3 ≤ w5.heap.size from fun w5 hg => by
        have hs5 := hg.size
        have hs6 : (wr.alloc (Obj.cells #[.string rr, .string ro] 66)).drew.heap.size = wr.heap.size + 1 := by simp
        refine ⟨?_, ((hbw.alloc (by omega) _).drew).grown hg (by rw [hs6]; omega) (fun j hj => by have := hlt j hj; omega), by omega⟩
        rw [hg.block (w.heap.size + 1 + 1) (by rw [hs6]; omega) (fun e => by have := hlt _ e.symm; omega)]
        show (wr.alloc (Obj.cells #[.string rr, .string ro] 66)).heap[w.heap.size + 1 + 1]? = _
        rw [Below.heap_alloc _ _ _ (by omega)]
        exact hbox)
      have d0' : (wr.alloc (Obj.cells #[.string rr, .string ro] 66)).cell? ⟨w.heap.size + 1 + 1, 0, none⟩ = some (.slice a2 m2 c2) := by rw [World.cell?_alloc_past _ _ _ (by omega)]; exact d0
      have d1' : (wr.alloc (Obj.cells #[.string rr, .string ro] 66)).drew.cell? ⟨w.heap.size + 1 + 1, 0, none⟩ = some (.slice a2 m2 c2) := d0'
      go_wp2
      go_region_law (refine step_append_lies _ (by rfl) _ _ _ (by rfl) (w.heap.size + 3) 66 i0 _ 2 32 Try.underlying25 hi0 hz0 hz1 hz2 rfl (by omega) _ k xs (by rfl) ((hown.alloc _).drew) ⟨wr.heap.size, 0, none⟩ 1 1 [.string rr, .string ro] (by rfl) (by rfl) (World.news_of_block (cs := #[.string rr, .string ro]) (t := 66) (fr := (0, 0)) (heap_alloc_new wr _)) (by simp [Value.oneCell']) (by omega) (by unfold maxLen; omega) (by omega) (by simp; omega) (wr.heap.size + 1) (by simp) ?_; intro gg cap1 w5 hown5 hgrow hat hlt5; obtain ⟨y1, y2, y3⟩ := HBX.out w5 hgrow; obtain ⟨q0, q1, q2, qf⟩ := box_facts y1)
      all_goals
        have hz := (box_set (y0 := .slice (some ⟨gg, 0, none⟩) (k + 1) cap1) (y1 := .int .i64 0) (y2 := .int .i64 0) y1).1
        have ho := ownsRow_setCell_below hown5 (a := ⟨w.heap.size + 1 + 1, 0, none⟩) (by show w.heap.size + 1 + 1 < _; omega) (.slice (some ⟨gg, 0, none⟩) (k + 1) cap1)
        have hB := Below.setCell y2 (p := ⟨w.heap.size + 1 + 1, 0, none⟩) (by show _ ≤ w.heap.size + 1 + 1; omega) (.slice (some ⟨gg, 0, none⟩) (k + 1) cap1)
        go_wp2
        exact ⟨⟨k + 1, by go_num, by omega, some ⟨gg, 0, none⟩, k + 1, cap1, hz, by rw [hts.out, hsn.out]; exact ho, hB, by simp; omega⟩, by simp [intOf]; omega⟩
    · have e1 : k = is.length := by omega
      subst e1
      rw [List.take_length] at hown
      obtain ⟨r0, r1, r2, rf⟩ := box_facts ((hbw.block (w.heap.size + 1) (by omega)).trans f2)
      have HOW := Lib.hid hown
      have hbw2 : Below w.heap.size w wr := f4.trans (hbw.mono (by omega))
      clear hown hbox f1 f2 f3
      go_wp2
      obtain ⟨q0, q1, q2⟩ := three_set (w := wr) (g := w.heap.size + 1) (x := .slice a2 m2 c2) (y := .int .i64 c) (z := .string p) (by rw [r0]; rfl) (by rw [r1]; rfl) (by rw [r2]; rfl)
      refine bodyPost_ret (v := .agg #[.slice a2 m2 c2, .int .i64 c, .string p]) ?_ rfl ⟨_, rfl, own_base (ownsRow_setCell_below (ownsRow_setCell_below (ownsRow_setCell_below HOW.out (by show w.heap.size + 1 < _; omega) _) (by show w.heap.size + 1 < _; omega) _) (by show w.heap.size + 1 < _; omega) _) (by omega), Below.setCell (Below.setCell (Below.setCell hbw2 (by show _ ≤ w.heap.size + 1; omega) _) (by show _ ≤ w.heap.size + 1; omega) _) (by show _ ≤ w.heap.size + 1; omega) _⟩
      rw [results_cell1 rfl]
      show ((loadVar 27 ⟨w.heap.size + 1, 0, none⟩).run Try.prog _) = _
      exact load_rbuf q0 q1 q2

end Go.Proofs.Ytlmbbpppfghcbaa.Cmp

set_option linter.unusedVariables false
set_option linter.unusedSimpArgs false
set_option maxRecDepth 100000
namespace Go.Proofs.Ytlmbbpppfghcbaa.Cmp
open Go Go.RowKit Go.Proofs.Ytlmbbpppfghcbaa.Kit Go.Proofs.Ytlmbbpppfghcbaa.Utf Go.Proofs.Ytlmbbpppfghcbaa.Rom Go.Proofs.Ytlmbbpppfghcbaa.Aut

theorem val_long {b : Bf} (h : ¬ b.p.size ≤ 8) : val b = false := by
  cases e : val b
  · rfl
  · exact absurd (val_parts e).2.2.2.2.1 h
theorem val_nokey {b : Bf} (h : fromB 33 (bs b.p) = false) : val b = false := by
  cases e : val b
  · rfl
  · have := (val_parts e).2.2.2.2.2
    rw [h] at this; cases this

set_option maxHeartbeats 4000000 in
theorem rvalid_any (b : Bf) (s : Value) (w : World) (hR : ItR w s b.is) (hsh : Sh b) :
    Calls Try.prog 10 #[.agg #[s, .int .i64 b.c, .string b.p]] w fun e w' => e = .returned (.bool (val b)) ∧ Below w.heap.size w w' := by
  obtain ⟨a, len, cap, rfl, hlen, hcap, hmax, _⟩ := id hR
  obtain ⟨sh1, sh2, sh3⟩ := hsh
  subst hlen
  unfold maxLen at hmax
  by_cases h1 : b.is.length ≤ 64
  rotate_left
  · rw [val_len h1]
    clear hR sh1
    obtain ⟨is, c, p⟩ := b
    simp only at *
    go_enter Try.func10, Try.ntmps10
    go_wp2
    go_ret
    exact ⟨rfl, (Below.refl _ _).alloc (Nat.le_refl _) _⟩
  by_cases h2 : 0 ≤ b.c
  rotate_left
  · rw [val_neg h2]
    clear hR sh1
    obtain ⟨is, c, p⟩ := b
    simp only at *
    go_enter Try.func10, Try.ntmps10
    go_wp2
    go_ret
    exact ⟨rfl, (Below.refl _ _).alloc (Nat.le_refl _) _⟩
  by_cases h3 : b.c ≤ b.is.length
  rotate_left
  · rw [val_gt h3]
    clear hR sh1
    obtain ⟨is, c, p⟩ := b
    simp only at *
    go_enter Try.func10, Try.ntmps10
    go_wp2
    go_ret
    exact ⟨rfl, (Below.refl _ _).alloc (Nat.le_refl _) _⟩
  by_cases h8 : b.p.size ≤ 8
  rotate_left
  · rw [val_long h8]
    clear hR sh1
    obtain ⟨is, c, p⟩ := b
    simp only at *
    go_enter Try.func10, Try.ntmps10
    go_wp2
    go_ret
    exact ⟨rfl, (Below.refl _ _).alloc (Nat.le_refl _) _⟩
  have HP := fun W => rbytes_any 33 b.p W (by omega) (by omega) (by omega)
  cases hFP : fromB 33 (bs b.p)
  · rw [val_nokey hFP]
    rw [hFP] at HP
    have HP := Lib.hid HP
    clear hR sh1 hFP
    obtain ⟨is, c, p⟩ := b
    simp only at *
    go_enter Try.func10, Try.ntmps10
    go_wp2_with (go_at_call 31; (with_reducible refine (HP.out _).mono ?_); rintro e w2 ⟨rfl, hw2⟩; obtain rfl := hw2.symm)
    go_ret
    exact ⟨rfl, (Below.refl _ _).alloc (Nat.le_refl _) _⟩
  rw [hFP] at HP
  obtain ⟨E, hE⟩ : ∃ E, val b = E := ⟨_, rfl⟩
  rw [hE]
  have HBAD := Lib.hid (fun (k : Nat) (hk : k < b.is.length) (h : okI (ii b.is k) = false) => (val_bad hk h).symm.trans hE)
  have HREST := Lib.hid (show (∀ j, j < b.is.length → okI (ii b.is j) = true) → true = E from fun h4 => by
    have h := (val_rest h1 h2 h3 h4).symm.trans hE
    rw [decide_eq_true h8, hFP] at h
    exact h)
  clear hE
  have HS := Lib.hid sh1
  have HR := Lib.hid hR
  obtain ⟨is, c, p⟩ := b
  simp only at *
  have HP := Lib.hid HP
  clear sh1 hR hFP
  go_enter Try.func10, Try.ntmps10
  go_wp2_with (go_at_call 31; (with_reducible refine (HP.out _).mono ?_); rintro e w2 ⟨rfl, hw2⟩; obtain rfl := hw2.symm)
  go_loopw [3] (fun i wr => ∃ k : Nat, i = .int .i64 k ∧ k ≤ is.length ∧ Hid (∀ j, j < k → okI (ii is j) = true) ∧ Below w.heap.size w wr ∧ wr.cell? ⟨w.heap.size, 0, none⟩ = some (.slice a is.length cap) ∧ w.heap.size + 1 ≤ wr.heap.size) (fun i _ => is.length - (intOf i).toNat)
  case atStart => exact ⟨0, rfl, Nat.zero_le _, Lib.hid (fun j hj => by omega), (Below.refl _ _).alloc (Nat.le_refl _) _, by simp, by simp⟩
  case round =>
    obtain ⟨k, rfl, hk, hall, hbw, hc2, hz⟩ := hrel
    by_cases hkl : k < is.length
    · obtain ⟨g, off, rfl, hb, hx⟩ := HR.out.at (by omega)
      obtain ⟨x0, x1⟩ := hx k hkl
      rw [← hbw.cell (p := ⟨g, _, none⟩) hb] at x0 x1
      obtain ⟨z1, z2⟩ := HS.out _ (ii_mem hkl)
      have HB2 := Lib.hid (HBAD.out k hkl)
      have HA2 := Lib.hid (show okI (ii is k) = true → ∀ j, j < k + 1 → okI (ii is j) = true from fun h j hj => by
        rcases Nat.lt_or_ge j k with h' | h'
        · exact hall.out j h'
        · rw [show j = k by omega]; exact h)
      clear hx
      generalize ii is k = r at x0 x1 z1 z2 HB2 HA2
      obtain ⟨rr, ro⟩ := r
      simp only at x0 x1 z1 z2
      unfold okI at HB2 HA2
      simp only at HB2 HA2
      have HC := fun W => rcount_any ro W (by omega)
      have HF := fun W => rbytes_any 32 rr W (by omega) (by omega) (by omega)
      obtain ⟨Z, hZ⟩ : ∃ Z, count (bs ro) = Z := ⟨_, rfl⟩
      obtain ⟨F, hF⟩ : ∃ F, fromB 32 (bs rr) = F := ⟨_, rfl⟩
      rw [hZ] at HC HB2 HA2
      rw [hF] at HF HB2 HA2
      have HC := Lib.hid HC
      have HF := Lib.hid HF
      have k0 : (0 : Int) ≤ k := by omega
      have k1 : (k : Int) < is.length := by omega
      clear hZ hF
      have hws := hbw.size
      have hgs : g < wr.heap.size := by omega
      by_cases hz1 : Z = 1
      · subst hz1
        cases F
        · have HB3 := Lib.hid (HB2.out rfl)
          go_wp2_with (first
            | (go_at_call 29; (with_reducible refine (HC.out _).mono ?_); rintro e w1 ⟨rfl, hb1⟩; have hd2 := (hb1.cell (p := ⟨w.heap.size, 0, none⟩) (by simp; omega)).trans hc2; have hx0 := (hb1.cell (p := ⟨g, _, none⟩) hgs).trans x0)
            | (go_at_call 31; (with_reducible refine (HF.out _).mono ?_); rintro e w2 ⟨rfl, hw2⟩; obtain rfl := hw2.symm))
          go_ret
          exact ⟨ret_bool HB3.out, hbw.trans (hb1.mono hws)⟩
        · have HA3 := Lib.hid (HA2.out rfl)
          go_wp2_with (first
            | (go_at_call 29; (with_reducible refine (HC.out _).mono ?_); rintro e w1 ⟨rfl, hb1⟩; have hd2 := (hb1.cell (p := ⟨w.heap.size, 0, none⟩) (by simp; omega)).trans hc2; have hx0 := (hb1.cell (p := ⟨g, _, none⟩) hgs).trans x0; have hs1 := hb1.size)
            | (go_at_call 31; (with_reducible refine (HF.out _).mono ?_); rintro e w2 ⟨rfl, hw2⟩; obtain rfl := hw2.symm))
          go_roundw
          case rel => exact ⟨k + 1, by go_num, by omega, HA3, hbw.trans (hb1.mono hws), hd2, by omega⟩
          case measure => simp [intOf]; omega
      · have hz2 : (Z != 1) = true := by simpa using hz1
        have HB3 := Lib.hid (HB2.out (by rw [decide_eq_false hz1]; rfl))
        go_wp2_with (go_at_call 29; (with_reducible refine (HC.out _).mono ?_); rintro e w1 ⟨rfl, hb1⟩)
        go_ret
        exact ⟨ret_bool HB3.out, hbw.trans (hb1.mono hws)⟩
    · have HE := Lib.hid (HREST.out (fun j hj => hall.out j (by omega)))
      go_wp2
      go_ret
      exact ⟨ret_bool HE.out, hbw⟩

theorem below_drn {B : Nat} {w w' : World} (h : Below B w w') (n : Nat) : Below B w (w'.drewN n) := h.trans ⟨rfl, rfl, rfl, Nat.le_refl _, fun _ _ => rfl⟩
theorem boxes {w : World} {o1 o2 : Obj} {W : World} (hW : (w.alloc o1).alloc o2 = W) : W.heap[w.heap.size]? = some o1 ∧ W.heap[w.heap.size + 1]? = some o2 ∧ Below w.heap.size w W ∧ W.heap.size = w.heap.size + 2 := by
  subst hW
  have s1 : (w.alloc o1).heap.size = w.heap.size + 1 := by simp
  have e1 := heap_alloc_new w o1
  have e2 := heap_alloc_new (w.alloc o1) o2
  rw [s1] at e2
  rw [← Below.heap_alloc _ o2 _ (by simp)] at e1
  exact ⟨e1, e2, ((Below.refl _ _).alloc (Nat.le_refl _) _).alloc (by simp) _, by simp⟩
theorem bf_ne_len {x y : Bf} (h : ¬ x.is.length = y.is.length) : decide (x = y) = false := decide_eq_false (fun e => h (by rw [e]))
theorem bf_ne_c {x y : Bf} (h : ¬ x.c = y.c) : decide (x = y) = false := decide_eq_false (fun e => h (by rw [e]))
theorem bf_ne_p {x y : Bf} (h : ¬ x.p = y.p) : decide (x = y) = false := decide_eq_false (fun e => h (by rw [e]))
theorem bf_eq {x y : Bf} (h2 : x.c = y.c) (h3 : x.p = y.p) : decide (x = y) = decide (x.is = y.is) := by
  congr 1
  exact propext ⟨fun h => by rw [h], fun h => Bf.ext' h h2 h3⟩

set_option maxHeartbeats 4000000 in
theorem rsam8_any (x y : Bf) (v1 v2 : Value) (w : World) (hA : BfR w v1 x) (hC : BfR w v2 y) (hn : x.is.length ≤ 1000000000) :
    Calls Try.prog 38 #[v1, v2] w fun e w' => e = .returned (.bool (decide (x = y))) ∧ Below w.heap.size w w' := by
  obtain ⟨a, len, cap, rfl, hIA⟩ := hA.open
  obtain ⟨a2, len2, cap2, rfl, hIC⟩ := hC.open
  obtain ⟨hlen, hcap, hmax⟩ := hIA.len
  obtain ⟨hlen2, hcap2, hmax2⟩ := hIC.len
  subst hlen hlen2
  unfold maxLen at hmax hmax2
  clear hA hC
  by_cases hl : x.is.length = y.is.length
  rotate_left
  · rw [bf_ne_len hl]
    have hne2 : (((x.is.length : Nat) : Int) != ((y.is.length : Nat) : Int)) = true := by simp; omega
    clear hIA hIC
    obtain ⟨is, c, p⟩ := x
    obtain ⟨js, d, q⟩ := y
    simp only at *
    go_enter Try.func38, Try.ntmps38
    go_wp2
    go_ret
    exact ⟨rfl, ((Below.refl _ _).alloc (Nat.le_refl _) _).alloc (by simp) _⟩
  by_cases hc : x.c = y.c
  rotate_left
  · rw [bf_ne_c hc]
    have hne2 : (x.c != y.c) = true := by simpa using hc
    clear hIA hIC
    obtain ⟨is, c, p⟩ := x
    obtain ⟨js, d, q⟩ := y
    simp only at *
    have hne3 : (((is.length : Nat) : Int) != ((js.length : Nat) : Int)) = false := by simp; omega
    go_enter Try.func38, Try.ntmps38
    go_wp2
    go_ret
    exact ⟨rfl, ((Below.refl _ _).alloc (Nat.le_refl _) _).alloc (by simp) _⟩
  by_cases hp : x.p = y.p
  rotate_left
  · rw [bf_ne_p hp]
    have hne2 : (x.p.toList == y.p.toList) = false := by rw [istr_beq]; exact decide_eq_false hp
    clear hIA hIC
    obtain ⟨is, c, p⟩ := x
    obtain ⟨js, d, q⟩ := y
    simp only at *
    subst hc
    have hne3 : (((is.length : Nat) : Int) != ((js.length : Nat) : Int)) = false := by simp; omega
    go_enter Try.func38, Try.ntmps38
    go_wp2
    go_ret
    exact ⟨rfl, ((Below.refl _ _).alloc (Nat.le_refl _) _).alloc (by simp) _⟩
  rw [bf_eq hc hp]
  obtain ⟨is, c, p⟩ := x
  obtain ⟨js, d, q⟩ := y
  simp only at *
  subst hc hp
  obtain ⟨n, hnn⟩ : ∃ n, is.length = n := ⟨_, rfl⟩
  have HN := Lib.hid (show is.length = n ∧ js.length = n from ⟨hnn, by omega⟩)
  have HA := Lib.hid hIA
  have HC := Lib.hid hIC
  rw [← hl, hnn] at HC hcap2
  rw [hnn] at HA hcap hn
  rw [← hl, hnn]
  obtain ⟨E, hE⟩ : ∃ E : Bool, decide (is = js) = E := ⟨_, rfl⟩
  rw [hE]
  have HP := Lib.hid (show is ≠ js → false = E from fun h => by rw [← hE, decide_eq_false h])
  have HP2 := Lib.hid (show is = js → true = E from fun h => by rw [← hE, decide_eq_true h])
  clear hE hIA hIC hl hnn
  go_enter Try.func38, Try.ntmps38
  go_wp2
  obtain ⟨W, hW⟩ : ∃ W, (w.alloc (Obj.cells #[.slice a n cap, .int .i64 c, .string p] 27)).alloc (Obj.cells #[.slice a2 n cap2, .int .i64 c, .string p] 27) = W := ⟨_, rfl⟩
  rw [hW]
  obtain ⟨f1, f2, f3, f4⟩ := boxes hW
  clear hW
  go_loopw [5] (fun i wr => ∃ k : Nat, i = .int .i64 k ∧ k ≤ n ∧ Hid (is.take k = js.take k) ∧ Below (w.heap.size + 2) W wr) (fun i _ => n - (intOf i).toNat)
  case atStart => exact ⟨0, rfl, Nat.zero_le _, Lib.hid rfl, Below.refl _ _⟩
  case round =>
    obtain ⟨k, rfl, hk, heq, hbw⟩ := hrel
    obtain ⟨b0, _, _, _⟩ := box_facts ((hbw.block w.heap.size (by omega)).trans f1)
    obtain ⟨d0, _, _, _⟩ := box_facts ((hbw.block (w.heap.size + 1) (by omega)).trans f2)
    have hbf : Below w.heap.size w wr := f3.trans (hbw.mono (by omega))
    by_cases hkl : k < n
    · obtain ⟨b, off, rfl, hb, hx⟩ := HA.out.at (by have := HN.out; omega)
      obtain ⟨x0, x1⟩ := hx k (by have := HN.out; omega)
      obtain ⟨b2, off2, rfl, hb2, hy⟩ := HC.out.at (by have := HN.out; omega)
      obtain ⟨y0, y1⟩ := hy k (by have := HN.out; omega)
      rw [← hbf.cell (p := ⟨b, _, none⟩) hb] at x0 x1
      rw [← hbf.cell (p := ⟨b2, _, none⟩) hb2] at y0 y1
      clear hx hy
      have H1 := Lib.hid (take_succ_ii is k (by have := HN.out; omega))
      have H2 := Lib.hid (take_succ_ii js k (by have := HN.out; omega))
      generalize ii is k = r at x0 x1 H1
      generalize ii js k = s at y0 y1 H2
      have heqn := fun W => eq_ritem r s W
      have hgd := guard_ritem
      have k0 : (0 : Int) ≤ k := by omega
      have k1 : (k : Int) < n := by omega
      by_cases hq : r = s
      · have H3 := Lib.hid (show is.take (k + 1) = js.take (k + 1) by rw [H1.out, H2.out, heq.out, hq])
        rw [decide_eq_true hq] at heqn
        clear hq
        go_wp2
        go_quiet (fail)
        have hb4 := below_drn hbw nq
        go_wp2
        go_roundw
        case rel => exact ⟨k + 1, by go_num, by omega, H3, hb4⟩
        case measure => simp [intOf]; omega
      · have H3 := Lib.hid (show is ≠ js from fun e => by
          have h1 := H1.out; have h2 := H2.out
          rw [e, h2, ← e, heq.out] at h1
          have h3 := List.append_cancel_left h1
          simp at h3
          exact hq h3.symm)
        rw [decide_eq_false hq] at heqn
        clear hq
        go_wp2
        go_quiet (fail)
        have hb4 := below_drn hbf nq
        go_wp2
        go_ret
        exact ⟨ret_bool (HP.out H3.out), hb4⟩
    · have H3 := Lib.hid (show is = js by have h := heq.out; have := HN.out; rwa [List.take_of_length_le (by omega), List.take_of_length_le (by omega)] at h)
      go_wp2
      go_ret
      exact ⟨ret_bool (HP2.out H3.out), hbf⟩

/-- The laws' same: a buffer of the program against one of the document. -/
theorem sam8_any (x y : Bf) (v1 v2 : Value) (w : World) (hA : BfR w v1 x) (hC : BfR w v2 y) (hn : x.is.length ≤ 1000000000) :
    Calls Try.prog 16 #[v1, v2] w fun e w' => e = .returned (.bool (decide (x = y))) ∧ Below w.heap.size w w' := by
  obtain ⟨a, len, cap, rfl, hIA⟩ := hA.open
  obtain ⟨a2, len2, cap2, rfl, hIC⟩ := hC.open
  have HG := Lib.hid (fun (W : World) (h : Below w.heap.size w W) => gvn8_any x (.slice a len cap) W (hIA.later h (Nat.le_refl _)) hn)
  have HS := Lib.hid (fun (v : Value) (W : World) (h : ItR W v x.is) (h2 : Below w.heap.size w W) => rsam8_any x y (.agg #[v, .int .i64 x.c, .string x.p]) (.agg #[.slice a2 len2 cap2, .int .i64 y.c, .string y.p]) W ⟨_, rfl, h⟩ ⟨_, rfl, hIC.later h2 (Nat.le_refl _)⟩ hn)
  clear hA hC hIA hIC
  generalize decide (x = y) = E at HS ⊢
  obtain ⟨is, c, p⟩ := x
  obtain ⟨js, d, q⟩ := y
  simp only at *
  go_enter Try.func16, Try.ntmps16
  go_wp2
  obtain ⟨W, hW⟩ : ∃ W, (w.alloc (Obj.cells #[.slice a len cap, .int .i64 c, .string p] 24)).alloc (Obj.cells #[.slice a2 len2 cap2, .int .i64 d, .string q] 27) = W := ⟨_, rfl⟩
  rw [hW]
  obtain ⟨f1, f2, f3, f4⟩ := boxes hW
  clear hW
  obtain ⟨b0, b1, b2, _⟩ := box_facts f1
  obtain ⟨d0, d1, d2, _⟩ := box_facts f2
  go_region_held3 (fun w' => w'.cell? ⟨w.heap.size, 0, none⟩ = some (.slice a len cap) ∧ w'.cell? ⟨w.heap.size, 1, none⟩ = some (.int .i64 c) ∧ w'.cell? ⟨w.heap.size, 2, none⟩ = some (.string p) ∧ w'.cell? ⟨w.heap.size + 1, 0, none⟩ = some (.slice a2 len2 cap2) ∧ w'.cell? ⟨w.heap.size + 1, 1, none⟩ = some (.int .i64 d) ∧ w'.cell? ⟨w.heap.size + 1, 2, none⟩ = some (.string q) ∧ Below w.heap.size w w' ∧ w.heap.size + 2 ≤ w'.heap.size)
    (first
      | exact ⟨b0, b1, b2, d0, d1, d2, f3.drew, by simp [f4]⟩
      | (go_split_ands
         refine ⟨?_, ?_, ?_, ?_, ?_, ?_, ?_, ?_⟩
         · (rw [hb.cell (by simp; omega)]; assumption)
         · (rw [hb.cell (by simp; omega)]; assumption)
         · (rw [hb.cell (by simp; omega)]; assumption)
         · (rw [hb.cell (by simp; omega)]; assumption)
         · (rw [hb.cell (by simp; omega)]; assumption)
         · (rw [hb.cell (by simp; omega)]; assumption)
         · exact Below.trans (by assumption) (hb.mono (by omega))
         · exact Nat.le_trans (by assumption) hb.size))
    (first
      | (go_at_call 9; go_split_ands; (with_reducible refine (HG.out _ (by assumption)).mono ?_); rintro e w5 ⟨v5, rfl, ho5, hb⟩; have HI5 := Lib.hid (items_of_own ho5).1; obtain ⟨a5, m5, k5, rfl⟩ := slice_of_own ho5)
      | (go_at_call 38; go_split_ands; (with_reducible refine (HS.out _ _ HI5.out (by assumption)).mono ?_); rintro e w6 ⟨rfl, hb⟩))
  all_goals
    rename_i hHeld
    obtain ⟨_, _, _, _, _, _, hB, _⟩ := hHeld
    go_wp2
    go_ret
    exact ⟨rfl, hB⟩

end Go.Proofs.Ytlmbbpppfghcbaa.Cmp

set_option linter.unusedVariables false
set_option linter.unusedSimpArgs false
set_option maxRecDepth 100000
namespace Go.Proofs.Ytlmbbpppfghcbaa.Cmp
open Go Go.RowKit Go.Proofs.Ytlmbbpppfghcbaa.Kit Go.Proofs.Ytlmbbpppfghcbaa.Utf Go.Proofs.Ytlmbbpppfghcbaa.Rom Go.Proofs.Ytlmbbpppfghcbaa.Aut

theorem ba_app (x : By) (s : ByteArray) : ba x ++ s = ba (x ++ bs s) := ba_ext (by simp [ba, bs])
theorem outs_cat (l : List It) : outs l = cat It.o l := rfl
theorem raws_cat (l : List It) : raws l = cat It.r l := rfl
theorem take_drop_succ (is : List It) {k c : Nat} (h : k < is.length) (hc : c ≤ k) : (is.take (k + 1)).drop c = (is.take k).drop c ++ [ii is k] := by
  rw [take_succ_ii is k h, List.drop_append_of_le_length (by rw [List.length_take]; omega)]
theorem take_drop_none (is : List It) {k c : Nat} (hc : k ≤ c) : (is.take k).drop c = [] := List.drop_of_length_le (by rw [List.length_take]; omega)
theorem cat_app (g : It → ByteArray) (a b : List It) : cat g (a ++ b) = cat g a ++ cat g b := by unfold cat; rw [List.flatMap_append]
theorem cat_one (g : It → ByteArray) (i : It) : cat g [i] = bs (g i) := by unfold cat; simp

set_option maxHeartbeats 8000000 in
theorem rtext_buf (b : Bf) (v : Value) (w : World) (hR : BfR w v b) (hsh : Sh b) :
    Calls Try.prog 12 #[v] w fun e w' => e = .returned (.tuple #[.string (texB b).1, .string (texB b).2.1, .string (texB b).2.2]) ∧ Below w.heap.size w w' := by
  obtain ⟨a, len, cap, rfl, hI⟩ := hR.open
  have HV := Lib.hid (fun W (hI : ItR W (.slice a len cap) b.is) => rvalid_any b (.slice a len cap) W hI hsh)
  have HI := Lib.hid (fun (W : World) (h : Below w.heap.size w W) => hI.later h (Nat.le_refl _))
  have hb0 : Below w.heap.size w (w.alloc (Obj.cells #[.slice a len cap, .int .i64 b.c, .string b.p] 27)) := (Below.refl _ _).alloc (Nat.le_refl _) _
  have hvp := @val_parts b
  obtain ⟨hlen, hcap, hmax⟩ := hI.len
  have hS := hsh.1
  unfold texB
  unfold maxLen at hmax
  clear hR hsh
  obtain ⟨is, c, p⟩ := b
  simp only at *
  subst hlen
  cases hv : val ⟨is, c, p⟩
  · rw [hv] at HV
    clear hv hvp hI
    simp only [Bool.false_eq_true, if_false]
    go_enter Try.func12, Try.ntmps12
    go_wp2_with (go_at_call 10; (with_reducible refine (HV.out _ (HI.out _ hb0)).mono ?_); rintro e w1 ⟨rfl, hb1⟩)
    go_ret3
    exact ⟨rfl, hb0.trans (hb1.mono (by simp))⟩
  obtain ⟨v1, v2, v3, _⟩ := hvp hv
  rw [hv] at HV
  obtain ⟨kc, rfl⟩ : ∃ kc : Nat, c = kc := ⟨c.toNat, by omega⟩
  simp only [if_true, Int.toNat_natCast, outs_cat]
  have HS := Lib.hid hS
  clear hv hvp hI hS
  go_enter Try.func12, Try.ntmps12
  go_wp2_with (go_at_call 10; (with_reducible refine (HV.out _ (HI.out _ hb0)).mono ?_); rintro e w1 ⟨rfl, hb1⟩)
  have hbw1 : Below w.heap.size w w1 := hb0.trans (hb1.mono (by simp))
  have hc0 := hb1.cell (p := ⟨w.heap.size, 0, none⟩) (by simp)
  have hc1 := hb1.cell (p := ⟨w.heap.size, 1, none⟩) (by simp)
  have hc2 := hb1.cell (p := ⟨w.heap.size, 2, none⟩) (by simp)
  simp only [World.cell?_alloc_new] at hc0 hc1 hc2
  have HIW := Lib.hid (HI.out w1 hbw1)
  clear hb1 hb0 HI HV
  go_loopw [7, 5, 6] (fun i x y wr => ∃ (k : Nat) (X Y : ByteArray), i = .int .i64 k ∧ x = .string X ∧ y = .string Y ∧ k ≤ is.length ∧ Hid (X = ba (cat It.o (is.take (min k kc)))) ∧ Hid (Y = ba (cat It.o ((is.take k).drop kc))) ∧ X.size ≤ 1048576 * k ∧ Y.size ≤ 1048576 * k ∧ wr = w1) (fun i _ _ _ => is.length - (intOf i).toNat)
  case atStart => exact ⟨0, ⟨#[]⟩, ⟨#[]⟩, rfl, rfl, rfl, Nat.zero_le _, Lib.hid (by rw [Nat.zero_min]; rfl), Lib.hid (by simp [cat]; rfl), Nat.zero_le _, Nat.zero_le _, rfl⟩
  case round =>
    obtain ⟨k, X, Y, rfl, rfl, rfl, hk, hX, hY, hXs, hYs, rfl⟩ := hrel
    by_cases hkl : k < is.length
    · obtain ⟨g, off, rfl, hb, hx⟩ := HIW.out.at (by omega)
      obtain ⟨x0, x1⟩ := hx k hkl
      obtain ⟨_, z2⟩ := HS.out _ (ii_mem hkl)
      have k0 : (0 : Int) ≤ k := by omega
      have k1 : (k : Int) < is.length := by omega
      have HT := Lib.hid (show is.take (k + 1) = is.take k ++ [ii is k] from take_succ_ii is k hkl)
      have HD := Lib.hid (show kc ≤ k → (is.take (k + 1)).drop kc = (is.take k).drop kc ++ [ii is k] from fun h => take_drop_succ is hkl h)
      clear hx
      generalize ii is k = r at x0 x1 z2 HT HD
      obtain ⟨rr, ro⟩ := r
      simp only at x0 x1 z2
      have hsum1 : ¬ 9223372036854775807 < X.size + ro.size := by omega
      have hsum2 : ¬ 9223372036854775807 < Y.size + ro.size := by omega
      by_cases hkc : k < kc
      · have hX2 : Hid (X ++ ro = ba (cat It.o (is.take (min (k + 1) kc)))) := Lib.hid (by
          rw [Nat.min_eq_left (by omega), HT.out, cat_app, cat_one, ← ba_app, hX.out, Nat.min_eq_left (by omega)])
        have hY2 : Hid (Y = ba (cat It.o ((is.take (k + 1)).drop kc))) := Lib.hid (by
          rw [hY.out, take_drop_none is (by omega : k ≤ kc), take_drop_none is (by omega : k + 1 ≤ kc)])
        have hkc2 : (k : Int) < kc := by omega
        go_wp2
        go_roundw
        case rel => exact ⟨k + 1, X ++ ro, Y, by go_num, rfl, rfl, by omega, hX2, hY2, by rw [ByteArray.size_append]; omega, by omega, trivial⟩
        case measure => simp [intOf]; omega
      · have hX2 : Hid (X = ba (cat It.o (is.take (min (k + 1) kc)))) := Lib.hid (by
          rw [hX.out, Nat.min_eq_right (by omega), Nat.min_eq_right (by omega)])
        have hY2 : Hid (Y ++ ro = ba (cat It.o ((is.take (k + 1)).drop kc))) := Lib.hid (by
          rw [HD.out (by omega), cat_app, cat_one, ← ba_app, hY.out])
        have hkc2 : ¬ (k : Int) < kc := by omega
        go_wp2
        go_roundw
        case rel => exact ⟨k + 1, X, Y ++ ro, by go_num, rfl, rfl, by omega, hX2, hY2, by omega, by rw [ByteArray.size_append]; omega, trivial⟩
        case measure => simp [intOf]; omega
    · obtain rfl : k = is.length := by omega
      have HX2 := Lib.hid (show X = ba (cat It.o (is.take kc)) by rw [hX.out, Nat.min_eq_right (by omega)])
      have HY2 := Lib.hid (show Y = ba (cat It.o (is.drop kc)) by rw [hY.out, List.take_length])
      go_wp2
      go_quiet (fail)
      have hb4 := below_drn hbw1 nq
      go_wp2
      go_ret3
      exact ⟨by rw [← HX2.out, ← HY2.out]; rfl, hb4⟩

/-- What Raw has joined when i items are passed. -/
def rawK (b : Bf) (i : Nat) : By := if i ≤ b.c.toNat then cat It.r (b.is.take i) else cat It.r (b.is.take b.c.toNat) ++ bs b.p ++ cat It.r ((b.is.take i).drop b.c.toNat)
theorem rawK_end {b : Bf} (h : b.c ≤ b.is.length) (h0 : 0 ≤ b.c) : rawK b (b.is.length + 1) = raws (b.is.take b.c.toNat) ++ bs b.p ++ raws (b.is.drop b.c.toNat) := by
  unfold rawK
  rw [if_neg (by omega), List.take_of_length_le (l := b.is) (i := b.is.length + 1) (by omega)]
  rfl
/-- Pending keys are joined at the caret. -/
def rawM (b : Bf) (i : Nat) : By := if i = b.c.toNat then rawK b i ++ bs b.p else rawK b i
theorem rawM_step {b : Bf} {i : Nat} (h : i < b.is.length) : rawK b (i + 1) = rawM b i ++ bs (ii b.is i).r := by
  unfold rawM rawK
  by_cases h1 : i < b.c.toNat
  · rw [if_pos (by omega), if_neg (by omega), if_pos (by omega), take_succ_ii _ _ h, cat_app, cat_one]
  · by_cases h2 : i = b.c.toNat
    · rw [if_neg (by omega), if_pos h2, if_pos (by omega), take_drop_succ _ h (by omega), take_drop_none _ (by omega), List.nil_append, cat_one, h2]
    · rw [if_neg (by omega), if_neg h2, if_neg (by omega), take_drop_succ _ h (by omega), cat_app, cat_one]
      simp only [List.append_assoc]
theorem rawM_end {b : Bf} (h : b.c ≤ b.is.length) (h0 : 0 ≤ b.c) : rawK b (b.is.length + 1) = rawM b b.is.length := by
  unfold rawM rawK
  rw [if_neg (by omega), List.take_of_length_le (by omega : b.is.length ≤ b.is.length + 1), List.take_length]
  by_cases h2 : b.is.length = b.c.toNat
  · rw [if_pos h2, if_pos (by omega), ← h2, List.take_length, List.drop_of_length_le (Nat.le_refl _)]
    simp [cat]
  · rw [if_neg h2, if_neg (by omega)]

set_option maxHeartbeats 8000000 in
theorem rraw_buf (b : Bf) (v : Value) (w : World) (hR : BfR w v b) (hsh : Sh b) :
    Calls Try.prog 15 #[v] w fun e w' => e = .returned (.string (rawB b)) ∧ Below w.heap.size w w' := by
  obtain ⟨a, len, cap, rfl, hI⟩ := hR.open
  have HV := Lib.hid (fun W (hI : ItR W (.slice a len cap) b.is) => rvalid_any b (.slice a len cap) W hI hsh)
  have HI := Lib.hid (fun (W : World) (h : Below w.heap.size w W) => hI.later h (Nat.le_refl _))
  have hb0 : Below w.heap.size w (w.alloc (Obj.cells #[.slice a len cap, .int .i64 b.c, .string b.p] 27)) := (Below.refl _ _).alloc (Nat.le_refl _) _
  have hvp := @val_parts b
  obtain ⟨hlen, hcap, hmax⟩ := hI.len
  have hS := hsh.1
  unfold rawB
  unfold maxLen at hmax
  subst hlen
  cases hv : val b
  · rw [hv] at HV
    clear hv hvp hI hR hsh hS
    obtain ⟨is, c, p⟩ := b
    simp only at *
    simp only [Bool.false_eq_true, if_false]
    go_enter Try.func15, Try.ntmps15
    go_wp2_with (go_at_call 10; (with_reducible refine (HV.out _ (HI.out _ hb0)).mono ?_); rintro e w1 ⟨rfl, hb1⟩)
    go_ret
    exact ⟨rfl, hb0.trans (hb1.mono (by simp))⟩
  obtain ⟨v1, v2, v3, _, v5, _⟩ := hvp hv
  rw [hv] at HV
  simp only [if_true]
  have HEND := Lib.hid (rawK_end v3 v2)
  have HSTEP := Lib.hid (fun i h => rawM_step (b := b) (i := i) h)
  have HFIN := Lib.hid (rawM_end v3 v2)
  have HYES := Lib.hid (show ∀ i, i = b.c.toNat → rawM b i = rawK b i ++ bs b.p from fun i h => by unfold rawM; rw [if_pos h])
  have HNO := Lib.hid (show ∀ i, ¬ i = b.c.toNat → rawM b i = rawK b i from fun i h => by unfold rawM; rw [if_neg h])
  have h00 : rawK b 0 = [] := by unfold rawK; rw [if_pos (Nat.zero_le _)]; rfl
  rw [← HEND.out]
  have HS := Lib.hid hS
  clear hv hvp hI hS hR hsh HEND
  generalize rawK b = rk at *
  generalize rawM b = rm at *
  obtain ⟨is, c, p⟩ := b
  simp only at *
  obtain ⟨kc, rfl⟩ : ∃ kc : Nat, c = kc := ⟨c.toNat, by omega⟩
  simp only [Int.toNat_natCast] at *
  go_enter Try.func15, Try.ntmps15
  go_wp2_with (go_at_call 10; (with_reducible refine (HV.out _ (HI.out _ hb0)).mono ?_); rintro e w1 ⟨rfl, hb1⟩)
  have hbw1 : Below w.heap.size w w1 := hb0.trans (hb1.mono (by simp))
  have hc0 := hb1.cell (p := ⟨w.heap.size, 0, none⟩) (by simp)
  have hc1 := hb1.cell (p := ⟨w.heap.size, 1, none⟩) (by simp)
  have hc2 := hb1.cell (p := ⟨w.heap.size, 2, none⟩) (by simp)
  simp only [World.cell?_alloc_new] at hc0 hc1 hc2
  have HIW := Lib.hid (HI.out w1 hbw1)
  clear hb1 hb0 HI HV
  go_loopw [4, 3] (fun i x wr => ∃ (k : Nat) (X : ByteArray), i = .int .i64 k ∧ x = .string X ∧ k ≤ is.length + 1 ∧ Hid (X = ba (rk k)) ∧ X.size ≤ 2097152 * k ∧ wr = w1) (fun i _ _ => is.length + 1 - (intOf i).toNat)
  case atStart => exact ⟨0, ⟨#[]⟩, rfl, rfl, Nat.zero_le _, Lib.hid (by rw [h00]; rfl), Nat.zero_le _, rfl⟩
  case round =>
    obtain ⟨k, X, rfl, rfl, hk, hX, hXs, rfl⟩ := hrel
    by_cases hkn : k ≤ is.length
    · have k0 : (0 : Int) ≤ k := by omega
      have kn : (k : Int) ≤ is.length := by omega
      have hsum1 : ¬ 9223372036854775807 < X.size + p.size := by omega
      have hM : ∀ Y : ByteArray, (k = kc → Y = X ++ p) → (¬ k = kc → Y = X) → Hid (Y = ba (rm k)) ∧ Y.size ≤ 2097152 * k + 8 := fun Y h1 h2 => by
        by_cases hq : k = kc
        · rw [h1 hq, ByteArray.size_append]
          exact ⟨Lib.hid (by rw [HYES.out k hq, ← ba_app, hX.out]), by omega⟩
        · rw [h2 hq]
          exact ⟨Lib.hid (by rw [HNO.out k hq, hX.out]), by omega⟩
      have HM := Lib.hid hM
      clear hM
      by_cases hkl : k < is.length
      · obtain ⟨g, off, rfl, hb, hx⟩ := HIW.out.at (by omega)
        obtain ⟨x0, x1⟩ := hx k hkl
        obtain ⟨z1, _⟩ := HS.out _ (ii_mem hkl)
        have k1 : (k : Int) < is.length := by omega
        have HST := Lib.hid (HSTEP.out k hkl)
        clear hx
        generalize ii is k = r at x0 x1 z1 HST
        obtain ⟨rr, ro⟩ := r
        simp only at x0 x1 z1 HST
        have hsum2 : ¬ 9223372036854775807 < X.size + rr.size := by omega
        have hsum3 : ¬ 9223372036854775807 < (X ++ p).size + rr.size := by rw [ByteArray.size_append]; omega
        by_cases hkc : k = kc
        · obtain ⟨hY, hYs⟩ := HM.out (X ++ p) (fun _ => rfl) (fun h => absurd hkc h)
          subst hkc
          have HY2 := Lib.hid (show (X ++ p) ++ rr = ba (rk (k + 1)) by rw [HST.out, ← ba_app, hY.out])
          clear HM
          go_wp2
          go_roundw
          case rel => exact ⟨k + 1, (X ++ p) ++ rr, by go_num, rfl, by omega, HY2, by rw [ByteArray.size_append]; omega, trivial⟩
          case measure => simp [intOf]; omega
        · obtain ⟨hY, hYs⟩ := HM.out X (fun h => absurd h hkc) (fun _ => rfl)
          have hkc2 : ((k : Int) == kc) = false := by rw [beq_eq_false_iff_ne]; omega
          have HY2 := Lib.hid (show X ++ rr = ba (rk (k + 1)) by rw [HST.out, ← ba_app, hY.out])
          clear HM
          go_wp2
          go_roundw
          case rel => exact ⟨k + 1, X ++ rr, by go_num, rfl, by omega, HY2, by rw [ByteArray.size_append]; omega, trivial⟩
          case measure => simp [intOf]; omega
      · obtain rfl : k = is.length := by omega
        by_cases hkc : is.length = kc
        · obtain ⟨hY, hYs⟩ := HM.out (X ++ p) (fun _ => rfl) (fun h => absurd hkc h)
          subst hkc
          have HY2 := Lib.hid (show (X ++ p) = ba (rk (is.length + 1)) by rw [HFIN.out, hY.out])
          clear HM
          go_wp2
          go_roundw
          case rel => exact ⟨is.length + 1, X ++ p, by go_num, rfl, by omega, HY2, by omega, trivial⟩
          case measure => simp [intOf]
        · obtain ⟨hY, hYs⟩ := HM.out X (fun h => absurd h hkc) (fun _ => rfl)
          have hkc2 : ((is.length : Int) == kc) = false := by rw [beq_eq_false_iff_ne]; omega
          have HY2 := Lib.hid (show X = ba (rk (is.length + 1)) by rw [HFIN.out, hY.out])
          clear HM
          go_wp2
          go_roundw
          case rel => exact ⟨is.length + 1, X, by go_num, rfl, by omega, HY2, by omega, trivial⟩
          case measure => simp [intOf]
    · obtain rfl : k = is.length + 1 := by omega
      have kn : ¬ ((is.length + 1 : Nat) : Int) ≤ is.length := by omega
      go_wp2
      go_ret
      exact ⟨by rw [← hX.out]; rfl, hbw1⟩

end Go.Proofs.Ytlmbbpppfghcbaa.Cmp

set_option linter.unusedVariables false
set_option linter.unusedSimpArgs false
namespace Go.Proofs.Ytlmbbpppfghcbaa.Cmp
open Go Go.RowKit Go.Proofs.Ytlmbbpppfghcbaa Go.Proofs.Ytlmbbpppfghcbaa.Kit Go.Proofs.Ytlmbbpppfghcbaa.Utf Go.Proofs.Ytlmbbpppfghcbaa.Rom Go.Proofs.Ytlmbbpppfghcbaa.Aut

theorem box_lt {w : World} {g : Nat} {o : Obj} (h : w.heap[g]? = some o) : g < w.heap.size := by
  by_cases hg : g < w.heap.size
  · exact hg
  · rw [Array.getElem?_eq_none (by omega)] at h; cases h
theorem box_alloc {w2 W3 : World} {o o1 : Obj} {g : Nat} (h : w2.heap[g]? = some o1) (hW : w2.alloc o = W3) : W3.heap[g]? = some o1 := by
  rw [← hW, heap_alloc_old w2 _ (box_lt h)]; exact h
theorem box_later {w w' : World} {g B : Nat} {o : Obj} (h : w.heap[g]? = some o) (hb : Below B w w') (hg : g < B) : w'.heap[g]? = some o := by
  rw [hb.block _ hg]; exact h
theorem box_new {w2 W3 : World} {o : Obj} (hW : w2.alloc o = W3) : W3.heap[w2.heap.size]? = some o ∧ W3.heap.size = w2.heap.size + 1 ∧ ∀ B, B ≤ w2.heap.size → Below B w2 W3 := by
  subst hW
  exact ⟨heap_alloc_new w2 _, by simp, fun B hB => (Below.refl B w2).alloc hB _⟩

end Go.Proofs.Ytlmbbpppfghcbaa.Cmp
