/-
  A key inserted is what the reference inserts.
-/
import Derived.Test.YtamdlbefiggkfaaGreatM14
import Derived.Test.YtamdlbefiggkfaaGreatM15
import Derived.Test.YtamdlbefiggkfaaGreatM17
import Derived.BigRegion
import Derived.OpenShut
import Derived.ShutString
import Derived.ChangeOld
import Derived.HandedShaped
import Derived.LaidMore
import Derived.Lay
import Derived.SizedLaws
import Derived.Deep.DeepHandedRow
set_option linter.unusedVariables false
set_option linter.unusedSimpArgs false
set_option maxRecDepth 100000
namespace Go.Proofs.YtamdlbefiggkfaaGreat.composeInserts
open Go Go.RowKit Go.ChangeShapes Go.WideShapes Go.ChangeAt Go.Proofs.YtamdlbefiggkfaaGreat Go.Proofs.YtamdlbefiggkfaaGreat.Kit Go.Proofs.YtamdlbefiggkfaaGreat.Utf Go.Proofs.YtamdlbefiggkfaaGreat.Rom Go.Proofs.YtamdlbefiggkfaaGreat.Aut Go.Proofs.YtamdlbefiggkfaaGreat.Cmp
open Go.ChangeMaps (open_string shut_string)
theorem held_later {w w' : World} {x0 x1 x2 : Nat} {t0 t1 t2 u0 u1 u2 r0 r1 r2 : Value}
    (h : w.cell? ⟨x0, 0, none⟩ = some t0 ∧ w.cell? ⟨x0, 1, none⟩ = some t1 ∧ w.cell? ⟨x0, 2, none⟩ = some t2 ∧ w.cell? ⟨x1, 0, none⟩ = some u0 ∧ w.cell? ⟨x1, 1, none⟩ = some u1 ∧ w.cell? ⟨x1, 2, none⟩ = some u2 ∧ w.cell? ⟨x2, 0, none⟩ = some r0 ∧ w.cell? ⟨x2, 1, none⟩ = some r1 ∧ w.cell? ⟨x2, 2, none⟩ = some r2)
    (h0 : x0 < w.heap.size) (h1 : x1 < w.heap.size) (h2 : x2 < w.heap.size) (hb : Below w.heap.size w w') :
    w'.cell? ⟨x0, 0, none⟩ = some t0 ∧ w'.cell? ⟨x0, 1, none⟩ = some t1 ∧ w'.cell? ⟨x0, 2, none⟩ = some t2 ∧ w'.cell? ⟨x1, 0, none⟩ = some u0 ∧ w'.cell? ⟨x1, 1, none⟩ = some u1 ∧ w'.cell? ⟨x1, 2, none⟩ = some u2 ∧ w'.cell? ⟨x2, 0, none⟩ = some r0 ∧ w'.cell? ⟨x2, 1, none⟩ = some r1 ∧ w'.cell? ⟨x2, 2, none⟩ = some r2 ∧ Below w.heap.size w w' ∧ w.heap.size ≤ w'.heap.size := by
  obtain ⟨h1, h2, h3, h4, h5, h6, h7, h8, h9⟩ := h
  refine ⟨?_, ?_, ?_, ?_, ?_, ?_, ?_, ?_, ?_, hb, hb.size⟩
  all_goals
    rw [hb.cell (by simp; omega)]
    assumption
abbrev zeroQ : Obj := Obj.cells #[.slice none 0 0, .int .i64 0, .string { data := #[] }] 33
theorem new_drew {W w5 : World} {o : Obj} (hb : Below (W.drew.alloc o).heap.size (W.drew.alloc o) w5) : w5.heap[W.heap.size]? = some o :=
  box_later (heap_alloc_new W.drew o) hb (by rw [show (W.drew.alloc o).heap.size = W.drew.heap.size + 1 by simp]; exact Nat.lt_succ_self _)
theorem new_plain {W w5 : World} {o : Obj} (hb : Below (W.alloc o).heap.size (W.alloc o) w5) : w5.heap[W.heap.size]? = some o :=
  box_later (heap_alloc_new W o) hb (by simp)
theorem box_put {W : World} {g : Nat} {a : Option Addr} {m k : Nat} {c : Int} {p : ByteArray} {is : List It} (hx : W.heap[g]? = some zeroQ) (hI : ItR W (.slice a m k) is) {B : Nat} (hB : B ≤ g) :
    ∃ W9, ((W.setCell ⟨g, 0, none⟩ (.slice a m k)).setCell ⟨g, 1, none⟩ (.int .i64 c)).setCell ⟨g, 2, none⟩ (.string p) = W9 ∧ W9.heap[g]? = some (Obj.cells #[.slice a m k, .int .i64 c, .string p] 33) ∧ ItR W9 (.slice a m k) is ∧ Below B W W9 := by
  refine ⟨_, rfl, box_set3 hx, ?_, Below.setCell (Below.setCell (Below.setCell (Below.refl B W) (p := ⟨g, 0, none⟩) hB _) (p := ⟨g, 1, none⟩) hB _) (p := ⟨g, 2, none⟩) hB _⟩
  have hlt : g < W.heap.size := box_lt hx
  obtain ⟨v, e, ⟨s, e2, h⟩, _⟩ := (rb_set (w := { W with heap := #[] }) (c := c) (p := p) hx (Nat.zero_le _) hI (sep_box hI hx) ⟨rfl, rfl, rfl, Nat.zero_le _, fun k hk => absurd hk (Nat.not_lt_zero _)⟩).2
  cases e
  cases e2
  exact h
theorem box_lay {W : World} {a : Option Addr} {m k : Nat} {c : Int} {p : ByteArray} {is : List It} (hI : ItR W (.slice a m k) is) {B : Nat} (hB : B ≤ W.heap.size) :
    ∃ W9, W.alloc (Obj.cells #[.slice a m k, .int .i64 c, .string p] 33) = W9 ∧ W9.heap[W.heap.size]? = some (Obj.cells #[.slice a m k, .int .i64 c, .string p] 33) ∧ ItR W9 (.slice a m k) is ∧ Below B W W9 :=
  ⟨_, rfl, heap_alloc_new W _, hI.later ((Below.refl W.heap.size W).alloc (Nat.le_refl _) _) (Nat.le_refl _), (Below.refl B W).alloc hB _⟩

set_option maxHeartbeats 8000000 in
theorem walk (a0 : Option Addr) (len0 cap0 : Nat) (z0 : List Rule) (a1 : Option Addr) (len1 cap1 : Nat) (b : Bf) (a2 : Int) (w : World) (w0 : RowR w (.slice a0 len0 cap0) z0) (w1 : ItR w (.slice a1 len1 cap1) b.is) (n1 : (Lit.int .i64 b.c).wf = true) (w2 : (Lit.int .u8 a2).wf = true) (u0 : ∀ r ∈ z0, Short r) (u1 : Sh b) :
    Calls Tryz.prog 3 #[.slice a0 len0 cap0, .agg #[.slice a1 len1 cap1, .int .i64 b.c, .string b.p], .int .u8 a2] w fun e w' => e = .returned (.bool true) ∧ Below w.heap.size w w' := by
  have hc0 : 0 ≤ a2 ∧ a2 ≤ 255 := by
    have h1 : IntKind.u8.min = 0 := rfl
    have h2 : IntKind.u8.max = 255 := rfl
    simp [Lit.wf, h1, h2] at w2
    exact w2
  obtain ⟨k, hk⟩ : ∃ k : UInt8, a2 = k.toNat := ⟨UInt8.ofNat a2.toNat, by rw [toNat_ofNat _ (by omega)]; omega⟩
  subst hk
  clear w2 hc0
  have HWK := Lib.hid works_any
  have hT : Hid (∀ W, Below w.heap.size w W → Calls Tryz.prog 7 #[] W fun e w' => e = .returned (.bool true) ∧ Below w.heap.size w w') := Lib.hid fun W h => (HWK.out W).mono fun e w' ⟨h1, h2⟩ => ⟨h1, h.trans (h2.mono h.size)⟩
  by_cases hc : checkL z0 = 0
  rotate_left
  · have HN := Lib.hid (fun (o : Obj) => cnew_no (w0.later ((Below.refl w.heap.size w).alloc (Nat.le_refl _) o) (Nat.le_refl _)) u0 hc)
    have hne : (checkL z0 != 0) = true := by simpa using hc
    generalize checkL z0 = E at HN hne
    clear w0 w1 u0 u1 hc
    go_enter Tryz.func3, Tryz.ntmps3
    go_wp2_with (first
      | (go_at_call 6; (with_reducible refine (HN.out _).mono ?_); rintro e w2 ⟨rfl, hb⟩; have hB := ((Below.refl w.heap.size w).alloc (Nat.le_refl _) (Obj.cells #[.slice a1 len1 cap1, .int .i64 b.c, .string b.p] 25)).trans (hb.mono (by simp)))
      | (go_at_call 7; (with_reducible refine (hT.out _ hB).mono ?_); rintro e w3 ⟨rfl, hB3⟩))
    go_ret
    exact ⟨rfl, hB3⟩
  obtain ⟨h500, hok⟩ := ok_of_check hc
  have hn : b.is.length ≤ 1000000000 := by have := u1.2.2; omega
  have hks := keyB_sh hok u1 k
  have HN := Lib.hid (fun (o : Obj) => cnew_yes (w0.later ((Below.refl w.heap.size w).alloc (Nat.le_refl _) o) (Nat.le_refl _)) u0 hc)
  have HG := Lib.hid (fun (W : World) (h : Below w.heap.size w W) => gvn8_any b (.slice a1 len1 cap1) W (w1.later h (Nat.le_refl _)) hn)
  have HKY := Lib.hid (fun (Q q0 : Nat) (W : World) (h1 : AutoAt Q W q0 z0) (h2 : Q ≤ W.heap.size) (h3 : Below w.heap.size w W) => insertkey_any hok Q q0 b k (.agg #[.slice a1 len1 cap1, .int .i64 b.c, .string b.p]) W h1 h2 ⟨_, rfl, w1.later h3 (Nat.le_refl _)⟩ u1)
  have HRU : Hid (∀ (W : World), Below w.heap.size w W → Calls Tryz.prog 11 #[.slice a0 len0 cap0] W fun e w' => ∃ v', e = .returned v' ∧ RowR w' v' z0 ∧ Below W.heap.size W w') := Lib.hid fun W hW => (rul8_any _ z0 W (w0.later hW (Nat.le_refl _)) (by omega)).mono fun e w' ⟨v', he, hown, hb⟩ => ⟨v', he, (row_of_own hown).1, hb⟩
  have HRK : Hid (∀ (lv s : Value) (W : World), RowR W lv z0 → ItR W s b.is → Calls Tryz.prog 10 #[lv, .agg #[s, .int .i64 b.c, .string b.p], .int .u8 k.toNat] W fun e w' => ∃ a m c, e = .returned (.tuple #[.agg #[.slice a m c, .int .i64 (keyB z0 b k).1.c, .string (keyB z0 b k).1.p], .int .i64 (keyB z0 b k).2]) ∧ ItR w' (.slice a m c) (keyB z0 b k).1.is ∧ Below W.heap.size W w') := Lib.hid fun lv s W h1 h2 => by
    refine (rkey_any hok u0 b k lv (.agg #[s, .int .i64 b.c, .string b.p]) W h1 ⟨_, rfl, h2⟩ u1).mono ?_
    rintro e w' ⟨v, rfl, hR, hb⟩
    obtain ⟨a, m, c, rfl, hI⟩ := hR.open
    exact ⟨a, m, c, rfl, hI, hb⟩
  have HS0 : Hid (∀ (s s2 : Value) (W : World), ItR W s b.is → ItR W s2 b.is → Calls Tryz.prog 12 #[.agg #[s, .int .i64 b.c, .string b.p], .agg #[s2, .int .i64 b.c, .string b.p]] W fun e w' => e = .returned (.bool true) ∧ Below W.heap.size W w') := Lib.hid (fun s s2 W h h2 => by
    have := sam8_any b b (.agg #[s, .int .i64 b.c, .string b.p]) (.agg #[s2, .int .i64 b.c, .string b.p]) W ⟨_, rfl, h⟩ ⟨_, rfl, h2⟩ hn
    rwa [decide_eq_true rfl] at this)
  have HS1 := Lib.hid (fun (s s2 : Value) (W : World) (h : ItR W s (keyB z0 b k).1.is) (h2 : ItR W s2 (keyB z0 b k).1.is) => sam8_any (keyB z0 b k).1 (keyB z0 b k).1 (.agg #[s, .int .i64 (keyB z0 b k).1.c, .string (keyB z0 b k).1.p]) (.agg #[s2, .int .i64 (keyB z0 b k).1.c, .string (keyB z0 b k).1.p]) W ⟨_, rfl, h⟩ ⟨_, rfl, h2⟩ (by have := hks.2.2; omega))
  simp only [decide_true] at HS1
  have HI := Lib.hid (fun (W : World) (h : Below w.heap.size w W) => w1.later h (Nat.le_refl _))
  unfold NewBE at HKY
  generalize keyB z0 b k = X at HKY HRK HS1
  obtain ⟨⟨xi, xc, xp⟩, x⟩ := X
  clear w0 w1 u0 u1 hc hks hn
  obtain ⟨is, c, p⟩ := b
  simp only at *
  go_enter Tryz.func3, Tryz.ntmps3
  go_wp2_with (first
    | (go_at_call 6
       (with_reducible refine (HN.out _).mono ?_)
       rintro e w2 ⟨q, rfl, hA, hb⟩
       have hB := ((Below.refl w.heap.size w).alloc (Nat.le_refl _) (Obj.cells #[.slice a1 len1 cap1, .int .i64 c, .string p] 25)).trans (hb.mono (by simp))
       have y4 := box_later (heap_alloc_new w (Obj.cells #[.slice a1 len1 cap1, .int .i64 c, .string p] 25)) hb (by simp)
       have hs2 := hb.size
       simp at hs2
       obtain ⟨b0, b1, b2, _⟩ := box_facts y4
       have HA := Lib.hid (fun (W : World) (h : Below w2.heap.size w2 W) => hA.later h (Nat.le_refl _))
       clear hb hA)
    | (go_at_call 8
       (with_reducible refine (HG.out _ hB).mono ?_)
       rintro e w3 ⟨v3, rfl, ho3, hb⟩
       have hI3 := (items_of_own ho3).1
       obtain ⟨a3, m3, k3, rfl⟩ := slice_of_own ho3
       have hs3 := hb.size
       have hbA := (Below.refl w3.heap.size w3).alloc (Nat.le_refl _) (Obj.cells #[.slice a3 m3 k3, .int .i64 c, .string p] 33)
       have y9 := heap_alloc_new w3 (Obj.cells #[.slice a3 m3 k3, .int .i64 c, .string p] 33)
       have HI3 := Lib.hid (hI3.later hbA (Nat.le_refl _))
       replace y4 := box_later (box_later y4 hb (by omega)) hbA (by omega)
       replace hB := (hB.trans (hb.mono (by omega))).trans (hbA.mono (by omega))
       have HA3 := Lib.hid (hb.trans (hbA.mono hb.size))
       clear b0 b1 b2 hb ho3 hI3 hbA
       obtain ⟨b0, b1, b2, _⟩ := box_facts y4)
    | (go_at_call 9
       refine calls_alloc fun W3 hW => ?_
       obtain ⟨_, hsW, _⟩ := box_new hW
       have HI3b := HI3.out
       have HA3b := HA3.out
       rw [hW] at y4 y9 hB HI3b HA3b
       clear hW HI3 HA3 b0 b1 b2
       (with_reducible refine (HKY.out _ _ _ (HA.out _ HA3b) (HA3b.size) hB).mono ?_)
       rintro e w4 ⟨a4, m4, k4, rfl, ho4, hb⟩
       have hs4 := hb.size
       have hbA := (Below.refl w4.heap.size w4).alloc (Nat.le_refl _) (Obj.cells #[.slice a4 m4 k4, .int .i64 xc, .string xp] 25)
       obtain ⟨d0, d1, d2, _⟩ := box_facts (heap_alloc_new w4 (Obj.cells #[.slice a4 m4 k4, .int .i64 xc, .string xp] 25))
       have HI4 := (items_of_own ho4).1.later hbA (Nat.le_refl _)
       replace HI3b := (HI3b.later hb (Nat.le_refl _)).later hbA (Nat.le_refl _)
       replace y4 := box_later (box_later y4 hb (by omega)) hbA (by omega)
       replace y9 := box_later (box_later y9 hb (by omega)) hbA (by omega)
       replace hB := (hB.trans (hb.mono (by omega))).trans (hbA.mono (by omega))
       clear hb ho4 hbA HA HA3b
       obtain ⟨b0, b1, b2, _⟩ := box_facts y4
       obtain ⟨f0, f1, f2, _⟩ := box_facts y9))
  obtain ⟨W4, hW4⟩ : ∃ W, w4.alloc (Obj.cells #[.slice a4 m4 k4, .int .i64 xc, .string xp] 25) = W := ⟨_, rfl⟩
  rw [hW4] at b0 b1 b2 f0 f1 f2 d0 d1 d2 HI3b HI4 hB
  rw [hW4]
  obtain ⟨_, hs5, _⟩ := box_new hW4
  have HH := Lib.hid (fun (W : World) => held_later (w' := W) ⟨b0, b1, b2, f0, f1, f2, d0, d1, d2⟩ (by omega) (by omega) (by omega))
  have HI3c := Lib.hid HI3b
  have HI4c := Lib.hid HI4
  have HB4 := Lib.hid hB
  clear y4 y9 hW4 HI3b HI4 hB hs5
  go_region_held3 (fun w' => w'.cell? ⟨w.heap.size, 0, none⟩ = some (.slice a1 len1 cap1) ∧ w'.cell? ⟨w.heap.size, 1, none⟩ = some (.int .i64 c) ∧ w'.cell? ⟨w.heap.size, 2, none⟩ = some (.string p) ∧ w'.cell? ⟨w3.heap.size, 0, none⟩ = some (.slice a3 m3 k3) ∧ w'.cell? ⟨w3.heap.size, 1, none⟩ = some (.int .i64 c) ∧ w'.cell? ⟨w3.heap.size, 2, none⟩ = some (.string p) ∧ w'.cell? ⟨w4.heap.size, 0, none⟩ = some (.slice a4 m4 k4) ∧ w'.cell? ⟨w4.heap.size, 1, none⟩ = some (.int .i64 xc) ∧ w'.cell? ⟨w4.heap.size, 2, none⟩ = some (.string xp) ∧ Below W4.heap.size W4 w' ∧ W4.heap.size ≤ w'.heap.size)
    (first
     | exact HH.out _ ((Below.refl _ _).drew)
     | (go_split_ands; exact HH.out _ (Below.trans (by assumption) (hb.mono (by assumption))))
     | (go_split_ands; exact HH.out _ (Below.alloc (by assumption) (by assumption) _))
     | exact HH.out _ (Below.alloc HB7.out HB7.out.size _)
     | exact HH.out _ (Below.setCell (Below.setCell (Below.setCell HB7.out (by first | assumption | (simp; done) | (simp; omega)) _) (by first | assumption | (simp; done) | (simp; omega)) _) (by first | assumption | (simp; done) | (simp; omega)) _)
     | (go_split_ands; exact HH.out _ (Below.setCell (Below.setCell (Below.setCell (by assumption) (by first | assumption | (simp; done) | (simp; omega)) _) (by first | assumption | (simp; done) | (simp; omega)) _) (by first | assumption | (simp; done) | (simp; omega)) _)))
    (first
      | (go_at_call 11; go_split_ands; (with_reducible refine (HRU.out _ (HB4.out.trans (Below.mono (by assumption) (HB4.out.size)))).mono ?_); rintro e w5 ⟨v5, rfl, hR5, hb⟩; have HR5 := Lib.hid hR5; clear hR5
         have hz5 := Below.size (Below.trans (by assumption) (hb.mono (by assumption)) : Below W4.heap.size W4 w5)
         try (have hN : w5.heap[W4.heap.size]? = some zeroQ := new_drew hb))
      | (go_at_call 10; go_split_ands
         first
           | (with_reducible refine (HRK.out _ _ _ HR5.out (HI3c.out.later (by assumption) (Nat.le_refl _))).mono ?_)
           | (with_reducible refine (HRK.out _ _ _ (HR5.out.later ((Below.refl _ _).alloc (Nat.le_refl _) zeroQ) (Nat.le_refl _)) (HI3c.out.later (by assumption) (Nat.le_refl _))).mono ?_)
         rintro e w7 ⟨a7, m7, k7, rfl, hI7, hb⟩
         have HI7 := Lib.hid hI7
         clear hI7
         try (have hN7 : w7.heap[W4.heap.size]? = some zeroQ := box_later hN hb (box_lt hN); obtain ⟨n0, n1, n2, n3⟩ := box_facts hN7; have m0 := n3 0; have m1 := n3 1; have m2 := n3 2)
         try (have hN7 : w7.heap[w5.heap.size]? = some zeroQ := new_plain hb; obtain ⟨n0, n1, n2, n3⟩ := box_facts hN7; have m0 := n3 0; have m1 := n3 1; have m2 := n3 2)
         have HB7 := Lib.hid (Below.trans (by assumption) (hb.mono (by assumption)) : Below W4.heap.size W4 w7)
         have hz7 := HB7.out.size))
  all_goals
    first
      | (obtain ⟨W9, hW9, hx9, hI9, hb9⟩ := box_lay (W := w7) (c := xc) (p := xp) HI7.out (Nat.le_trans HB7.out.size (Nat.le_refl _)); rw [hW9])
      | (obtain ⟨W9, hW9, hx9, hI9, hb9⟩ := box_put (W := w7) (g := W4.heap.size) (c := xc) (p := xp) hN7 HI7.out (B := W4.heap.size) (by first | assumption | omega); rw [hW9])
      | (obtain ⟨W9, hW9, hx9, hI9, hb9⟩ := box_put (W := w7) (g := w5.heap.size) (c := xc) (p := xp) hN7 HI7.out (B := W4.heap.size) (by first | assumption | omega); rw [hW9])
    have hB9 := HB7.out.trans hb9
    have hh := HH.out _ hB9
    obtain ⟨e0, e1, e2, e3, e4, e5, e6, e7, e8, _, hz9⟩ := hh
    obtain ⟨g0, g1, g2, _⟩ := box_facts hx9
    have HI9 := Lib.hid hI9
    have HB9 := Lib.hid hB9
    clear hW9 hI9 hB9 hx9 hb9
    go_wp2_with (first
      | (go_at_call 12
         (with_reducible refine (HS1.out _ _ _ (HI4c.out.later HB9.out (Nat.le_refl _)) HI9.out).mono ?_)
         rintro e w10 ⟨rfl, hb⟩
         have HB10 := Lib.hid (HB9.out.trans (hb.mono hz9))
         have hz10 := Nat.le_trans hz9 hb.size
         have hh := HH.out _ HB10.out
         clear e0 e1 e2 e3 e4 e5 e6 e7 e8 g0 g1 g2 hb
         obtain ⟨e0, e1, e2, e3, e4, e5, e6, e7, e8, _, _⟩ := hh)
      | (go_at_call 12
         (with_reducible refine (HS0.out _ _ _ (HI.out _ (HB4.out.trans (HB10.out.mono HB4.out.size))) (HI3c.out.later HB10.out (Nat.le_refl _))).mono ?_)
         rintro e w11 ⟨rfl, hb⟩
         have HB11 := Lib.hid (HB10.out.trans (hb.mono hz10))
         clear hb)
      | (go_at_call 7; (with_reducible refine (hT.out _ (HB4.out.trans (HB11.out.mono HB4.out.size))).mono ?_); rintro e w12 ⟨rfl, hB12⟩))
    go_ret
    exact ⟨rfl, hB12⟩
theorem own : ownKnob Tryz.prog.godebug = none := by kernel_rfl
theorem laidOut : laidOutB Tryz.prog = true := by kernel_rfl

/-- What the bound gives: a text's length. -/
theorem part_short {H : Type} {s : ByteArray} {l : List (DataW H)} (hk : Rows.uptoSmall H l = true) (hm : DataW.lit (.string s.data.toList) ∈ l) : s.size ≤ 1048576 := by
  obtain ⟨B, hB⟩ : ∃ B : Nat, B = 1048576 := ⟨_, rfl⟩
  have h : Rows.uptoBulkAll l ≤ B := by rw [hB]; exact of_decide_eq_true hk
  rw [← hB]
  clear hB hk
  have e : s.data.toList.length = s.size := by rw [Array.length_toList]; rfl
  induction l with
  | nil => cases hm
  | cons x r ih =>
    simp only [Rows.uptoBulkAll] at h
    rcases List.mem_cons.1 hm with rfl | hr
    · simp only [Rows.uptoBulk] at h; omega
    · exact ih hr (by omega)

theorem part_bulk {H : Type} {d : DataW H} {l : List (DataW H)} (hk : Rows.uptoSmall H l = true) (hm : d ∈ l) : Rows.uptoBulk d ≤ 1048576 := by
  obtain ⟨B, hB⟩ : ∃ B : Nat, B = 1048576 := ⟨_, rfl⟩
  have h : Rows.uptoBulkAll l ≤ B := by rw [hB]; exact of_decide_eq_true hk
  rw [← hB]
  exact Nat.le_trans (bulk_mem hm) h

set_option maxRecDepth 100000 in
theorem contract (H : Type) (enc : TypeId × Value → H) (W : World) (base : Nat) (args : Array Value) (ds gs : List (DataW H)) (before : List MemPlace)
    (hval0 : ∀ (j : Nat) t v, Tryz.f3.params[j]? = some t → args[j]? = some v → Value.okWide Tryz.prog W .any base t v)
    (hW : DataW.Whole enc Tryz.prog Tryz.f3.params.toList Rows.composeInsertsSpec.vars false W args.toList ds gs before) (hk : Rows.uptoSmall H (ds ++ gs) = true) (hsh : W.ShapedOpen Tryz.prog) :
    Calls Tryz.prog 3 args W fun e W' => ∃ v, e = .returned v ∧ Rows.composeInsertsSpec.post enc Tryz.prog Tryz.f3 false true false false W args v W' := by
  have hval : ∀ (j : Nat) t v, Tryz.f3.params[j]? = some t → args[j]? = some v → Value.okWide Tryz.prog W .any base t v := hval0
  have hW' := hW
  obtain ⟨p, q, hA0, hV, rfl, hfz, hnd⟩ := hW
  have hA : DataW.TrodAll enc Tryz.prog W 0 (fun _ => true) true Tryz.f3.params.toList args.toList ds p := hA0
  rw [Tryz.params3] at hA hval
  obtain ⟨v0, vs0, d0, ds0, p0, q0, hargs, rfl, rfl, h0, r0⟩ := trodAll_cons hA
  obtain ⟨v1, vs1, d1, ds1, p1, q1, rfl, rfl, rfl, h1, r1⟩ := trodAll_cons r0
  obtain ⟨v2, vs2, d2, ds2, p2, q2, rfl, rfl, rfl, h2, r2⟩ := trodAll_cons r1
  obtain ⟨rfl, rfl, rfl⟩ := trodAll_nil r2
  obtain rfl : args = #[v0, v1, v2] := by cases args; simp_all
  obtain ⟨rfl, rfl⟩ := trodVars_none hV
  obtain ⟨a0, len0, cap0, rfl⟩ := okWide_slice Tryz.underlying22 (hval 0 22 v0 rfl rfl)
  have k0 := h0
  have lt0 : ∀ x ∈ p0, x.block < W.heap.size := by obtain ⟨m, hm⟩ := k0; exact DataW.trod_lt m _ _ _ hm
  obtain ⟨z0, w0, bk0⟩ : ∃ rs, RowR W (.slice a0 len0 cap0) rs ∧ (Rows.uptoBulk d0 ≤ 1048576 → ∀ r ∈ rs, Short r) := by
    obtain ⟨fuel, hf⟩ := h0
    exact rules_bulk hf
  obtain ⟨cs1, rfl, hcs1⟩ := okWide_struct Tryz.underlying25 (hval 1 25 v1 rfl rfl)
  have k1 := h1
  have lt1 : ∀ x ∈ p1, x.block < W.heap.size := by obtain ⟨m, hm⟩ := k1; exact DataW.trod_lt m _ _ _ hm
  obtain ⟨a1, len1, cap1, z1, rfl, w1, n1, bk1⟩ := buf_open hcs1 h1
  obtain ⟨a2, rfl, rfl, rfl, w2⟩ := open_int Tryz.underlying5 (hval 2 5 v2 rfl rfl) h2
  clear hA0 hval0
  simp only [List.append_nil] at hk
  have u0 := bk0 (part_bulk hk (.head _))
  have u1 := bk1 (part_bulk hk (.tail _ (.head _)))
  refine (walk a0 len0 cap0 z0 a1 len1 cap1 z1 a2 W w0 w1 n1 w2 u0 u1).mono fun e W' ⟨he, bel⟩ => ?_
  subst he
  exact ⟨_, rfl, _, _, _, [], _, [], hW', trodAll_mk1 (shut_bool Tryz.underlying4 _), (trodAll_cons_mk (Below.trod laidOut (by kernel_rfl) (of_decide_eq_true (by kernel_rfl)) k0 bel lt0) (trodAll_cons_mk (Below.trod laidOut (by kernel_rfl) (of_decide_eq_true (by kernel_rfl)) k1 bel lt1) (trodAll_cons_mk (shut_int Tryz.underlying5 w2) trodAll_mk0))), rfl, bel.frame _, fun h => by cases h⟩

/-- THAT THERE IS AN INPUT THAT FITS, out of a world that is laid whole. -/
theorem witness_row_shaped {H : Type} {enc : TypeId × Value → H} {C : Checked} {os : Os} {f : FuncId} {fn : Func} {s : OpenSpec} {conds : List PathCond} {apart : Bool} {laid : List (String × DataW Unit)} (modest : Bool) (w0 : World) (args : Array Value) (hos : w0.os = os)
    (hsh : (w0.forCall (fun _ _ => 0) ⟨#[], args, []⟩).Shaped C.prog)
    (hok : Input.okWideB C.prog (w0.forCall (fun _ _ => 0) ⟨#[], args, []⟩) f ⟨#[], args, []⟩ = true)
    (hrow : s.preRow enc C.prog fn conds apart laid (w0.forCall (fun _ _ => 0) ⟨#[], args, []⟩).memory args) :
    ∃ (w : World) (tape : Tape) (i : Input), w.os = os ∧ (w.forCall tape i).Shaped C.prog ∧ i.vars = [] ∧ Input.okWide C.prog (w.forCall tape i) .any w.heap.size f i ∧
      s.preRow enc C.prog fn conds apart laid (w.forCall tape i).memory i.args ∧ ({ modest := modest } : Assume).holds C.prog (lone (Frame.enter C.prog f i.args .normal) [] (w.forCall tape i)) :=
  ⟨w0, fun _ _ => 0, ⟨#[], args, []⟩, hos, hsh, (Input.okWide_of_okWideB (base := 0) hok).1, (Input.okWide_of_okWideB hok).2, hrow, by
    simp only [Assume.holds]
    exact ⟨by simp, by simp, fun _ => Modest.zero, by simp, by simp⟩⟩

set_option maxRecDepth 100000 in
theorem lifted (os : Os) (started : os.Started) (H : Type) (enc : TypeId × Value → H) (F : Stop.Interp) :
    ReturnsInHanded {} Tryz.checked os 3 .any ((Rows.OpenSpec.upto Rows.composeInsertsSpec).preRow enc Tryz.prog Tryz.f3 Rows.composeInsertsUptoRow.domain false Rows.composeInsertsUptoRow.laid) (((Rows.OpenSpec.upto Rows.composeInsertsSpec).at F).post enc Tryz.prog Tryz.f3 false true false false) := by
  refine returnsInHanded_of_row (C := Tryz.checked) (s := Rows.OpenSpec.upto Rows.composeInsertsSpec) own started (by kernel_rfl) Tryz.func3
    (witness_row_shaped (enc := enc) (C := Tryz.checked) (os := os) false (World.laidAll Tryz.prog os Rows.composeInsertsUptoRow.laid) #[.slice none 0 0, .agg #[.slice none 0 0, .int .i64 0, .string ByteArray.empty], .int .u8 0] (World.laidAll_os _ _ _)
      (World.shaped_of_ZipB (by kernel_rfl) (by kernel_rfl)) (by kernel_rfl)
      (OpenSpec.preRow_of_cond 8 (x := ([.nil, .agg [.nil, .lit (.int .i64 0), .lit (.string [])], .lit (.int .u8 0)], [], [])) (by kernel_rfl) (by kernel_rfl) (fun k hk => by cases hk; kernel_rfl) (by kernel_rfl)
        (by rw [MakeChecks.laidMetH_plain _ _ _ (by kernel_rfl)]; exact laidMet_laidAll _ (by kernel_rfl) (by kernel_rfl)))) ?_
  intro W base args ds gs before hval hW _ hcond _ hL hsh _
  exact contract H enc W base args ds gs before hval hW (hcond _ rfl) hsh

theorem over : Rows.composeInsertsUptoRow.holds Tryz.pinned (Rows.OpenSpec.upto Rows.composeInsertsSpec) :=
  OpenClaim.holds_of_cond 3 Tryz.f3 rfl rfl rfl rfl rfl rfl rfl ⟨rfl, rfl, rfl, rfl, rfl⟩ rfl rfl rfl rfl rfl (by kernel_rfl) Tryz.func3 (by kernel_rfl)
    (of_decide_eq_true (by kernel_rfl)) (by unfold Func.isWrapper; first | (rw [if_pos (by decide +kernel)]; kernel_rfl) | (rw [if_neg (by decide +kernel)]; exact ⟨rfl, rfl⟩))
    (fun os started H enc _ F => by rw [OpenClaim.pre_eq_preRow]; exact lifted os started H enc F)

theorem proved : Rows.ComposeInsertsUptoSaid := over
end Go.Proofs.YtamdlbefiggkfaaGreat.composeInserts
