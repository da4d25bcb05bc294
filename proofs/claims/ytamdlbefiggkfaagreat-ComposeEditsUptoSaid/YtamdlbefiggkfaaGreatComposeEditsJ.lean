/-
  A buffer is edited as the reference edits it.
-/
import Derived.Test.YtamdlbefiggkfaaGreatM14
import Derived.Test.YtamdlbefiggkfaaGreatM15
import Derived.Test.YtamdlbefiggkfaaGreatM17
import Derived.BigRegion
import Derived.OpenShut
import Derived.ShutString
import Derived.ChangeOld
import Derived.HandedShaped
import Derived.LaidMore
import Derived.Lay
import Derived.SizedLaws
import Derived.Deep.DeepHandedRow
set_option linter.unusedVariables false
set_option linter.unusedSimpArgs false
set_option maxRecDepth 100000
namespace Go.Proofs.YtamdlbefiggkfaaGreat.composeEdits
open Go Go.RowKit Go.ChangeShapes Go.WideShapes Go.ChangeAt Go.Proofs.YtamdlbefiggkfaaGreat Go.Proofs.YtamdlbefiggkfaaGreat.Kit Go.Proofs.YtamdlbefiggkfaaGreat.Utf Go.Proofs.YtamdlbefiggkfaaGreat.Rom Go.Proofs.YtamdlbefiggkfaaGreat.Aut Go.Proofs.YtamdlbefiggkfaaGreat.Cmp
open Go.ChangeMaps (open_string shut_string)
theorem held4 {w w' : World} {x0 x1 x2 x3 : Nat} {t0 u0 r0 t1 u1 r1 t2 u2 r2 t3 u3 r3 : Value}
    (h : w.cell? ⟨x0, 0, none⟩ = some t0 ∧ w.cell? ⟨x0, 1, none⟩ = some u0 ∧ w.cell? ⟨x0, 2, none⟩ = some r0 ∧ w.cell? ⟨x1, 0, none⟩ = some t1 ∧ w.cell? ⟨x1, 1, none⟩ = some u1 ∧ w.cell? ⟨x1, 2, none⟩ = some r1 ∧ w.cell? ⟨x2, 0, none⟩ = some t2 ∧ w.cell? ⟨x2, 1, none⟩ = some u2 ∧ w.cell? ⟨x2, 2, none⟩ = some r2 ∧ w.cell? ⟨x3, 0, none⟩ = some t3 ∧ w.cell? ⟨x3, 1, none⟩ = some u3 ∧ w.cell? ⟨x3, 2, none⟩ = some r3)
    (h0 : x0 < w.heap.size) (h1 : x1 < w.heap.size) (h2 : x2 < w.heap.size) (h3 : x3 < w.heap.size) (hb : Below w.heap.size w w') :
    w'.cell? ⟨x0, 0, none⟩ = some t0 ∧ w'.cell? ⟨x0, 1, none⟩ = some u0 ∧ w'.cell? ⟨x0, 2, none⟩ = some r0 ∧ w'.cell? ⟨x1, 0, none⟩ = some t1 ∧ w'.cell? ⟨x1, 1, none⟩ = some u1 ∧ w'.cell? ⟨x1, 2, none⟩ = some r1 ∧ w'.cell? ⟨x2, 0, none⟩ = some t2 ∧ w'.cell? ⟨x2, 1, none⟩ = some u2 ∧ w'.cell? ⟨x2, 2, none⟩ = some r2 ∧ w'.cell? ⟨x3, 0, none⟩ = some t3 ∧ w'.cell? ⟨x3, 1, none⟩ = some u3 ∧ w'.cell? ⟨x3, 2, none⟩ = some r3 ∧ Below w.heap.size w w' ∧ w.heap.size ≤ w'.heap.size := by
  obtain ⟨a1, a2, a3, a4, a5, a6, a7, a8, a9, a10, a11, a12⟩ := h
  refine ⟨?_, ?_, ?_, ?_, ?_, ?_, ?_, ?_, ?_, ?_, ?_, ?_, hb, hb.size⟩
  all_goals
    rw [hb.cell (by simp; omega)]
    assumption
/-- What a call hands back that gives a buffer. -/
def Gives (b : Bf) (w : World) (e : Ending) (w' : World) : Prop := ∃ a m k, e = .returned (.agg #[.slice a m k, .int .i64 b.c, .string b.p]) ∧ ItR w' (.slice a m k) b.is ∧ Below w.heap.size w w'
theorem gives_new {b : Bf} {w : World} {e : Ending} {w' : World} (h : NewB b w e w') : Gives b w e w' := by
  obtain ⟨a, m, k, rfl, ho, hb⟩ := h
  exact ⟨a, m, k, rfl, (items_of_own ho).1, hb⟩
theorem gives_rb {b : Bf} {w : World} {e : Ending} {w' : World} (h : RB b w e w') : Gives b w e w' := by
  obtain ⟨v, rfl, hR, hb⟩ := h
  obtain ⟨a, m, c, rfl, hI⟩ := hR.open
  exact ⟨a, m, c, rfl, hI, hb⟩
def GivesE (r : Bf × Int) (w : World) (e : Ending) (w' : World) : Prop := ∃ a m k, e = .returned (.tuple #[.agg #[.slice a m k, .int .i64 r.1.c, .string r.1.p], .int .i64 r.2]) ∧ ItR w' (.slice a m k) r.1.is ∧ Below w.heap.size w w'
theorem gives_rbe {r : Bf × Int} {w : World} {e : Ending} {w' : World} (h : RBE r w e w') : GivesE r w e w' := by
  obtain ⟨v, rfl, hR, hb⟩ := h
  obtain ⟨a, m, c, rfl, hI⟩ := hR.open
  exact ⟨a, m, c, rfl, hI, hb⟩
theorem same_gives (Y : Bf) (hn : Sh Y) (s s2 : Value) (W : World) (h : ItR W s Y.is) (h2 : ItR W s2 Y.is) :
    Calls Tryz.prog 12 #[.agg #[s, .int .i64 Y.c, .string Y.p], .agg #[s2, .int .i64 Y.c, .string Y.p]] W fun e w' => e = .returned (.bool true) ∧ Below W.heap.size W w' := by
  have := sam8_any Y Y (.agg #[s, .int .i64 Y.c, .string Y.p]) (.agg #[s2, .int .i64 Y.c, .string Y.p]) W ⟨_, rfl, h⟩ ⟨_, rfl, h2⟩ (by have := hn.2.2; omega)
  rwa [decide_eq_true rfl] at this
theorem flu_sh {b : Bf} (h : Sh b) (F : By) : Sh (fluB b F) := by
  unfold fluB
  split
  · rename_i hv
    refine insB_sh h (itemsL_short h.2.1 fun c hc => chs_valid F c (List.mem_of_mem_take hc)) ?_ (Nat.zero_le _)
    rw [itemsL_len, List.length_take]
    have := (val_parts hv).1
    omega
  · exact h

set_option maxHeartbeats 8000000 in
theorem walk (a0 : Option Addr) (len0 cap0 : Nat) (z0 : List Rule) (a1 : Option Addr) (len1 cap1 : Nat) (b : Bf) (a2 a3 : ByteArray) (a4 : Int) (w : World) (w0 : RowR w (.slice a0 len0 cap0) z0) (w1 : ItR w (.slice a1 len1 cap1) b.is) (n1 : (Lit.int .i64 b.c).wf = true) (w2 : a2.size ≤ maxLen) (w3 : a3.size ≤ maxLen) (w4 : (Lit.int .i64 a4).wf = true) (u0 : ∀ r ∈ z0, Short r) (u1 : Sh b) (u2 : a2.size ≤ 1048576) (u3 : a3.size ≤ 1048576) :
    Calls Tryz.prog 4 #[.slice a0 len0 cap0, .agg #[.slice a1 len1 cap1, .int .i64 b.c, .string b.p], .string a2, .string a3, .int .i64 a4] w fun e w' => e = .returned (.bool true) ∧ Below w.heap.size w w' := by
  have HWK := Lib.hid works_any
  have hT : Hid (∀ W, Below w.heap.size w W → Calls Tryz.prog 7 #[] W fun e w' => e = .returned (.bool true) ∧ Below w.heap.size w w') := Lib.hid fun W h => (HWK.out W).mono fun e w' ⟨h1, h2⟩ => ⟨h1, h.trans (h2.mono h.size)⟩
  by_cases hc : checkL z0 = 0
  rotate_left
  · have HN := Lib.hid (fun (o : Obj) => cnew_no (w0.later ((Below.refl w.heap.size w).alloc (Nat.le_refl _) o) (Nat.le_refl _)) u0 hc)
    have hne : (checkL z0 != 0) = true := by simpa using hc
    generalize checkL z0 = E at HN hne
    clear w0 w1 u0 u1 hc
    go_enter Tryz.func4, Tryz.ntmps4
    go_wp2_with (first
      | (go_at_call 6; (with_reducible refine (HN.out _).mono ?_); rintro e w2 ⟨rfl, hb⟩; have hB := ((Below.refl w.heap.size w).alloc (Nat.le_refl _) (Obj.cells #[.slice a1 len1 cap1, .int .i64 b.c, .string b.p] 25)).trans (hb.mono (by simp)))
      | (go_at_call 7; (with_reducible refine (hT.out _ hB).mono ?_); rintro e w3 ⟨rfl, hB3⟩))
    go_ret
    exact ⟨rfl, hB3⟩
  obtain ⟨h500, hok⟩ := ok_of_check hc
  have hn : b.is.length ≤ 1000000000 := by have := u1.2.2; omega
  obtain ⟨F, hF, _⟩ := flushes_total hok _ (bs b.p) (Nat.le_refl _)
  have HN := Lib.hid (fun (o : Obj) => cnew_yes (w0.later ((Below.refl w.heap.size w).alloc (Nat.le_refl _) o) (Nat.le_refl _)) u0 hc)
  have HG := Lib.hid (fun (W : World) (h : Below w.heap.size w W) => gvn8_any b (.slice a1 len1 cap1) W (w1.later h (Nat.le_refl _)) hn)
  have HRU : Hid (∀ (W : World), Below w.heap.size w W → Calls Tryz.prog 11 #[.slice a0 len0 cap0] W fun e w' => ∃ v', e = .returned v' ∧ RowR w' v' z0 ∧ Below W.heap.size W w') := Lib.hid fun W hW => (rul8_any _ z0 W (w0.later hW (Nat.le_refl _)) (by omega)).mono fun e w' ⟨v', he, hown, hb⟩ => ⟨v', he, (row_of_own hown).1, hb⟩
  have HI := Lib.hid (fun (W : World) (h : Below w.heap.size w W) => w1.later h (Nat.le_refl _))
  have HCP := Lib.hid (fun (W : World) (h : Below w.heap.size w W) => put_any b a2 a3 (.agg #[.slice a1 len1 cap1, .int .i64 b.c, .string b.p]) W ⟨_, rfl, HI.out W h⟩ u1 u2 u3)
  have HRP := Lib.hid (fun (s : Value) (W : World) (h : ItR W s b.is) => (rput_any b a2 a3 (.agg #[s, .int .i64 b.c, .string b.p]) W ⟨_, rfl, h⟩ u1 u2 u3).mono fun e w' h => gives_rbe h)
  have HCF := Lib.hid (fun (Q q0 : Nat) (W : World) (h1 : AutoAt Q W q0 z0) (h2 : Q ≤ W.heap.size) (h : Below w.heap.size w W) => (flushbuf_any hok Q q0 b F (.agg #[.slice a1 len1 cap1, .int .i64 b.c, .string b.p]) W h1 h2 ⟨_, rfl, HI.out W h⟩ u1 (fun _ => hF)).mono fun e w' h => gives_new h)
  have HRF := Lib.hid (fun (lv s : Value) (W : World) (h1 : RowR W lv z0) (h : ItR W s b.is) => (rflushbuf_any hok u0 b F lv (.agg #[s, .int .i64 b.c, .string b.p]) W h1 ⟨_, rfl, h⟩ u1 (fun _ => hF)).mono fun e w' h => gives_rb h)
  have HCB := Lib.hid (fun (W : World) (h : Below w.heap.size w W) => (back_buf b (.agg #[.slice a1 len1 cap1, .int .i64 b.c, .string b.p]) W ⟨_, rfl, HI.out W h⟩ u1).mono fun e w' h => gives_new h)
  have HRB := Lib.hid (fun (s : Value) (W : World) (h : ItR W s b.is) => (rback_any b (.agg #[s, .int .i64 b.c, .string b.p]) W ⟨_, rfl, h⟩ u1).mono fun e w' h => gives_rb h)
  have HCD := Lib.hid (fun (W : World) (h : Below w.heap.size w W) => (delete_buf b (.agg #[.slice a1 len1 cap1, .int .i64 b.c, .string b.p]) W ⟨_, rfl, HI.out W h⟩ u1).mono fun e w' h => gives_new h)
  have HRD := Lib.hid (fun (s : Value) (W : World) (h : ItR W s b.is) => (rdelete_any b (.agg #[s, .int .i64 b.c, .string b.p]) W ⟨_, rfl, h⟩ u1).mono fun e w' h => gives_rb h)
  have HCM := Lib.hid (fun (W : World) (h : Below w.heap.size w W) => (move_any b a4 (.agg #[.slice a1 len1 cap1, .int .i64 b.c, .string b.p]) W ⟨_, rfl, HI.out W h⟩ u1 w4).mono fun e w' h => gives_new h)
  have HRM := Lib.hid (fun (s : Value) (W : World) (h : ItR W s b.is) => (rmove_any b a4 (.agg #[s, .int .i64 b.c, .string b.p]) W ⟨_, rfl, h⟩ u1 w4).mono fun e w' h => gives_rb h)
  have HS0 := Lib.hid (same_gives b u1)
  have HS1 := Lib.hid (same_gives (putB b a2 a3).1 (putB_sh u1 u2))
  have HS2 := Lib.hid (same_gives (fluB b F) (flu_sh u1 F))
  have HS3 := Lib.hid (same_gives (bacB b) (bac_sh u1))
  have HS4 := Lib.hid (same_gives (delB b) (del_sh u1))
  have HS5 := Lib.hid (same_gives (movB b a4) (mov_sh u1 a4))
  unfold NewBE at HCP
  unfold GivesE at HRP
  unfold Gives at HCF HRF HCB HRB HCD HRD HCM HRM
  generalize putB b a2 a3 = X at HCP HRP HS1
  generalize fluB b F = Y2 at HCF HRF HS2
  generalize bacB b = Y3 at HCB HRB HS3
  generalize delB b = Y4 at HCD HRD HS4
  generalize movB b a4 = Y5 at HCM HRM HS5
  obtain ⟨⟨xi, xc, xp⟩, x⟩ := X
  obtain ⟨i2, c2, p2⟩ := Y2
  obtain ⟨i3, c3, p3⟩ := Y3
  obtain ⟨i4, c4, p4⟩ := Y4
  obtain ⟨i5, c5, p5⟩ := Y5
  clear w0 w1 w2 w3 u0 u1 u2 u3 hc hn hF
  obtain ⟨is, c, p⟩ := b
  simp only at *
  go_enter Tryz.func4, Tryz.ntmps4
  go_wp2_with (first
    | (go_at_call 6
       (with_reducible refine (HN.out _).mono ?_)
       rintro e w2 ⟨q, rfl, hA, hb⟩
       have hB := ((Below.refl w.heap.size w).alloc (Nat.le_refl _) (Obj.cells #[.slice a1 len1 cap1, .int .i64 c, .string p] 25)).trans (hb.mono (by simp))
       have y4 := box_later (heap_alloc_new w (Obj.cells #[.slice a1 len1 cap1, .int .i64 c, .string p] 25)) hb (by simp)
       have hs2 := hb.size
       simp at hs2
       obtain ⟨b0, b1, b2, _⟩ := box_facts y4
       have HA := Lib.hid (fun (W : World) (h : Below w2.heap.size w2 W) => hA.later h (Nat.le_refl _))
       clear hb hA)
    | (go_at_call 8
       (with_reducible refine (HG.out _ hB).mono ?_)
       rintro e w3 ⟨v3, rfl, ho3, hb⟩
       have hI3 := (items_of_own ho3).1
       obtain ⟨a3, m3, k3, rfl⟩ := slice_of_own ho3
       have hs3 := hb.size
       have hbA := (Below.refl w3.heap.size w3).alloc (Nat.le_refl _) (Obj.cells #[.slice a3 m3 k3, .int .i64 c, .string p] 33)
       have y9 := heap_alloc_new w3 (Obj.cells #[.slice a3 m3 k3, .int .i64 c, .string p] 33)
       have HI3 := Lib.hid (hI3.later hbA (Nat.le_refl _))
       replace y4 := box_later (box_later y4 hb (by omega)) hbA (by omega)
       replace hB := (hB.trans (hb.mono (by omega))).trans (hbA.mono (by omega))
       have HA3 := Lib.hid (hb.trans (hbA.mono hb.size))
       clear b0 b1 b2 hb ho3 hI3 hbA
       obtain ⟨b0, b1, b2, _⟩ := box_facts y4)
    | (go_at_call 13
       refine calls_alloc fun W3 hW => ?_
       obtain ⟨_, hsW, _⟩ := box_new hW
       have HI3b := HI3.out
       have HA3b := HA3.out
       rw [hW] at y4 y9 hB HI3b HA3b
       clear hW HI3 HA3 b0 b1 b2
       (with_reducible refine (HCP.out _ hB).mono ?_)
       rintro e w4 ⟨a4, m4, k4, rfl, ho4, hb⟩
       have hs4 := hb.size
       have hbA := (Below.refl w4.heap.size w4).alloc (Nat.le_refl _) (Obj.cells #[.slice a4 m4 k4, .int .i64 xc, .string xp] 25)
       have y10 := heap_alloc_new w4 (Obj.cells #[.slice a4 m4 k4, .int .i64 xc, .string xp] 25)
       have HI4 := Lib.hid ((items_of_own ho4).1.later hbA (Nat.le_refl _))
       replace HI3b := Lib.hid ((HI3b.later hb (Nat.le_refl _)).later hbA (Nat.le_refl _))
       replace y4 := box_later (box_later y4 hb (by omega)) hbA (by omega)
       replace y9 := box_later (box_later y9 hb (by omega)) hbA (by omega)
       replace hB := (hB.trans (hb.mono (by omega))).trans (hbA.mono (by omega))
       have HA4 := Lib.hid ((HA3b.trans (hb.mono (HA3b.size))).trans (hbA.mono (Nat.le_trans HA3b.size hb.size)))
       clear hb ho4 hbA HA3b
       obtain ⟨b0, b1, b2, _⟩ := box_facts y4
       obtain ⟨f0, f1, f2, _⟩ := box_facts y9)
    | (go_at_call 14
       refine calls_alloc fun W4 hW => ?_
       obtain ⟨_, hsW4, _⟩ := box_new hW
       have HI3c := HI3b.out
       have HI4b := HI4.out
       have HA4b := HA4.out
       rw [hW] at y4 y9 y10 hB HI3c HI4b HA4b
       clear hW HI3b HI4 HA4 b0 b1 b2 f0 f1 f2
       (with_reducible refine (HRP.out _ _ HI3c).mono ?_)
       rintro e w5 ⟨a5, m5, k5, rfl, hI5, hb⟩
       have hs5 := hb.size
       have hbA := (Below.refl w5.heap.size w5).alloc (Nat.le_refl _) (Obj.cells #[.slice a5 m5 k5, .int .i64 xc, .string xp] 33)
       obtain ⟨g0, g1, g2, _⟩ := box_facts (heap_alloc_new w5 (Obj.cells #[.slice a5 m5 k5, .int .i64 xc, .string xp] 33))
       have HI5 := hI5.later hbA (Nat.le_refl _)
       replace HI3c := (HI3c.later hb (Nat.le_refl _)).later hbA (Nat.le_refl _)
       replace HI4b := (HI4b.later hb (Nat.le_refl _)).later hbA (Nat.le_refl _)
       replace y4 := box_later (box_later y4 hb (by omega)) hbA (by omega)
       replace y9 := box_later (box_later y9 hb (by omega)) hbA (by omega)
       replace y10 := box_later (box_later y10 hb (by omega)) hbA (by omega)
       replace hB := (hB.trans (hb.mono (by omega))).trans (hbA.mono (by omega))
       have HA5 := (HA4b.trans (hb.mono (HA4b.size))).trans (hbA.mono (Nat.le_trans HA4b.size hb.size))
       clear hb hI5 hbA HA4b
       obtain ⟨b0, b1, b2, _⟩ := box_facts y4
       obtain ⟨f0, f1, f2, _⟩ := box_facts y9
       obtain ⟨d0, d1, d2, _⟩ := box_facts y10))
  obtain ⟨W5, hW5⟩ : ∃ W, w5.alloc (Obj.cells #[.slice a5 m5 k5, .int .i64 xc, .string xp] 33) = W := ⟨_, rfl⟩
  rw [hW5] at b0 b1 b2 f0 f1 f2 d0 d1 d2 g0 g1 g2 HI3c HI4b HI5 hB HA5
  rw [hW5]
  obtain ⟨_, hs6, _⟩ := box_new hW5
  have HH := Lib.hid (fun (W : World) => held4 (w' := W) ⟨b0, b1, b2, f0, f1, f2, d0, d1, d2, g0, g1, g2⟩ (by omega) (by omega) (by omega) (by omega))
  replace HI3c := Lib.hid HI3c
  replace HI4b := Lib.hid HI4b
  replace HI5 := Lib.hid HI5
  replace HA5 := Lib.hid HA5
  have HB5 := Lib.hid hB
  clear y4 y9 y10 hW5 hB hs6 hs5 hs4 hs3 hs2 hsW hsW4
  go_region_held3 (fun w' => w'.cell? ⟨w.heap.size, 0, none⟩ = some (.slice a1 len1 cap1) ∧ w'.cell? ⟨w.heap.size, 1, none⟩ = some (.int .i64 c) ∧ w'.cell? ⟨w.heap.size, 2, none⟩ = some (.string p) ∧ w'.cell? ⟨w3.heap.size, 0, none⟩ = some (.slice a3 m3 k3) ∧ w'.cell? ⟨w3.heap.size, 1, none⟩ = some (.int .i64 c) ∧ w'.cell? ⟨w3.heap.size, 2, none⟩ = some (.string p) ∧ w'.cell? ⟨w4.heap.size, 0, none⟩ = some (.slice a4 m4 k4) ∧ w'.cell? ⟨w4.heap.size, 1, none⟩ = some (.int .i64 xc) ∧ w'.cell? ⟨w4.heap.size, 2, none⟩ = some (.string xp) ∧ w'.cell? ⟨w5.heap.size, 0, none⟩ = some (.slice a5 m5 k5) ∧ w'.cell? ⟨w5.heap.size, 1, none⟩ = some (.int .i64 xc) ∧ w'.cell? ⟨w5.heap.size, 2, none⟩ = some (.string xp) ∧ Below W5.heap.size W5 w' ∧ W5.heap.size ≤ w'.heap.size)
    (first
     | exact HH.out _ ((Below.refl _ _).drew)
     | (go_split_ands; exact HH.out _ (Below.trans (by assumption) (hb.mono (by assumption)))))
    (first
      | (go_at_call 12; go_split_ands; (with_reducible refine (HS1.out _ _ _ (HI4b.out.later (by assumption) (Nat.le_refl _)) (HI5.out.later (by assumption) (Nat.le_refl _))).mono ?_); rintro e w7 ⟨rfl, hb⟩)
      | (go_at_call 15; go_split_ands; (with_reducible refine (HCF.out _ _ _ (HA.out _ (HA5.out.trans (Below.mono (by assumption) HA5.out.size))) (Below.size (HA5.out.trans (Below.mono (by assumption) HA5.out.size))) (HB5.out.trans (Below.mono (by assumption) HB5.out.size))).mono ?_); rintro e w8 ⟨a8, m8, k8, rfl, hI8, hb⟩; have HI8 := Lib.hid hI8; clear hI8)
      | (go_at_call 11; go_split_ands; (with_reducible refine (HRU.out _ (HB5.out.trans (Below.mono (by assumption) HB5.out.size))).mono ?_); rintro e w9 ⟨v9, rfl, hR9, hb⟩; have HR9 := Lib.hid hR9; have HI8b := Lib.hid (HI8.out.later hb (Nat.le_refl _)); clear hR9)
      | (go_at_call 16; go_split_ands; (with_reducible refine (HRF.out _ _ _ HR9.out (HI3c.out.later (by assumption) (Nat.le_refl _))).mono ?_); rintro e w10 ⟨a10, m10, k10, rfl, hI10, hb⟩; have HI10 := Lib.hid hI10; have HI8c := Lib.hid (HI8b.out.later hb (Nat.le_refl _)); clear hI10)
      | (go_at_call 12; go_split_ands; (with_reducible refine (HS2.out _ _ _ HI8c.out HI10.out).mono ?_); rintro e w12 ⟨rfl, hb⟩; have HB12 := Lib.hid (Below.trans (by assumption) (hb.mono (by assumption)) : Below W5.heap.size W5 w12)))
  all_goals
    go_wp2
    go_region_held3 (fun w' => w'.cell? ⟨w.heap.size, 0, none⟩ = some (.slice a1 len1 cap1) ∧ w'.cell? ⟨w.heap.size, 1, none⟩ = some (.int .i64 c) ∧ w'.cell? ⟨w.heap.size, 2, none⟩ = some (.string p) ∧ w'.cell? ⟨w3.heap.size, 0, none⟩ = some (.slice a3 m3 k3) ∧ w'.cell? ⟨w3.heap.size, 1, none⟩ = some (.int .i64 c) ∧ w'.cell? ⟨w3.heap.size, 2, none⟩ = some (.string p) ∧ w'.cell? ⟨w4.heap.size, 0, none⟩ = some (.slice a4 m4 k4) ∧ w'.cell? ⟨w4.heap.size, 1, none⟩ = some (.int .i64 xc) ∧ w'.cell? ⟨w4.heap.size, 2, none⟩ = some (.string xp) ∧ w'.cell? ⟨w5.heap.size, 0, none⟩ = some (.slice a5 m5 k5) ∧ w'.cell? ⟨w5.heap.size, 1, none⟩ = some (.int .i64 xc) ∧ w'.cell? ⟨w5.heap.size, 2, none⟩ = some (.string xp) ∧ Below W5.heap.size W5 w' ∧ W5.heap.size ≤ w'.heap.size)
      (first
       | exact HH.out _ (HB12.out.drew)
       | (go_split_ands; exact HH.out _ (Below.trans (by assumption) (hb.mono (by assumption)))))
      (first
        | (go_at_call 17; go_split_ands; (with_reducible refine (HCB.out _ (HB5.out.trans (Below.mono (by assumption) HB5.out.size))).mono ?_); rintro e w20 ⟨a20, m20, k20, rfl, hI20, hb⟩; have HI20 := Lib.hid hI20; clear hI20)
        | (go_at_call 18; go_split_ands; (with_reducible refine (HRB.out _ _ (HI3c.out.later (by assumption) (Nat.le_refl _))).mono ?_); rintro e w21 ⟨a21, m21, k21, rfl, hI21, hb⟩; have HI21 := Lib.hid hI21; have HI20b := Lib.hid (HI20.out.later hb (Nat.le_refl _)); clear hI21)
        | (go_at_call 12; go_split_ands; (with_reducible refine (HS3.out _ _ _ HI20b.out HI21.out).mono ?_); rintro e w22 ⟨rfl, hb⟩)
        | (go_at_call 19; go_split_ands; (with_reducible refine (HCD.out _ (HB5.out.trans (Below.mono (by assumption) HB5.out.size))).mono ?_); rintro e w23 ⟨a23, m23, k23, rfl, hI23, hb⟩; have HI23 := Lib.hid hI23; clear hI23)
        | (go_at_call 20; go_split_ands; (with_reducible refine (HRD.out _ _ (HI3c.out.later (by assumption) (Nat.le_refl _))).mono ?_); rintro e w24 ⟨a24, m24, k24, rfl, hI24, hb⟩; have HI24 := Lib.hid hI24; have HI23b := Lib.hid (HI23.out.later hb (Nat.le_refl _)); clear hI24)
        | (go_at_call 12; go_split_ands; (with_reducible refine (HS4.out _ _ _ HI23b.out HI24.out).mono ?_); rintro e w25 ⟨rfl, hb⟩)
        | (go_at_call 21; go_split_ands; (with_reducible refine (HCM.out _ (HB5.out.trans (Below.mono (by assumption) HB5.out.size))).mono ?_); rintro e w26 ⟨a26, m26, k26, rfl, hI26, hb⟩; have HI26 := Lib.hid hI26; clear hI26)
        | (go_at_call 22; go_split_ands; (with_reducible refine (HRM.out _ _ (HI3c.out.later (by assumption) (Nat.le_refl _))).mono ?_); rintro e w27 ⟨a27, m27, k27, rfl, hI27, hb⟩; have HI27 := Lib.hid hI27; have HI26b := Lib.hid (HI26.out.later hb (Nat.le_refl _)); clear hI27)
        | (go_at_call 12; go_split_ands; (with_reducible refine (HS5.out _ _ _ HI26b.out HI27.out).mono ?_); rintro e w28 ⟨rfl, hb⟩)
        | (go_at_call 12; go_split_ands; (with_reducible refine (HS0.out _ _ _ (HI.out _ (HB5.out.trans (Below.mono (by assumption) HB5.out.size))) (HI3c.out.later (by assumption) (Nat.le_refl _))).mono ?_); rintro e w29 ⟨rfl, hb⟩)
        | (go_at_call 7; go_split_ands; (with_reducible refine (HWK.out _).mono ?_); rintro e w30 ⟨rfl, hb⟩; have HB30 := Lib.hid (Below.trans (by assumption) (hb.mono (by assumption)) : Below W5.heap.size W5 w30)))
    all_goals
      go_wp2
      go_ret
      exact ⟨rfl, HB5.out.trans (HB30.out.mono HB5.out.size)⟩
theorem own : ownKnob Tryz.prog.godebug = none := by kernel_rfl
theorem laidOut : laidOutB Tryz.prog = true := by kernel_rfl

/-- What the bound gives: a text's length. -/
theorem part_short {H : Type} {s : ByteArray} {l : List (DataW H)} (hk : Rows.uptoSmall H l = true) (hm : DataW.lit (.string s.data.toList) ∈ l) : s.size ≤ 1048576 := by
  obtain ⟨B, hB⟩ : ∃ B : Nat, B = 1048576 := ⟨_, rfl⟩
  have h : Rows.uptoBulkAll l ≤ B := by rw [hB]; exact of_decide_eq_true hk
  rw [← hB]
  clear hB hk
  have e : s.data.toList.length = s.size := by rw [Array.length_toList]; rfl
  induction l with
  | nil => cases hm
  | cons x r ih =>
    simp only [Rows.uptoBulkAll] at h
    rcases List.mem_cons.1 hm with rfl | hr
    · simp only [Rows.uptoBulk] at h; omega
    · exact ih hr (by omega)

theorem part_bulk {H : Type} {d : DataW H} {l : List (DataW H)} (hk : Rows.uptoSmall H l = true) (hm : d ∈ l) : Rows.uptoBulk d ≤ 1048576 := by
  obtain ⟨B, hB⟩ : ∃ B : Nat, B = 1048576 := ⟨_, rfl⟩
  have h : Rows.uptoBulkAll l ≤ B := by rw [hB]; exact of_decide_eq_true hk
  rw [← hB]
  exact Nat.le_trans (bulk_mem hm) h

set_option maxRecDepth 100000 in
theorem contract (H : Type) (enc : TypeId × Value → H) (W : World) (base : Nat) (args : Array Value) (ds gs : List (DataW H)) (before : List MemPlace)
    (hval0 : ∀ (j : Nat) t v, Tryz.f4.params[j]? = some t → args[j]? = some v → Value.okWide Tryz.prog W .any base t v)
    (hW : DataW.Whole enc Tryz.prog Tryz.f4.params.toList Rows.composeEditsSpec.vars false W args.toList ds gs before) (hk : Rows.uptoSmall H (ds ++ gs) = true) (hsh : W.ShapedOpen Tryz.prog) :
    Calls Tryz.prog 4 args W fun e W' => ∃ v, e = .returned v ∧ Rows.composeEditsSpec.post enc Tryz.prog Tryz.f4 false true false false W args v W' := by
  have hval : ∀ (j : Nat) t v, Tryz.f4.params[j]? = some t → args[j]? = some v → Value.okWide Tryz.prog W .any base t v := hval0
  have hW' := hW
  obtain ⟨p, q, hA0, hV, rfl, hfz, hnd⟩ := hW
  have hA : DataW.TrodAll enc Tryz.prog W 0 (fun _ => true) true Tryz.f4.params.toList args.toList ds p := hA0
  rw [Tryz.params4] at hA hval
  obtain ⟨v0, vs0, d0, ds0, p0, q0, hargs, rfl, rfl, h0, r0⟩ := trodAll_cons hA
  obtain ⟨v1, vs1, d1, ds1, p1, q1, rfl, rfl, rfl, h1, r1⟩ := trodAll_cons r0
  obtain ⟨v2, vs2, d2, ds2, p2, q2, rfl, rfl, rfl, h2, r2⟩ := trodAll_cons r1
  obtain ⟨v3, vs3, d3, ds3, p3, q3, rfl, rfl, rfl, h3, r3⟩ := trodAll_cons r2
  obtain ⟨v4, vs4, d4, ds4, p4, q4, rfl, rfl, rfl, h4, r4⟩ := trodAll_cons r3
  obtain ⟨rfl, rfl, rfl⟩ := trodAll_nil r4
  obtain rfl : args = #[v0, v1, v2, v3, v4] := by cases args; simp_all
  obtain ⟨rfl, rfl⟩ := trodVars_none hV
  obtain ⟨a0, len0, cap0, rfl⟩ := okWide_slice Tryz.underlying22 (hval 0 22 v0 rfl rfl)
  have k0 := h0
  have lt0 : ∀ x ∈ p0, x.block < W.heap.size := by obtain ⟨m, hm⟩ := k0; exact DataW.trod_lt m _ _ _ hm
  obtain ⟨z0, w0, bk0⟩ : ∃ rs, RowR W (.slice a0 len0 cap0) rs ∧ (Rows.uptoBulk d0 ≤ 1048576 → ∀ r ∈ rs, Short r) := by
    obtain ⟨fuel, hf⟩ := h0
    exact rules_bulk hf
  obtain ⟨cs1, rfl, hcs1⟩ := okWide_struct Tryz.underlying25 (hval 1 25 v1 rfl rfl)
  have k1 := h1
  have lt1 : ∀ x ∈ p1, x.block < W.heap.size := by obtain ⟨m, hm⟩ := k1; exact DataW.trod_lt m _ _ _ hm
  obtain ⟨a1, len1, cap1, z1, rfl, w1, n1, bk1⟩ := buf_open hcs1 h1
  obtain ⟨a2, rfl, rfl, rfl, w2⟩ := open_string Tryz.underlying9 (hval 2 9 v2 rfl rfl) h2
  obtain ⟨a3, rfl, rfl, rfl, w3⟩ := open_string Tryz.underlying9 (hval 3 9 v3 rfl rfl) h3
  obtain ⟨a4, rfl, rfl, rfl, w4⟩ := open_int Tryz.underlying3 (hval 4 3 v4 rfl rfl) h4
  clear hA0 hval0
  simp only [List.append_nil] at hk
  have u0 := bk0 (part_bulk hk (.head _))
  have u1 := bk1 (part_bulk hk (.tail _ (.head _)))
  have u2 := part_short hk (.tail _ (.tail _ (.head _)))
  have u3 := part_short hk (.tail _ (.tail _ (.tail _ (.head _))))
  refine (walk a0 len0 cap0 z0 a1 len1 cap1 z1 a2 a3 a4 W w0 w1 n1 w2 w3 w4 u0 u1 u2 u3).mono fun e W' ⟨he, bel⟩ => ?_
  subst he
  exact ⟨_, rfl, _, _, _, [], _, [], hW', trodAll_mk1 (shut_bool Tryz.underlying4 _), (trodAll_cons_mk (Below.trod laidOut (by kernel_rfl) (of_decide_eq_true (by kernel_rfl)) k0 bel lt0) (trodAll_cons_mk (Below.trod laidOut (by kernel_rfl) (of_decide_eq_true (by kernel_rfl)) k1 bel lt1) (trodAll_cons_mk (shut_string Tryz.underlying9 w2) (trodAll_cons_mk (shut_string Tryz.underlying9 w3) (trodAll_cons_mk (shut_int Tryz.underlying3 w4) trodAll_mk0))))), rfl, bel.frame _, fun h => by cases h⟩

/-- THAT THERE IS AN INPUT THAT FITS, out of a world that is laid whole. -/
theorem witness_row_shaped {H : Type} {enc : TypeId × Value → H} {C : Checked} {os : Os} {f : FuncId} {fn : Func} {s : OpenSpec} {conds : List PathCond} {apart : Bool} {laid : List (String × DataW Unit)} (modest : Bool) (w0 : World) (args : Array Value) (hos : w0.os = os)
    (hsh : (w0.forCall (fun _ _ => 0) ⟨#[], args, []⟩).Shaped C.prog)
    (hok : Input.okWideB C.prog (w0.forCall (fun _ _ => 0) ⟨#[], args, []⟩) f ⟨#[], args, []⟩ = true)
    (hrow : s.preRow enc C.prog fn conds apart laid (w0.forCall (fun _ _ => 0) ⟨#[], args, []⟩).memory args) :
    ∃ (w : World) (tape : Tape) (i : Input), w.os = os ∧ (w.forCall tape i).Shaped C.prog ∧ i.vars = [] ∧ Input.okWide C.prog (w.forCall tape i) .any w.heap.size f i ∧
      s.preRow enc C.prog fn conds apart laid (w.forCall tape i).memory i.args ∧ ({ modest := modest } : Assume).holds C.prog (lone (Frame.enter C.prog f i.args .normal) [] (w.forCall tape i)) :=
  ⟨w0, fun _ _ => 0, ⟨#[], args, []⟩, hos, hsh, (Input.okWide_of_okWideB (base := 0) hok).1, (Input.okWide_of_okWideB hok).2, hrow, by
    simp only [Assume.holds]
    exact ⟨by simp, by simp, fun _ => Modest.zero, by simp, by simp⟩⟩

set_option maxRecDepth 100000 in
theorem lifted (os : Os) (started : os.Started) (H : Type) (enc : TypeId × Value → H) (F : Stop.Interp) :
    ReturnsInHanded {} Tryz.checked os 4 .any ((Rows.OpenSpec.upto Rows.composeEditsSpec).preRow enc Tryz.prog Tryz.f4 Rows.composeEditsUptoRow.domain false Rows.composeEditsUptoRow.laid) (((Rows.OpenSpec.upto Rows.composeEditsSpec).at F).post enc Tryz.prog Tryz.f4 false true false false) := by
  refine returnsInHanded_of_row (C := Tryz.checked) (s := Rows.OpenSpec.upto Rows.composeEditsSpec) own started (by kernel_rfl) Tryz.func4
    (witness_row_shaped (enc := enc) (C := Tryz.checked) (os := os) false (World.laidAll Tryz.prog os Rows.composeEditsUptoRow.laid) #[.slice none 0 0, .agg #[.slice none 0 0, .int .i64 0, .string ByteArray.empty], .string ByteArray.empty, .string ByteArray.empty, .int .i64 0] (World.laidAll_os _ _ _)
      (World.shaped_of_ZipB (by kernel_rfl) (by kernel_rfl)) (by kernel_rfl)
      (OpenSpec.preRow_of_cond 8 (x := ([.nil, .agg [.nil, .lit (.int .i64 0), .lit (.string [])], .lit (.string []), .lit (.string []), .lit (.int .i64 0)], [], [])) (by kernel_rfl) (by kernel_rfl) (fun k hk => by cases hk; kernel_rfl) (by kernel_rfl)
        (by rw [MakeChecks.laidMetH_plain _ _ _ (by kernel_rfl)]; exact laidMet_laidAll _ (by kernel_rfl) (by kernel_rfl)))) ?_
  intro W base args ds gs before hval hW _ hcond _ hL hsh _
  exact contract H enc W base args ds gs before hval hW (hcond _ rfl) hsh

theorem over : Rows.composeEditsUptoRow.holds Tryz.pinned (Rows.OpenSpec.upto Rows.composeEditsSpec) :=
  OpenClaim.holds_of_cond 4 Tryz.f4 rfl rfl rfl rfl rfl rfl rfl ⟨rfl, rfl, rfl, rfl, rfl⟩ rfl rfl rfl rfl rfl (by kernel_rfl) Tryz.func4 (by kernel_rfl)
    (of_decide_eq_true (by kernel_rfl)) (by unfold Func.isWrapper; first | (rw [if_pos (by decide +kernel)]; kernel_rfl) | (rw [if_neg (by decide +kernel)]; exact ⟨rfl, rfl⟩))
    (fun os started H enc _ F => by rw [OpenClaim.pre_eq_preRow]; exact lifted os started H enc F)

theorem proved : Rows.ComposeEditsUptoSaid := over
end Go.Proofs.YtamdlbefiggkfaaGreat.composeEdits
