/-
  Back takes back a character that was put; Delete after a move to the left is Back.
-/
import Derived.Test.YtlmbbpppfghcbaaM16
import Derived.OpenShut
import Derived.ShutString
import Derived.ChangeOld
import Derived.HandedShaped
import Derived.LaidMore
import Derived.Lay
import Derived.SizedLaws
import Derived.Deep.DeepHandedRow
import Derived.Test.YtlmbbpppfghcbaaM15
set_option linter.unusedVariables false
set_option linter.unusedSimpArgs false
set_option maxRecDepth 100000
namespace Go.Proofs.Ytlmbbpppfghcbaa.composeUndoes
open Go Go.RowKit Go.ChangeShapes Go.WideShapes Go.ChangeAt Go.Proofs.Ytlmbbpppfghcbaa Go.Proofs.Ytlmbbpppfghcbaa.Kit Go.Proofs.Ytlmbbpppfghcbaa.Utf Go.Proofs.Ytlmbbpppfghcbaa.Rom Go.Proofs.Ytlmbbpppfghcbaa.Aut Go.Proofs.Ytlmbbpppfghcbaa.Cmp
open Go.ChangeMaps (open_string shut_string)
theorem chk_true {b : Bf} (h : val b = true) : chkB b = 0 := by unfold chkB; rw [h]; rfl
theorem chk_false {b : Bf} (h : val b = false) : chkB b = 1 := by unfold chkB; rw [h]; rfl

set_option maxHeartbeats 8000000 in
theorem walk (a : Option Addr) (len cap : Nat) (b : Bf) (c : Int) (w : World) (hI : ItR w (.slice a len cap) b.is) (hwf : (Lit.int .i64 b.c).wf = true) (hcw : (Lit.int .u8 c).wf = true) (hsh : Sh b) :
    Calls Try.prog 6 #[.agg #[.slice a len cap, .int .i64 b.c, .string b.p], .int .u8 c] w fun e w' => e = .returned (.bool true) ∧ Below w.heap.size w w' := by
  have hc0 : 0 ≤ c ∧ c ≤ 255 := by
    have h1 : IntKind.u8.min = 0 := rfl
    have h2 : IntKind.u8.max = 255 := rfl
    simp [Lit.wf, h1, h2] at hcw
    exact hcw
  have hvc : validRune c = true := (valid_iff _).2 (by omega)
  have hn : b.is.length ≤ 1000000000 := by have := hsh.2.2; omega
  have hso : (Utf8.encode c).size ≤ 1048576 := by have := enc_size c hvc; omega
  have hpb := put_back (b := b) hvc
  have hps := putB_sh (out := Utf8.encode c) hsh (raw := ⟨#[]⟩) (Nat.zero_le _)
  have HP := Lib.hid (fun (W : World) (h : Below w.heap.size w W) => put_any b ⟨#[]⟩ (Utf8.encode c) (.agg #[.slice a len cap, .int .i64 b.c, .string b.p]) W ⟨_, rfl, hI.later h (Nat.le_refl _)⟩ hsh (Nat.zero_le _) hso)
  generalize putB b ⟨#[]⟩ (Utf8.encode c) = X at hpb hps HP
  obtain ⟨x, e⟩ := X
  unfold NewBE at HP
  simp only at hpb hps HP
  have HS : Hid (∀ (s s2 : Value) (W : World), ItR W s b.is → ItR W s2 b.is → Calls Try.prog 16 #[.agg #[s, .int .i64 b.c, .string b.p], .agg #[s2, .int .i64 b.c, .string b.p]] W fun e w' => e = .returned (.bool true) ∧ Below W.heap.size W w') := Lib.hid (fun s s2 W h h2 => by
    have := sam8_any b b (.agg #[s, .int .i64 b.c, .string b.p]) (.agg #[s2, .int .i64 b.c, .string b.p]) W ⟨_, rfl, h⟩ ⟨_, rfl, h2⟩ hn
    rwa [decide_eq_true rfl] at this)
  have HB : Hid (e = 0 → ∀ (s : Value) (W : World), ItR W s x.is → Calls Try.prog 24 #[.agg #[s, .int .i64 x.c, .string x.p]] W (NewB b W)) := Lib.hid fun h0 s W h => by
    have := back_buf x (.agg #[s, .int .i64 x.c, .string x.p]) W ⟨_, rfl, h⟩ hps
    rwa [(hpb h0).2] at this
  have HCx : Hid (e = 0 → ∀ (s : Value) (W : World), ItR W s x.is → Calls Try.prog 13 #[.agg #[s, .int .i64 x.c, .string x.p]] W fun e w' => e = .returned (.int .i64 0) ∧ Below W.heap.size W w') := Lib.hid fun h0 s W h => by
    have := check_any x (.agg #[s, .int .i64 x.c, .string x.p]) W ⟨_, rfl, h⟩ hps
    rwa [chk_true (hpb h0).1] at this
  have HCb := Lib.hid (fun (W : World) (h : Below w.heap.size w W) => check_any b (.agg #[.slice a len cap, .int .i64 b.c, .string b.p]) W ⟨_, rfl, hI.later h (Nat.le_refl _)⟩ hsh)
  have HR := Lib.hid (fun (s : Value) (W : World) (h : ItR W s b.is) => raw_buf b (.agg #[s, .int .i64 b.c, .string b.p]) W ⟨_, rfl, h⟩ hsh)
  have HG := Lib.hid (fun (W : World) (h : Below w.heap.size w W) => gvn8_any b (.slice a len cap) W (hI.later h (Nat.le_refl _)) hn)
  have HI := Lib.hid (fun (W : World) (h : Below w.heap.size w W) => hI.later h (Nat.le_refl _))
  have HM : Hid (∀ (W : World), Below w.heap.size w W → Calls Try.prog 26 #[.agg #[.slice a len cap, .int .i64 b.c, .string b.p], .int .i64 (-1)] W (NewB (movB b (-1)) W)) := Lib.hid (fun W h => move_any b (-1) (.agg #[.slice a len cap, .int .i64 b.c, .string b.p]) W ⟨_, rfl, hI.later h (Nat.le_refl _)⟩ hsh (by decide))
  have hmv : val b = true → b.p.size = 0 → b.c ≠ 0 → delB (movB b (-1)) = bacB b := fun h1 h2 h3 => move_delete h1 h2 h3
  have HD := Lib.hid (fun (s : Value) (W : World) (h : ItR W s (movB b (-1)).is) => delete_buf (movB b (-1)) (.agg #[s, .int .i64 (movB b (-1)).c, .string (movB b (-1)).p]) W ⟨_, rfl, h⟩ (mov_sh hsh (-1)))
  have HK := Lib.hid works_any
  have HBb := Lib.hid (fun (W : World) (h : Below w.heap.size w W) => back_buf b (.agg #[.slice a len cap, .int .i64 b.c, .string b.p]) W ⟨_, rfl, hI.later h (Nat.le_refl _)⟩ hsh)
  have hbs := bac_sh hsh
  have HG2 := Lib.hid (fun (s : Value) (W : World) (h : ItR W s (bacB b).is) => gvn8_any (bacB b) s W h (by have := hbs.2.2; omega))
  have HS2 : Hid (∀ (s s2 : Value) (W : World), ItR W s (bacB b).is → ItR W s2 (bacB b).is → Calls Try.prog 16 #[.agg #[s, .int .i64 (bacB b).c, .string (bacB b).p], .agg #[s2, .int .i64 (bacB b).c, .string (bacB b).p]] W fun e w' => e = .returned (.bool true) ∧ Below W.heap.size W w') := Lib.hid (fun s s2 W h h2 => by
    have := sam8_any (bacB b) (bacB b) (.agg #[s, .int .i64 (bacB b).c, .string (bacB b).p]) (.agg #[s2, .int .i64 (bacB b).c, .string (bacB b).p]) W ⟨_, rfl, h⟩ ⟨_, rfl, h2⟩ (by have := hbs.2.2; omega)
    rwa [decide_eq_true rfl] at this)
  unfold NewB at HB HM HD HBb
  generalize rawB b = R at HR
  have hcv : chkB b = 0 ∨ chkB b = 1 := by unfold chkB; split <;> simp
  have hcv2 : chkB b = 0 → val b = true := by unfold chkB; split <;> simp_all
  generalize chkB b = ck at HCb hcv hcv2
  generalize delB (movB b (-1)) = D at hmv HD
  generalize bacB b = Y at hmv HBb HG2 HS2 hbs
  generalize movB b (-1) = M at HM HD
  generalize val b = V at hmv hcv2
  clear hpb hps hsh hbs
  obtain ⟨is, c0, p0⟩ := b
  obtain ⟨xi, xc, xp⟩ := x
  obtain ⟨mi, mc, mp⟩ := M
  simp only at *
  have hT : Hid (∀ W, Below w.heap.size w W → Calls Try.prog 17 #[] W fun e w' => e = .returned (.bool true) ∧ Below w.heap.size w w') := Lib.hid fun W h => (HK.out W).mono fun e w' ⟨h1, h2⟩ => ⟨h1, h.trans (h2.mono h.size)⟩
  obtain rfl | h0 : e = 0 ∨ ¬ e = 0 := by omega
  all_goals
    go_enter Try.func6, Try.ntmps6
    go_wp2_with (first
      | (go_at_call 23
         refine calls_alloc fun W1 hW => ?_
         obtain ⟨x1, hs1, hn1⟩ := box_new hW
         have k0 := hn1 _ (Nat.le_refl _)
         clear hW hn1
         (with_reducible refine (HP.out _ k0).mono ?_)
         rintro e w2 ⟨a2, m2, k2, rfl, ho2, hb⟩
         have hs2 := hb.size
         replace x1 := box_later x1 hb (by omega)
         replace k0 := k0.trans (hb.mono (by omega))
         clear hb
         have hb := (Below.refl w2.heap.size w2).alloc (Nat.le_refl _) (Obj.cells #[.slice a2 m2 k2, .int .i64 xc, .string xp] 24)
         replace x1 := box_later x1 hb (by omega)
         obtain ⟨b0, b1, b2, _⟩ := box_facts x1
         have HI2 := Lib.hid ((items_of_own ho2).1.later hb (Nat.le_refl _))
         have hB := k0.trans (hb.mono (by omega))
         have hz : w.heap.size + 1 ≤ (w2.alloc (Obj.cells #[.slice a2 m2 k2, .int .i64 xc, .string xp] 24)).heap.size := (by simp; omega)
         clear hb ho2 k0)
      | (go_at_call 24
         refine calls_alloc fun W3 hW => ?_
         obtain ⟨x2, hs3, hn3⟩ := box_new hW
         have HI3 := HI2.out
         rw [hW] at x1 HI3 hB
         clear b0 b1 b2 hz hW hn3
         (with_reducible refine (HB.out (by trivial) _ _ HI3).mono ?_)
         rintro e w4 ⟨a4, m4, k4, rfl, ho4, hb⟩
         have hs4 := hb.size
         replace x1 := box_later x1 hb (by omega)
         replace x2 := box_later x2 hb (by omega)
         replace hB := hB.trans (hb.mono (by omega))
         replace HI3 := HI3.later hb (Nat.le_refl _)
         clear hb
         have hb := (Below.refl w4.heap.size w4).alloc (Nat.le_refl _) (Obj.cells #[.slice a4 m4 k4, .int .i64 c0, .string p0] 24)
         replace x1 := box_later x1 hb (by omega)
         replace x2 := box_later x2 hb (by omega)
         obtain ⟨b0, b1, b2, _⟩ := box_facts x1
         obtain ⟨d0, d1, d2, _⟩ := box_facts x2
         obtain ⟨f0, f1, f2, _⟩ := box_facts (heap_alloc_new w4 (Obj.cells #[.slice a4 m4 k4, .int .i64 c0, .string p0] 24))
         replace HI3 := HI3.later hb (Nat.le_refl _)
         have HI4 := (items_of_own ho4).1.later hb (Nat.le_refl _)
         replace hB := hB.trans (hb.mono (by omega))
         clear hb ho4 x1 x2))
  · have q2 : w.heap.size < w2.heap.size := by omega
    have q4 : w2.heap.size < w4.heap.size := by omega
    go_region_held3 (fun w' => w'.cell? ⟨w.heap.size, 0, none⟩ = some (.slice a len cap) ∧ w'.cell? ⟨w.heap.size, 1, none⟩ = some (.int .i64 c0) ∧ w'.cell? ⟨w.heap.size, 2, none⟩ = some (.string p0) ∧ w'.cell? ⟨w2.heap.size, 0, none⟩ = some (.slice a2 m2 k2) ∧ w'.cell? ⟨w2.heap.size, 1, none⟩ = some (.int .i64 xc) ∧ w'.cell? ⟨w2.heap.size, 2, none⟩ = some (.string xp) ∧ w'.cell? ⟨w4.heap.size, 0, none⟩ = some (.slice a4 m4 k4) ∧ w'.cell? ⟨w4.heap.size, 1, none⟩ = some (.int .i64 c0) ∧ w'.cell? ⟨w4.heap.size, 2, none⟩ = some (.string p0) ∧ ItR w' (.slice a2 m2 k2) xi ∧ ItR w' (.slice a4 m4 k4) is ∧ Below w.heap.size w w' ∧ w4.heap.size + 1 ≤ w'.heap.size)
      (first
       | exact ⟨b0, b1, b2, d0, d1, d2, f0, f1, f2, HI3.later ((Below.refl _ _).drew) (Nat.le_refl _), HI4.later ((Below.refl _ _).drew) (Nat.le_refl _), hB.drew, by simp⟩
       |
         (go_split_ands
          refine ⟨?_, ?_, ?_, ?_, ?_, ?_, ?_, ?_, ?_, ?_, ?_, ?_, ?_⟩
          · (rw [hb.cell (by first | omega | (simp; done) | (simp; omega))]; assumption)
          · (rw [hb.cell (by first | omega | (simp; done) | (simp; omega))]; assumption)
          · (rw [hb.cell (by first | omega | (simp; done) | (simp; omega))]; assumption)
          · (rw [hb.cell (by first | omega | (simp; done) | (simp; omega))]; assumption)
          · (rw [hb.cell (by first | omega | (simp; done) | (simp; omega))]; assumption)
          · (rw [hb.cell (by first | omega | (simp; done) | (simp; omega))]; assumption)
          · (rw [hb.cell (by first | omega | (simp; done) | (simp; omega))]; assumption)
          · (rw [hb.cell (by first | omega | (simp; done) | (simp; omega))]; assumption)
          · (rw [hb.cell (by first | omega | (simp; done) | (simp; omega))]; assumption)
          · exact ItR.later (by assumption) hb (Nat.le_refl _)
          · exact ItR.later (by assumption) hb (Nat.le_refl _)
          · exact Below.trans (by assumption) (hb.mono (by omega))
          · exact Nat.le_trans (by assumption) hb.size))
      (first
        | (go_at_call 13; go_split_ands; (with_reducible refine (HCx.out (by trivial) _ _ (by assumption)).mono ?_); rintro e w5 ⟨rfl, hb⟩)
        | (go_at_call 14; go_split_ands; (with_reducible refine (HR.out _ _ (by assumption)).mono ?_); rintro e w5 ⟨rfl, hb⟩)
        | (go_at_call 14; go_split_ands; (with_reducible refine (HR.out _ _ (HI.out _ (by assumption))).mono ?_); rintro e w5 ⟨rfl, hb⟩)
        | (go_at_call 9; go_split_ands; (with_reducible refine (HG.out _ (by assumption)).mono ?_); rintro e w5 ⟨v5, rfl, ho5, hb⟩; have HI5 := Lib.hid (items_of_own ho5).1; obtain ⟨a5, m5, k5, rfl⟩ := slice_of_own ho5)
        | (go_at_call 16; go_split_ands; (with_reducible refine (HS.out _ _ _ (by assumption) HI5.out).mono ?_); rintro e w6 ⟨rfl, hb⟩))
    rename_i hHeld
    clear b0 b1 b2 hB
    obtain ⟨b0, b1, b2, _, _, _, _, _, _, _, _, hB, hz4⟩ := hHeld
    have hz : w.heap.size + 1 ≤ _ := Nat.le_trans (by omega) hz4
    clear hz4 HI3 HI4 f0 f1 f2 d0 d1 d2
    rcases hcv with rfl | rfl
    · by_cases hp : p0.toList = []
      · replace hp : p0 = { data := #[] } := by
          rw [Lib.toList_data] at hp
          exact ba_ext hp
        by_cases hc : c0 = 0
        · subst hc
          subst hp
          go_wp2_with (first
            | (go_at_call 13; (with_reducible refine (HCb.out _ hB).mono ?_); rintro e w5 ⟨rfl, hb⟩; replace b0 := Eq.trans (hb.cell (by first | omega | (simp; omega))) b0; replace b1 := Eq.trans (hb.cell (by first | omega | (simp; omega))) b1; replace b2 := Eq.trans (hb.cell (by first | omega | (simp; omega))) b2; replace hB := hB.trans (hb.mono (by first | omega | (simp; omega))); replace hz := Nat.le_trans hz hb.size; clear hb)
            | (go_at_call 17; (with_reducible refine (hT.out _ hB).mono ?_); rintro e w6 ⟨rfl, hB6⟩))
          go_ret
          exact ⟨rfl, hB6⟩
        · have hDY := hmv (hcv2 rfl) (by rw [hp]; rfl) hc
          subst hDY
          subst hp
          go_wp2_with (first
            | (go_at_call 13; (with_reducible refine (HCb.out _ hB).mono ?_); rintro e w5 ⟨rfl, hb⟩; replace b0 := Eq.trans (hb.cell (by first | omega | (simp; omega))) b0; replace b1 := Eq.trans (hb.cell (by first | omega | (simp; omega))) b1; replace b2 := Eq.trans (hb.cell (by first | omega | (simp; omega))) b2; replace hB := hB.trans (hb.mono (by first | omega | (simp; omega))); replace hz := Nat.le_trans hz hb.size; clear hb))
          go_region_held3 (fun w' => w'.cell? ⟨w.heap.size, 0, none⟩ = some (.slice a len cap) ∧ w'.cell? ⟨w.heap.size, 1, none⟩ = some (.int .i64 c0) ∧ w'.cell? ⟨w.heap.size, 2, none⟩ = some (.string { data := #[] }) ∧ Below w.heap.size w w' ∧ w.heap.size + 1 ≤ w'.heap.size)
            (first
              | exact ⟨b0, b1, b2, hB.drew, by simp; omega⟩
              | (go_split_ands
                 refine ⟨?_, ?_, ?_, ?_, ?_⟩
                 · (rw [hb.cell (by first | omega | (simp; done) | (simp; omega))]; assumption)
                 · (rw [hb.cell (by first | omega | (simp; done) | (simp; omega))]; assumption)
                 · (rw [hb.cell (by first | omega | (simp; done) | (simp; omega))]; assumption)
                 · exact Below.trans (by assumption) (hb.mono (by omega))
                 · exact Nat.le_trans (by assumption) hb.size))
            (first
              | (go_at_call 26; go_split_ands; (with_reducible refine (HM.out _ (by assumption)).mono ?_); rintro e w7 ⟨a7, m7, k7, rfl, ho7, hb⟩; have HI7 := Lib.hid (items_of_own ho7).1; clear ho7)
              | (go_at_call 25; go_split_ands; (with_reducible refine (HD.out _ _ HI7.out).mono ?_); rintro e w8 ⟨a8, m8, k8, rfl, ho8, hb⟩; have HI8 := Lib.hid (items_of_own ho8).1; clear ho8)
              | (go_at_call 24; go_split_ands; (with_reducible refine (HBb.out _ (by assumption)).mono ?_); rintro e w9 ⟨a9, m9, k9, rfl, ho9, hb⟩; have HI9 := Lib.hid (items_of_own ho9).1; have HI8b := Lib.hid (HI8.out.later hb (Nat.le_refl _)); clear ho9)
              | (go_at_call 9; go_split_ands; (with_reducible refine (HG2.out _ _ HI9.out).mono ?_); rintro e w10 ⟨v10, rfl, ho10, hb⟩; have HI10 := Lib.hid (items_of_own ho10).1; have HI8c := Lib.hid (HI8b.out.later hb (Nat.le_refl _)); obtain ⟨a10, m10, k10, rfl⟩ := slice_of_own ho10; clear ho10)
              | (go_at_call 16; go_split_ands; (with_reducible refine (HS2.out _ _ _ HI8c.out HI10.out).mono ?_); rintro e w11 ⟨rfl, hb⟩)
              | (go_at_call 17; go_split_ands; (with_reducible refine (HK.out _).mono ?_); rintro e w12 ⟨rfl, hb⟩))
          all_goals
            rename_i hHeld
            obtain ⟨_, _, _, hB6, _⟩ := hHeld
            go_wp2
            go_ret
            exact ⟨rfl, hB6⟩
      · go_wp2_with (first
          | (go_at_call 13; (with_reducible refine (HCb.out _ hB).mono ?_); rintro e w5 ⟨rfl, hb⟩; replace b0 := Eq.trans (hb.cell (by first | omega | (simp; omega))) b0; replace b1 := Eq.trans (hb.cell (by first | omega | (simp; omega))) b1; replace b2 := Eq.trans (hb.cell (by first | omega | (simp; omega))) b2; replace hB := hB.trans (hb.mono (by first | omega | (simp; omega))); replace hz := Nat.le_trans hz hb.size; clear hb)
          | (go_at_call 17; (with_reducible refine (hT.out _ hB).mono ?_); rintro e w6 ⟨rfl, hB6⟩))
        go_ret
        exact ⟨rfl, hB6⟩
    · go_wp2_with (first
        | (go_at_call 13; (with_reducible refine (HCb.out _ hB).mono ?_); rintro e w5 ⟨rfl, hb⟩; replace b0 := Eq.trans (hb.cell (by first | omega | (simp; omega))) b0; replace b1 := Eq.trans (hb.cell (by first | omega | (simp; omega))) b1; replace b2 := Eq.trans (hb.cell (by first | omega | (simp; omega))) b2; replace hB := hB.trans (hb.mono (by first | omega | (simp; omega))); replace hz := Nat.le_trans hz hb.size; clear hb)
        | (go_at_call 17; (with_reducible refine (hT.out _ hB).mono ?_); rintro e w6 ⟨rfl, hB6⟩))
      go_ret
      exact ⟨rfl, hB6⟩
  · clear HI2 x1 hs1 hs2
    refine calls_alloc fun W0 hW0 => ?_
    rw [hW0] at b0 b1 b2 hB hz
    clear hW0
    rcases hcv with rfl | rfl
    · by_cases hp : p0.toList = []
      · replace hp : p0 = { data := #[] } := by
          rw [Lib.toList_data] at hp
          exact ba_ext hp
        by_cases hc : c0 = 0
        · subst hc
          subst hp
          go_wp2_with (first
            | (go_at_call 13; (with_reducible refine (HCb.out _ hB).mono ?_); rintro e w5 ⟨rfl, hb⟩; replace b0 := Eq.trans (hb.cell (by first | omega | (simp; omega))) b0; replace b1 := Eq.trans (hb.cell (by first | omega | (simp; omega))) b1; replace b2 := Eq.trans (hb.cell (by first | omega | (simp; omega))) b2; replace hB := hB.trans (hb.mono (by first | omega | (simp; omega))); replace hz := Nat.le_trans hz hb.size; clear hb)
            | (go_at_call 17; (with_reducible refine (hT.out _ hB).mono ?_); rintro e w6 ⟨rfl, hB6⟩))
          go_ret
          exact ⟨rfl, hB6⟩
        · have hDY := hmv (hcv2 rfl) (by rw [hp]; rfl) hc
          subst hDY
          subst hp
          go_wp2_with (first
            | (go_at_call 13; (with_reducible refine (HCb.out _ hB).mono ?_); rintro e w5 ⟨rfl, hb⟩; replace b0 := Eq.trans (hb.cell (by first | omega | (simp; omega))) b0; replace b1 := Eq.trans (hb.cell (by first | omega | (simp; omega))) b1; replace b2 := Eq.trans (hb.cell (by first | omega | (simp; omega))) b2; replace hB := hB.trans (hb.mono (by first | omega | (simp; omega))); replace hz := Nat.le_trans hz hb.size; clear hb))
          go_region_held3 (fun w' => w'.cell? ⟨w.heap.size, 0, none⟩ = some (.slice a len cap) ∧ w'.cell? ⟨w.heap.size, 1, none⟩ = some (.int .i64 c0) ∧ w'.cell? ⟨w.heap.size, 2, none⟩ = some (.string { data := #[] }) ∧ Below w.heap.size w w' ∧ w.heap.size + 1 ≤ w'.heap.size)
            (first
              | exact ⟨b0, b1, b2, hB.drew, by simp; omega⟩
              | (go_split_ands
                 refine ⟨?_, ?_, ?_, ?_, ?_⟩
                 · (rw [hb.cell (by first | omega | (simp; done) | (simp; omega))]; assumption)
                 · (rw [hb.cell (by first | omega | (simp; done) | (simp; omega))]; assumption)
                 · (rw [hb.cell (by first | omega | (simp; done) | (simp; omega))]; assumption)
                 · exact Below.trans (by assumption) (hb.mono (by omega))
                 · exact Nat.le_trans (by assumption) hb.size))
            (first
              | (go_at_call 26; go_split_ands; (with_reducible refine (HM.out _ (by assumption)).mono ?_); rintro e w7 ⟨a7, m7, k7, rfl, ho7, hb⟩; have HI7 := Lib.hid (items_of_own ho7).1; clear ho7)
              | (go_at_call 25; go_split_ands; (with_reducible refine (HD.out _ _ HI7.out).mono ?_); rintro e w8 ⟨a8, m8, k8, rfl, ho8, hb⟩; have HI8 := Lib.hid (items_of_own ho8).1; clear ho8)
              | (go_at_call 24; go_split_ands; (with_reducible refine (HBb.out _ (by assumption)).mono ?_); rintro e w9 ⟨a9, m9, k9, rfl, ho9, hb⟩; have HI9 := Lib.hid (items_of_own ho9).1; have HI8b := Lib.hid (HI8.out.later hb (Nat.le_refl _)); clear ho9)
              | (go_at_call 9; go_split_ands; (with_reducible refine (HG2.out _ _ HI9.out).mono ?_); rintro e w10 ⟨v10, rfl, ho10, hb⟩; have HI10 := Lib.hid (items_of_own ho10).1; have HI8c := Lib.hid (HI8b.out.later hb (Nat.le_refl _)); obtain ⟨a10, m10, k10, rfl⟩ := slice_of_own ho10; clear ho10)
              | (go_at_call 16; go_split_ands; (with_reducible refine (HS2.out _ _ _ HI8c.out HI10.out).mono ?_); rintro e w11 ⟨rfl, hb⟩)
              | (go_at_call 17; go_split_ands; (with_reducible refine (HK.out _).mono ?_); rintro e w12 ⟨rfl, hb⟩))
          all_goals
            rename_i hHeld
            obtain ⟨_, _, _, hB6, _⟩ := hHeld
            go_wp2
            go_ret
            exact ⟨rfl, hB6⟩
      · go_wp2_with (first
          | (go_at_call 13; (with_reducible refine (HCb.out _ hB).mono ?_); rintro e w5 ⟨rfl, hb⟩; replace b0 := Eq.trans (hb.cell (by first | omega | (simp; omega))) b0; replace b1 := Eq.trans (hb.cell (by first | omega | (simp; omega))) b1; replace b2 := Eq.trans (hb.cell (by first | omega | (simp; omega))) b2; replace hB := hB.trans (hb.mono (by first | omega | (simp; omega))); replace hz := Nat.le_trans hz hb.size; clear hb)
          | (go_at_call 17; (with_reducible refine (hT.out _ hB).mono ?_); rintro e w6 ⟨rfl, hB6⟩))
        go_ret
        exact ⟨rfl, hB6⟩
    · go_wp2_with (first
        | (go_at_call 13; (with_reducible refine (HCb.out _ hB).mono ?_); rintro e w5 ⟨rfl, hb⟩; replace b0 := Eq.trans (hb.cell (by first | omega | (simp; omega))) b0; replace b1 := Eq.trans (hb.cell (by first | omega | (simp; omega))) b1; replace b2 := Eq.trans (hb.cell (by first | omega | (simp; omega))) b2; replace hB := hB.trans (hb.mono (by first | omega | (simp; omega))); replace hz := Nat.le_trans hz hb.size; clear hb)
        | (go_at_call 17; (with_reducible refine (hT.out _ hB).mono ?_); rintro e w6 ⟨rfl, hB6⟩))
      go_ret
      exact ⟨rfl, hB6⟩
theorem own : ownKnob Try.prog.godebug = none := by kernel_rfl
theorem laidOut : laidOutB Try.prog = true := by kernel_rfl

/-- What the bound gives: a text's length. -/
theorem part_short {H : Type} {s : ByteArray} {l : List (DataW H)} (hk : Rows.uptoSmall H l = true) (hm : DataW.lit (.string s.data.toList) ∈ l) : s.size ≤ 1048576 := by
  obtain ⟨B, hB⟩ : ∃ B : Nat, B = 1048576 := ⟨_, rfl⟩
  have h : Rows.uptoBulkAll l ≤ B := by rw [hB]; exact of_decide_eq_true hk
  rw [← hB]
  clear hB hk
  have e : s.data.toList.length = s.size := by rw [Array.length_toList]; rfl
  induction l with
  | nil => cases hm
  | cons x r ih =>
    simp only [Rows.uptoBulkAll] at h
    rcases List.mem_cons.1 hm with rfl | hr
    · simp only [Rows.uptoBulk] at h; omega
    · exact ih hr (by omega)

theorem part_bulk {H : Type} {d : DataW H} {l : List (DataW H)} (hk : Rows.uptoSmall H l = true) (hm : d ∈ l) : Rows.uptoBulk d ≤ 1048576 := by
  obtain ⟨B, hB⟩ : ∃ B : Nat, B = 1048576 := ⟨_, rfl⟩
  have h : Rows.uptoBulkAll l ≤ B := by rw [hB]; exact of_decide_eq_true hk
  rw [← hB]
  exact Nat.le_trans (bulk_mem hm) h

set_option maxRecDepth 100000 in
theorem contract (H : Type) (enc : TypeId × Value → H) (W : World) (base : Nat) (args : Array Value) (ds gs : List (DataW H)) (before : List MemPlace)
    (hval0 : ∀ (j : Nat) t v, Try.f6.params[j]? = some t → args[j]? = some v → Value.okWide Try.prog W .any base t v)
    (hW : DataW.Whole enc Try.prog Try.f6.params.toList Rows.composeUndoesSpec.vars false W args.toList ds gs before) (hk : Rows.uptoSmall H (ds ++ gs) = true) (hsh : W.ShapedOpen Try.prog) :
    Calls Try.prog 6 args W fun e W' => ∃ v, e = .returned v ∧ Rows.composeUndoesSpec.post enc Try.prog Try.f6 false true false false W args v W' := by
  have hval : ∀ (j : Nat) t v, Try.f6.params[j]? = some t → args[j]? = some v → Value.okWide Try.prog W .any base t v := hval0
  have hW' := hW
  obtain ⟨p, q, hA0, hV, rfl, hfz, hnd⟩ := hW
  have hA : DataW.TrodAll enc Try.prog W 0 (fun _ => true) true Try.f6.params.toList args.toList ds p := hA0
  rw [Try.params6] at hA hval
  obtain ⟨v0, vs0, d0, ds0, p0, q0, hargs, rfl, rfl, h0, r0⟩ := trodAll_cons hA
  obtain ⟨v1, vs1, d1, ds1, p1, q1, rfl, rfl, rfl, h1, r1⟩ := trodAll_cons r0
  obtain ⟨rfl, rfl, rfl⟩ := trodAll_nil r1
  obtain rfl : args = #[v0, v1] := by cases args; simp_all
  obtain ⟨rfl, rfl⟩ := trodVars_none hV
  obtain ⟨cs0, rfl, hcs0⟩ := okWide_struct Try.underlying24 (hval 0 24 v0 rfl rfl)
  have k0 := h0
  have lt0 : ∀ x ∈ p0, x.block < W.heap.size := by obtain ⟨m, hm⟩ := k0; exact DataW.trod_lt m _ _ _ hm
  obtain ⟨a0, len0, cap0, z0, rfl, w0, n0, bk0⟩ := buf_open hcs0 h0
  obtain ⟨a1, rfl, rfl, rfl, w1⟩ := open_int Try.underlying5 (hval 1 5 v1 rfl rfl) h1
  clear hA0 hval0
  simp only [List.append_nil] at hk
  have u0 := bk0 (part_bulk hk (.head _))
  refine (walk a0 len0 cap0 z0 a1 W w0 n0 w1 u0).mono fun e W' ⟨he, bel⟩ => ?_
  subst he
  exact ⟨_, rfl, _, _, _, [], _, [], hW', trodAll_mk1 (shut_bool Try.underlying4 _), (trodAll_cons_mk (Below.trod laidOut (by kernel_rfl) (of_decide_eq_true (by kernel_rfl)) k0 bel lt0) (trodAll_cons_mk (shut_int Try.underlying5 w1) trodAll_mk0)), rfl, bel.frame _, fun h => by cases h⟩

/-- THAT THERE IS AN INPUT THAT FITS, out of a world that is laid whole. -/
theorem witness_row_shaped {H : Type} {enc : TypeId × Value → H} {C : Checked} {os : Os} {f : FuncId} {fn : Func} {s : OpenSpec} {conds : List PathCond} {apart : Bool} {laid : List (String × DataW Unit)} (modest : Bool) (w0 : World) (args : Array Value) (hos : w0.os = os)
    (hsh : (w0.forCall (fun _ _ => 0) ⟨#[], args, []⟩).Shaped C.prog)
    (hok : Input.okWideB C.prog (w0.forCall (fun _ _ => 0) ⟨#[], args, []⟩) f ⟨#[], args, []⟩ = true)
    (hrow : s.preRow enc C.prog fn conds apart laid (w0.forCall (fun _ _ => 0) ⟨#[], args, []⟩).memory args) :
    ∃ (w : World) (tape : Tape) (i : Input), w.os = os ∧ (w.forCall tape i).Shaped C.prog ∧ i.vars = [] ∧ Input.okWide C.prog (w.forCall tape i) .any w.heap.size f i ∧
      s.preRow enc C.prog fn conds apart laid (w.forCall tape i).memory i.args ∧ ({ modest := modest } : Assume).holds C.prog (lone (Frame.enter C.prog f i.args .normal) [] (w.forCall tape i)) :=
  ⟨w0, fun _ _ => 0, ⟨#[], args, []⟩, hos, hsh, (Input.okWide_of_okWideB (base := 0) hok).1, (Input.okWide_of_okWideB hok).2, hrow, by
    simp only [Assume.holds]
    exact ⟨by simp, by simp, fun _ => Modest.zero, by simp, by simp⟩⟩

set_option maxRecDepth 100000 in
theorem lifted (os : Os) (started : os.Started) (H : Type) (enc : TypeId × Value → H) (F : Stop.Interp) :
    ReturnsInHanded {} Try.checked os 6 .any ((Rows.OpenSpec.upto Rows.composeUndoesSpec).preRow enc Try.prog Try.f6 Rows.composeUndoesUptoRow.domain false Rows.composeUndoesUptoRow.laid) (((Rows.OpenSpec.upto Rows.composeUndoesSpec).at F).post enc Try.prog Try.f6 false true false false) := by
  refine returnsInHanded_of_row (C := Try.checked) (s := Rows.OpenSpec.upto Rows.composeUndoesSpec) own started (by kernel_rfl) Try.func6
    (witness_row_shaped (enc := enc) (C := Try.checked) (os := os) false (World.laidAll Try.prog os Rows.composeUndoesUptoRow.laid) #[.agg #[.slice none 0 0, .int .i64 0, .string ByteArray.empty], .int .u8 0] (World.laidAll_os _ _ _)
      (World.shaped_of_ZipB (by kernel_rfl) (by kernel_rfl)) (by kernel_rfl)
      (OpenSpec.preRow_of_cond 8 (x := ([.agg [.nil, .lit (.int .i64 0), .lit (.string [])], .lit (.int .u8 0)], [], [])) (by kernel_rfl) (by kernel_rfl) (fun k hk => by cases hk; kernel_rfl) (by kernel_rfl)
        (by rw [MakeChecks.laidMetH_plain _ _ _ (by kernel_rfl)]; exact laidMet_laidAll _ (by kernel_rfl) (by kernel_rfl)))) ?_
  intro W base args ds gs before hval hW _ hcond _ hL hsh _
  exact contract H enc W base args ds gs before hval hW (hcond _ rfl) hsh

theorem over : Rows.composeUndoesUptoRow.holds Try.pinned (Rows.OpenSpec.upto Rows.composeUndoesSpec) :=
  OpenClaim.holds_of_cond 6 Try.f6 rfl rfl rfl rfl rfl rfl rfl ⟨rfl, rfl, rfl, rfl, rfl⟩ rfl rfl rfl rfl rfl (by kernel_rfl) Try.func6 (by kernel_rfl)
    (of_decide_eq_true (by kernel_rfl)) (by unfold Func.isWrapper; first | (rw [if_pos (by decide +kernel)]; kernel_rfl) | (rw [if_neg (by decide +kernel)]; exact ⟨rfl, rfl⟩))
    (fun os started H enc _ F => by rw [OpenClaim.pre_eq_preRow]; exact lifted os started H enc F)

theorem proved : Rows.ComposeUndoesUptoSaid := over
end Go.Proofs.Ytlmbbpppfghcbaa.composeUndoes
