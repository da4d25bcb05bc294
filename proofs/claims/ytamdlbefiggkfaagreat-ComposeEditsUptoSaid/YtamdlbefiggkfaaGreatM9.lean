/-
  Joined texts: CmpF, CmpP, AutF.
-/
import Derived.Test.YtamdlbefiggkfaaGreatM7
import Derived.Deep.RegionLaw
import Derived.Deep.DeepCutAuto
import Derived.Test.YtamdlbefiggkfaaGreatM8
import Derived.Test.YtamdlbefiggkfaaGreatM2
import Derived.Laws.ResultCell
import Derived.Deep.RegionHeld3
set_option linter.unusedVariables false
set_option linter.unusedSimpArgs false
set_option maxRecDepth 100000
namespace Go.Proofs.YtamdlbefiggkfaaGreat.Cmp
open Go Go.RowKit Go.Proofs.YtamdlbefiggkfaaGreat.Kit Go.Proofs.YtamdlbefiggkfaaGreat.Utf Go.Proofs.YtamdlbefiggkfaaGreat.Rom Go.Proofs.YtamdlbefiggkfaaGreat.Aut

theorem items_upto {w : World} {a : Option Addr} {n cap k : Nat} {is : List It} (hR : ItR w (.slice a n cap) is) (hk : k ≤ n) :
    ∃ a' n' k', (∀ W, (Instr.sliceAt 23 (.slice a n cap) none (some (.int .i64 k)) none).run Tryz.prog W = .ok (.slice a' n' k') W) ∧ ItR w (.slice a' n' k') (is.take k) := by
  refine ⟨a, k, cap, ?_, hR.take hk⟩
  intro W
  obtain ⟨_, hc, hm⟩ := hR.len
  have k2 : (k : Int) ≤ cap := by omega
  have u := Tryz.underlying23
  obtain ⟨a', len', cap', e, h1, h2, h3, h4⟩ := hR
  cases e
  rcases h4 with ⟨rfl, hl, hc0⟩ | ⟨x, rfl, hl⟩ | ⟨b, off, rfl, hlt, hx⟩
  · have k0 : k = 0 := by omega
    subst k0
    subst hc0
    go_simp
  · go_simp
  · go_simp
theorem items_on {w : World} {a : Option Addr} {n cap k : Nat} {is : List It} (hR : ItR w (.slice a n cap) is) (hk : k ≤ n) :
    ∃ a' n' k', (∀ W, (Instr.sliceAt 23 (.slice a n cap) (some (.int .i64 k)) none none).run Tryz.prog W = .ok (.slice a' n' k') W) ∧ ItR w (.slice a' n' k') (is.drop k) := by
  obtain ⟨_, hc, hm⟩ := hR.len
  have k2 : (k : Int) ≤ n := by omega
  have k3 : (n : Int) ≤ cap := by omega
  have u := Tryz.underlying23
  by_cases hck : cap ≤ k
  · refine ⟨_, _, _, ?_, hR.drop_end hk hck⟩
    intro W
    have e1 : cap = k := by omega
    obtain ⟨a', len', cap', e, h1, h2, h3, h4⟩ := hR
    cases e
    rcases h4 with ⟨rfl, hl, hc0⟩ | ⟨x, rfl, hl⟩ | ⟨b, off, rfl, hlt, hx⟩
    · have k0 : k = 0 := by omega
      subst k0
      subst hc0
      subst hl
      go_simp
    · subst e1
      go_simp
      intro hh; exfalso; omega
    · subst e1
      go_simp
      intro hh; exfalso; omega
  · refine ⟨_, _, _, ?_, hR.drop hk⟩
    intro W
    have e1 : ¬ cap = k := by omega
    have e2 : (k : Int) ≤ cap := by omega
    obtain ⟨a', len', cap', e, h1, h2, h3, h4⟩ := hR
    cases e
    rcases h4 with ⟨rfl, hl, hc0⟩ | ⟨x, rfl, hl⟩ | ⟨b, off, rfl, hlt, hx⟩
    · omega
    · go_simp
      intro hh; exfalso; omega
    · go_simp
      intro hh; exfalso; omega

theorem take_drop_len (is : List It) (k : Nat) : (is.take k).length + (is.drop k).length = is.length := by rw [← List.length_append, List.take_append_drop]

set_option maxHeartbeats 8000000 in
theorem insert_any (b : Bf) (l : List It) (s v : Value) (w : World) (hR : ItR w s b.is) (hL : ItR w v l) (hc : 0 ≤ b.c ∧ b.c ≤ b.is.length) (hsh : Sh (insB b l)) :
    Calls Tryz.prog 35 #[.agg #[s, .int .i64 b.c, .string b.p], v] w fun e w' => ∃ v', e = .returned (.agg #[v', .int .i64 (insB b l).c, .string (insB b l).p]) ∧ w'.ownsRow w.heap.size 72 2 v' (insB b l).is.length (ic (insB b l).is) ∧ Below w.heap.size w w' := by
  obtain ⟨is, c, p⟩ := b
  simp only at *
  obtain ⟨k, rfl⟩ : ∃ k : Nat, c = k := ⟨c.toNat, by omega⟩
  obtain ⟨a, len, cap, rfl, hlen, _⟩ := id hR
  obtain ⟨a2, len2, cap2, rfl, hlen2, _⟩ := id hL
  subst hlen hlen2
  obtain ⟨x1, n1, k1, hs1, hR1⟩ := items_upto (k := k) hR (by omega)
  obtain ⟨x2, n2, k2, hs2, hR2⟩ := items_on (k := k) hR (by omega)
  have hB : insB ⟨is, k, p⟩ l = ⟨is.take k ++ l ++ is.drop k, k + l.length, p⟩ := by unfold insB; simp
  rw [hB] at hsh ⊢
  clear hB
  simp only
  have hlen3 : is.length + l.length ≤ 1048576 := by
    have := hsh.2.2
    simp only [List.length_append] at this
    have := take_drop_len is k
    omega
  have hls : (is.take k).length + l.length + (is.drop k).length ≤ 100000000000 := by have := take_drop_len is k; omega
  have HCC := Lib.hid (fun g t W hg h1 h2 h3 => concat_any g (.slice x1 n1 k1) (.slice a2 l.length cap2) (.slice x2 n2 k2) (is.take k) l (is.drop k) t W hg h1 h2 h3 hls)
  have hall : (is.take k).length + l.length + (is.drop k).length = (is.take k ++ l ++ is.drop k).length := by simp only [List.length_append]
  rw [hall] at HCC
  generalize hIS : is.take k ++ l ++ is.drop k = IS at HCC hsh hall ⊢
  have HCP := Lib.hid (fun s W hR => copied_any ⟨IS, k + l.length, p⟩ s W hR hsh)
  simp only at HCP
  have HR1 := Lib.hid hR1
  have HR2 := Lib.hid hR2
  have HL := Lib.hid hL
  clear hR1 hR2 hL hR hIS hsh hls hall
  have fact : ∀ o1 o2 o3 W3, o1 = Obj.cells #[.slice a is.length cap, .int .i64 k, .string p] 25 → o2 = Obj.cells #[.slice none 0 0, .int .i64 0, .string { data := #[] }] 25 → o3 = Obj.cells #[.slice x1 n1 k1, .slice a2 l.length cap2, .slice x2 n2 k2] 23 → W3 = (((w.alloc o1).alloc o2).alloc o3).drew →
      (W3.heap[w.heap.size + 1 + 1]? = some o3) ∧ Below w.heap.size w W3 ∧ w.heap.size + 3 ≤ W3.heap.size ∧ (∀ w', Below W3.heap.size W3 w' → w'.cell? ⟨w.heap.size, 0, none⟩ = some (.slice a is.length cap) ∧ w'.cell? ⟨w.heap.size, 1, none⟩ = some (.int .i64 k) ∧ w'.cell? ⟨w.heap.size, 2, none⟩ = some (.string p) ∧ (∀ j, w'.frozen? ⟨w.heap.size, j, none⟩ = false) ∧
        (w'.heap[w.heap.size + 1]? = some o2)) := by
    rintro o1 o2 o3 W3 rfl rfl rfl rfl
    have s2 : ((w.alloc (Obj.cells #[.slice a is.length cap, .int .i64 k, .string p] 25)).alloc (Obj.cells #[.slice none 0 0, .int .i64 0, .string { data := #[] }] 25)).heap.size = w.heap.size + 1 + 1 := by simp
    have e := heap_alloc_new ((w.alloc (Obj.cells #[.slice a is.length cap, .int .i64 k, .string p] 25)).alloc (Obj.cells #[.slice none 0 0, .int .i64 0, .string { data := #[] }] 25)) (Obj.cells #[.slice x1 n1 k1, .slice a2 l.length cap2, .slice x2 n2 k2] 23)
    rw [s2] at e
    have e2 := heap_alloc_new (w.alloc (Obj.cells #[.slice a is.length cap, .int .i64 k, .string p] 25)) (Obj.cells #[.slice none 0 0, .int .i64 0, .string { data := #[] }] 25)
    have s1 : (w.alloc (Obj.cells #[.slice a is.length cap, .int .i64 k, .string p] 25)).heap.size = w.heap.size + 1 := by simp
    rw [s1] at e2
    have e1 := heap_alloc_new w (Obj.cells #[.slice a is.length cap, .int .i64 k, .string p] 25)
    rw [← Below.heap_alloc _ (Obj.cells #[.slice none 0 0, .int .i64 0, .string { data := #[] }] 25) _ (by simp), ← Below.heap_alloc _ (Obj.cells #[.slice x1 n1 k1, .slice a2 l.length cap2, .slice x2 n2 k2] 23) _ (by simp; omega)] at e1
    rw [← Below.heap_alloc _ (Obj.cells #[.slice x1 n1 k1, .slice a2 l.length cap2, .slice x2 n2 k2] 23) _ (by simp)] at e2
    refine ⟨e, ((((Below.refl _ _).alloc (Nat.le_refl _) _).alloc (by simp) _).alloc (by simp; omega) _).drew, by simp, fun w' hb => ?_⟩
    have b1 := (hb.block w.heap.size (by simp; omega)).trans e1
    have b2 := (hb.block (w.heap.size + 1) (by simp)).trans e2
    refine ⟨?_, ?_, ?_, fun j => ?_, b2⟩
    · rw [cell_of_row _ _ 0 _ _ _ b1]; rfl
    · rw [cell_of_row _ _ 1 _ _ _ b1]; rfl
    · rw [cell_of_row _ _ 2 _ _ _ b1]; rfl
    · exact frozen_of_row _ _ j _ _ b1
  have FACT := Lib.hid fact
  clear fact
  go_enter Tryz.func35, Tryz.ntmps35
  go_upto_region 1 with fail
  go_cut [] (fun wx => ∃ a3 m3 c3, wx.cell? ⟨w.heap.size, 0, none⟩ = some (.slice a3 m3 c3) ∧ wx.cell? ⟨w.heap.size, 1, none⟩ = some (.int .i64 k) ∧ wx.cell? ⟨w.heap.size, 2, none⟩ = some (.string p) ∧ (∀ j, wx.frozen? ⟨w.heap.size, j, none⟩ = false) ∧ wx.heap[w.heap.size + 1]? = some (Obj.cells #[.slice none 0 0, .int .i64 0, .string { data := #[] }] 25) ∧ wx.ownsRow (w.heap.size + 3) 72 2 (.slice a3 m3 c3) IS.length (ic IS) ∧ Below w.heap.size w wx ∧ w.heap.size + 3 ≤ wx.heap.size)
  case first =>
    go_region_law (first
      | (go_simp; go_at_call 67; obtain ⟨W3, hW3⟩ : ∃ W3, (((w.alloc (Obj.cells #[.slice a is.length cap, .int .i64 k, .string p] 25)).alloc (Obj.cells #[.slice none 0 0, .int .i64 0, .string { data := #[] }] 25)).alloc (Obj.cells #[.slice x1 n1 k1, .slice a2 l.length cap2, .slice x2 n2 k2] 23)).drew = W3 := ⟨_, rfl⟩; rw [hW3]; obtain ⟨g1, g2, g3, g4⟩ := FACT.out _ _ _ W3 rfl rfl rfl hW3.symm; have G4 := Lib.hid g4; clear g4 hW3; (with_reducible refine (HCC.out _ _ _ g1 (HR1.out.later g2 (Nat.le_refl _)) (HL.out.later g2 (Nat.le_refl _)) (HR2.out.later g2 (Nat.le_refl _))).mono ?_); rintro e w4 ⟨v', rfl, hown, hb⟩; obtain ⟨q0, q1, q2, q3, q4⟩ := G4.out w4 hb; obtain ⟨a3, m3, c3, rfl⟩ := slice_of_own hown))
    all_goals
      have z0 : (w4.setCell ⟨w.heap.size, 0, none⟩ (.slice a3 m3 c3)).cell? ⟨w.heap.size, 0, none⟩ = some (.slice a3 m3 c3) := World.cell?_setCell_same' _ _ _ (by rw [q0]; rfl)
      have z1 : (w4.setCell ⟨w.heap.size, 0, none⟩ (.slice a3 m3 c3)).cell? ⟨w.heap.size, 1, none⟩ = some (.int .i64 k) := by rw [World.cell?_setCell_other _ _ _ _ (by simp)]; exact q1
      have z2 : (w4.setCell ⟨w.heap.size, 0, none⟩ (.slice a3 m3 c3)).cell? ⟨w.heap.size, 2, none⟩ = some (.string p) := by rw [World.cell?_setCell_other _ _ _ _ (by simp)]; exact q2
      have z3 : ∀ j, (w4.setCell ⟨w.heap.size, 0, none⟩ (.slice a3 m3 c3)).frozen? ⟨w.heap.size, j, none⟩ = false := fun j => by rw [World.frozen?_setCell]; exact q3 j
      have z4 : (w4.setCell ⟨w.heap.size, 0, none⟩ (.slice a3 m3 c3)).heap[w.heap.size + 1]? = some (Obj.cells #[.slice none 0 0, .int .i64 0, .string { data := #[] }] 25) := by rw [heap_setCell_other _ _ _ _ (by show w.heap.size + 1 ≠ w.heap.size; omega)]; exact q4
      have z5 : (w4.setCell ⟨w.heap.size, 0, none⟩ (.slice a3 m3 c3)).ownsRow (w.heap.size + 3) 72 2 (.slice a3 m3 c3) IS.length (ic IS) := ownsRow_setCell_below (own_base hown (by omega)) (by show w.heap.size < _; omega) _
      have z6 : Below w.heap.size w (w4.setCell ⟨w.heap.size, 0, none⟩ (.slice a3 m3 c3)) := Below.setCell (g2.trans (hb.mono (by omega))) (Nat.le_refl _) _
      have z7 : w.heap.size + 3 ≤ (w4.setCell ⟨w.heap.size, 0, none⟩ (.slice a3 m3 c3)).heap.size := by have := hb.size; simp; omega
      go_wp2_with fail
      go_meet
      exact ⟨_, _, _, z0, z1, z2, z3, z4, z5, z6, z7⟩
  case rest =>
    obtain ⟨a3, m3, c3, q0, q1, q2, q3, q4, hI, hbx, hz⟩ := hcut
    have hI2 : ∀ x, ItR (wc.setCell ⟨w.heap.size, 1, none⟩ x) (.slice a3 m3 c3) IS := fun x => (items_of_own (ownsRow_setCell_below hI (by show w.heap.size < _; omega) _)).1
    have hb2 : ∀ x, Below w.heap.size w (wc.setCell ⟨w.heap.size, 1, none⟩ x) := fun x => Below.setCell hbx (Nat.le_refl _) _
    have h4 : ∀ x w', Below (w.heap.size + 3) (wc.setCell ⟨w.heap.size, 1, none⟩ x) w' → w'.heap[w.heap.size + 1]? = some (Obj.cells #[.slice none 0 0, .int .i64 0, .string { data := #[] }] 25) := fun x w' h => by
      rw [h.block (w.heap.size + 1) (by omega), heap_setCell_other _ _ _ _ (by show w.heap.size + 1 ≠ w.heap.size; omega)]; exact q4
    have HI2 := Lib.hid hI2
    have HB2 := Lib.hid hb2
    have H4 := Lib.hid h4
    have hz2 : ∀ x, (wc.setCell ⟨w.heap.size, 1, none⟩ x).heap.size = wc.heap.size := fun x => by simp
    have HZ2 := Lib.hid hz2
    have q31 := q3 1
    clear hI2 hb2 h4 hz2 hI q4 HCC FACT hs1 hs2
    go_wp2_with (first
      | (go_at_call 44; (with_reducible refine (HCP.out _ _ (HI2.out _)).mono ?_); rintro e w5 ⟨v5, rfl, hown5, hb5⟩; have r4 := H4.out _ _ (hb5.mono (by rw [HZ2.out]; omega)); have r0 : w5.cell? ⟨w.heap.size + 1, 0, none⟩ = some (.slice none 0 0) := (by rw [cell_of_row _ _ 0 _ _ _ r4]; rfl); have r1 : w5.cell? ⟨w.heap.size + 1, 1, none⟩ = some (.int .i64 0) := (by rw [cell_of_row _ _ 1 _ _ _ r4]; rfl); have r2 : w5.cell? ⟨w.heap.size + 1, 2, none⟩ = some (.string { data := #[] }) := (by rw [cell_of_row _ _ 2 _ _ _ r4]; rfl); have r3 : ∀ j, w5.frozen? ⟨w.heap.size + 1, j, none⟩ = false := (fun j => frozen_of_row _ _ j _ _ r4); obtain ⟨a5, m5, c5, rfl⟩ := slice_of_own hown5))
    have hz5 : w.heap.size + 3 ≤ w5.heap.size := by have := hb5.size; rw [HZ2.out] at this; omega
    have ow : w5.ownsRow (w.heap.size + 3) 72 2 (.slice a5 m5 c5) IS.length (ic IS) := own_base hown5 (by rw [HZ2.out]; omega)
    have bw : Below w.heap.size w w5 := (HB2.out _).trans (hb5.mono (by rw [HZ2.out]; omega))
    refine bodyPost_ret (v := .agg #[.slice a5 m5 c5, .int .i64 (k + l.length), .string p]) ?_ rfl ⟨_, rfl, own_base (ownsRow_setCell_below (ownsRow_setCell_below (ownsRow_setCell_below ow (by show w.heap.size + 1 < _; omega) _) (by show w.heap.size + 1 < _; omega) _) (by show w.heap.size + 1 < _; omega) _) (by omega), Below.setCell (Below.setCell (Below.setCell bw (by show _ ≤ w.heap.size + 1; omega) _) (by show _ ≤ w.heap.size + 1; omega) _) (by show _ ≤ w.heap.size + 1; omega) _⟩
    rw [results_cell1 rfl]
    show ((loadVar 25 ⟨w.heap.size + 1, 0, none⟩).run Tryz.prog _) = _
    obtain ⟨q0, q1, q2⟩ := three_set (w := w5) (g := w.heap.size + 1) (x := .slice a5 m5 c5) (y := .int .i64 (k + l.length)) (z := .string p) (by rw [r0]; rfl) (by rw [r1]; rfl) (by rw [r2]; rfl)
    exact load_buf q0 q1 q2

end Go.Proofs.YtamdlbefiggkfaaGreat.Cmp

set_option linter.unusedVariables false
set_option linter.unusedSimpArgs false
set_option maxRecDepth 100000
namespace Go.Proofs.YtamdlbefiggkfaaGreat.Cmp
open Go Go.RowKit Go.Proofs.YtamdlbefiggkfaaGreat.Kit Go.Proofs.YtamdlbefiggkfaaGreat.Utf Go.Proofs.YtamdlbefiggkfaaGreat.Rom Go.Proofs.YtamdlbefiggkfaaGreat.Aut

structure St (w W : World) (s : Value) (c : Int) (p : ByteArray) : Prop where
  box : W.heap[w.heap.size]? = some (Obj.cells #[s, .int .i64 c, .string p] 25)
  res : W.heap[w.heap.size + 1]? = some zeroBuf
  bel : Below w.heap.size w W
  siz : w.heap.size + 2 ≤ W.heap.size
theorem St.start {w W : World} {s : Value} {c : Int} {p : ByteArray} (hW : (w.alloc (Obj.cells #[s, .int .i64 c, .string p] 25)).alloc zeroBuf = W) : St w W s c p :=
  have ⟨h1, h2, h3, h4⟩ := start_work hW
  ⟨h1, h2, h3, by omega⟩
theorem St.later {w W W' : World} {s : Value} {c : Int} {p : ByteArray} (h : St w W s c p) {B : Nat} (hb : Below B W W') (hB : w.heap.size + 2 ≤ B) : St w W' s c p :=
  have hs := h.siz
  ⟨by rw [hb.block _ (by omega)]; exact h.box, by rw [hb.block _ (by omega)]; exact h.res, h.bel.trans (hb.mono (by omega)), Nat.le_trans hs hb.size⟩
theorem St.facts {w W : World} {s : Value} {c : Int} {p : ByteArray} (h : St w W s c p) :
    W.cell? ⟨w.heap.size, 0, none⟩ = some s ∧ W.cell? ⟨w.heap.size, 1, none⟩ = some (.int .i64 c) ∧ W.cell? ⟨w.heap.size, 2, none⟩ = some (.string p) ∧ (∀ j, W.frozen? ⟨w.heap.size, j, none⟩ = false) ∧
    W.cell? ⟨w.heap.size + 1, 0, none⟩ = some (.slice none 0 0) ∧ W.cell? ⟨w.heap.size + 1, 1, none⟩ = some (.int .i64 0) ∧ W.cell? ⟨w.heap.size + 1, 2, none⟩ = some (.string { data := #[] }) ∧ (∀ j, W.frozen? ⟨w.heap.size + 1, j, none⟩ = false) := by
  obtain ⟨a, b, c, d⟩ := box_facts h.box
  obtain ⟨a', b', c', d'⟩ := box_facts h.res
  exact ⟨a, b, c, d, a', b', c', d'⟩
theorem St.pend {w W : World} {s : Value} {c : Int} {p : ByteArray} (h : St w W s c p) (q : ByteArray) : St w (W.setCell ⟨w.heap.size, 2, none⟩ (.string q)) s c q :=
  have hs := h.siz
  ⟨(box_set (y0 := .int .i64 0) (y1 := .int .i64 0) h.box).2.2, by rw [heap_setCell_other _ _ _ _ (by show w.heap.size + 1 ≠ w.heap.size; omega)]; exact h.res, Below.setCell h.bel (Nat.le_refl _) _, by simp; exact hs⟩
theorem St.fin {w W : World} {s : Value} {c : Int} {p : ByteArray} (h : St w W s c p) (a : Option Addr) (m k : Nat) (c' : Int) (p' : ByteArray) :
    ∃ W', W' = (((W.setCell ⟨w.heap.size + 1, 0, none⟩ (.slice a m k)).setCell ⟨w.heap.size + 1, 1, none⟩ (.int .i64 c')).setCell ⟨w.heap.size + 1, 2, none⟩ (.string p')) ∧ (loadVar 25 ⟨w.heap.size + 1, 0, none⟩).run Tryz.prog W' = .ok (.agg #[.slice a m k, .int .i64 c', .string p']) W' ∧
      (∀ B n xs, w.heap.size + 2 ≤ B → W.ownsRow B 72 2 (.slice a m k) n xs → W'.ownsRow w.heap.size 72 2 (.slice a m k) n xs) ∧ Below w.heap.size w W' := by
  obtain ⟨e0, e1, e2, ef, r0, r1, r2, rf⟩ := h.facts
  obtain ⟨q0, q1, q2⟩ := three_set (w := W) (g := w.heap.size + 1) (x := .slice a m k) (y := .int .i64 c') (z := .string p') (by rw [r0]; rfl) (by rw [r1]; rfl) (by rw [r2]; rfl)
  refine ⟨_, rfl, load_buf q0 q1 q2, fun B n xs hB ho => ?_, ?_⟩
  · exact own_base (ownsRow_setCell_below (ownsRow_setCell_below (ownsRow_setCell_below ho (by show w.heap.size + 1 < _; omega) _) (by show w.heap.size + 1 < _; omega) _) (by show w.heap.size + 1 < _; omega) _) (by omega)
  · exact Below.setCell (Below.setCell (Below.setCell h.bel (by show _ ≤ w.heap.size + 1; omega) _) (by show _ ≤ w.heap.size + 1; omega) _) (by show _ ≤ w.heap.size + 1; omega) _

def NewBE (r : Bf × Int) (w : World) (e : Ending) (w' : World) : Prop :=
  ∃ a m k, e = .returned (.tuple #[.agg #[.slice a m k, .int .i64 r.1.c, .string r.1.p], .int .i64 r.2]) ∧ w'.ownsRow w.heap.size 72 2 (.slice a m k) r.1.is.length (ic r.1.is) ∧ Below w.heap.size w w'
theorem newBE_read {r : Bf × Int} {w : World} {e : Ending} {w' : World} (h : NewBE r w e w') : ∃ a m k, e = .returned (.tuple #[.agg #[.slice a m k, .int .i64 r.1.c, .string r.1.p], .int .i64 r.2]) ∧ ItR w' (.slice a m k) r.1.is ∧ Below w.heap.size w w' := by
  obtain ⟨a, m, k, rfl, ho, hb⟩ := h
  exact ⟨a, m, k, rfl, (items_of_own ho).1, hb⟩
theorem insert_new (b : Bf) (l : List It) (s v : Value) (w : World) (hR : ItR w s b.is) (hL : ItR w v l) (hc : 0 ≤ b.c ∧ b.c ≤ b.is.length) (hsh : Sh (insB b l)) :
    Calls Tryz.prog 35 #[.agg #[s, .int .i64 b.c, .string b.p], v] w (NewB (insB b l) w) := by
  refine (insert_any b l s v w hR hL hc hsh).mono ?_
  rintro e w' ⟨v', rfl, ho, hb⟩
  obtain ⟨a, m, k, rfl⟩ := slice_of_own ho
  exact ⟨a, m, k, rfl, ho, hb⟩

theorem runes_uni (s : ByteArray) (w : World) (hs : s.size ≤ 274877906944) :
    Calls Tryz.prog 33 #[.string s] w fun e w' => ∃ a k, e = .returned (.tuple #[.slice a (chs (bs s)).length k, .bool (chars (bs s)).isSome]) ∧ Reads w' (.slice a (chs (bs s)).length k) (ints (chs (bs s))) ∧ (∀ b, (Value.slice a (chs (bs s)).length k).ownBlock = some b → w.heap.size ≤ b) ∧ Below w.heap.size w w' := by
  cases hc : chars (bs s) with
  | none =>
    have e : chs (bs s) = [] := by unfold chs; rw [hc]; rfl
    rw [e]
    refine (runes_bad s w (by omega) hc).mono ?_
    rintro e w' ⟨rfl, hb⟩
    exact ⟨none, 0, rfl, ⟨none, 0, 0, rfl, rfl, Nat.le_refl _, Nat.zero_le _, .inl ⟨rfl, rfl, rfl⟩⟩, (fun b h => by cases h), hb⟩
  | some cs =>
    rw [chs_some hc]
    refine (runes_slice s w hs cs hc).mono ?_
    rintro e w' ⟨a, k, rfl, ho, _, hb⟩
    exact ⟨a, k, rfl, own_reads ho, fun b h => (ho.lt b h).1, hb⟩
theorem count_chs (l : By) : decide (1 ≤ count l) = decide ((chs l).length ≠ 0) := by
  unfold count chs
  cases chars l with
  | none => rfl
  | some cs =>
    show decide (1 ≤ ((cs.length : Nat) : Int)) = decide (cs.length ≠ 0)
    congr 1
    exact propext ⟨fun h => by omega, fun h => by omega⟩
theorem isSome_chs {l : By} (h : (chs l).length ≠ 0) : (chars l).isSome = true := by
  unfold chs at h
  cases hc : chars l with
  | none => rw [hc] at h; exact absurd rfl h
  | some cs => rfl
theorem chs_valid (l : By) : ∀ c ∈ chs l, validRune c = true := by
  unfold chs
  cases hc : chars l with
  | none => intro c h; cases h
  | some cs => exact (chars_some hc).1
theorem enc_size (c : Int) (h : validRune c = true) : (Utf8.encode c).size ≤ 4 := by
  have := (enc_len c h).2
  unfold enc at this
  rw [Array.length_toList] at this
  exact this
theorem itemsL_short {raw : ByteArray} {cs : List Int} (hr : raw.size ≤ 1048576) (hc : ∀ c ∈ cs, validRune c = true) : ∀ i ∈ itemsL raw cs, i.r.size ≤ 1048576 ∧ i.o.size ≤ 1048576 := by
  cases cs with
  | nil => intro i hi; cases hi
  | cons c cs =>
    intro i hi
    rcases List.mem_cons.1 hi with rfl | hi
    · exact ⟨hr, by have := enc_size c (hc c (by simp)); show (Utf8.encode c).size ≤ _; omega⟩
    · obtain ⟨d, hd, rfl⟩ := List.mem_map.1 hi
      exact ⟨by show (⟨#[]⟩ : ByteArray).size ≤ _; exact Nat.zero_le _, by have := enc_size d (hc d (by simp [hd])); show (Utf8.encode d).size ≤ _; omega⟩
theorem insB_sh {b : Bf} {l : List It} {p : ByteArray} (h : Sh b) (hl : ∀ i ∈ l, i.r.size ≤ 1048576 ∧ i.o.size ≤ 1048576) (hn : b.is.length + l.length ≤ 1048576) (hp : p.size ≤ 1048576) : Sh (insB { b with p := p } l) := by
  refine ⟨?_, hp, ?_⟩
  · intro i hi
    unfold insB at hi
    simp only [List.mem_append] at hi
    rcases hi with (hi | hi) | hi
    · exact h.1 i (List.mem_of_mem_take hi)
    · exact hl i hi
    · exact h.1 i (List.mem_of_mem_drop hi)
  · unfold insB
    have := take_drop_len b.is b.c.toNat
    simp only [List.length_append]
    omega

set_option maxHeartbeats 8000000 in
theorem put_any (b : Bf) (raw out : ByteArray) (v : Value) (w : World) (hR : BfR w v b) (hsh : Sh b) (hr : raw.size ≤ 1048576) (ho : out.size ≤ 1048576) :
    Calls Tryz.prog 13 #[v, .string raw, .string out] w (NewBE (putB b raw out) w) := by
  obtain ⟨a, len, cap, rfl, hI⟩ := hR.open
  have HV := Lib.hid (fun s W (hI : ItR W s b.is) => valid_any b s W hI hsh)
  have HI := Lib.hid (fun (W : World) (h : Below w.heap.size w W) => hI.later h (Nat.le_refl _))
  have HRU := Lib.hid (fun W => runes_uni out W (by omega))
  have HF := Lib.hid (fun W => from_any 32 raw W (by omega) (by omega) (by omega))
  have hvp := @val_parts b
  have hlen := hI.len.1
  have hcv := chs_valid (bs out)
  unfold putB
  rw [count_chs]
  have hsc := @isSome_chs (bs out)
  have hcl : (chs (bs out)).length ≤ 1048576 := by
    have h1 := encs_length_ge hcv
    unfold chs at h1 ⊢
    cases hc : chars (bs out) with
    | none => simp
    | some cs =>
      have h2 := chars_some hc
      have h3 := encs_length_ge h2.1
      rw [← h2.2, bs_len] at h3
      simp
      omega
  generalize chs (bs out) = cs at *
  generalize (chars (bs out)).isSome = ok at *
  clear hR hI
  obtain ⟨is, c, p⟩ := b
  simp only at *
  subst hlen
  cases hv : val ⟨is, c, p⟩
  · rw [hv] at HV
    clear hv hvp
    simp only [Bool.false_and, Bool.false_eq_true, if_false]
    go_enter Tryz.func13, Tryz.ntmps13
    go_wp2_with (first
      | (go_at_call 33; obtain ⟨W, hW⟩ : ∃ W, (w.alloc (Obj.cells #[.slice a is.length cap, .int .i64 c, .string p] 25)).alloc zeroBuf = W := ⟨_, rfl⟩; rw [hW]; have st0 := St.start hW; clear hW; (with_reducible refine (HRU.out W).mono ?_); rintro e w5 ⟨a5, k5, rfl, hr5, _, hb5⟩; have st5 := st0.later hb5 st0.siz; obtain ⟨g0, g1, g2, g3, s0, s1, s2, s3⟩ := st5.facts; have HI5 := Lib.hid (HI.out w5 st5.bel); have HST5 := Lib.hid st5; have HR5 := Lib.hid hr5; clear st0 st5 hr5 hb5)
      | (go_at_call 30; (with_reducible refine (HV.out _ w5 HI5.out).mono ?_); rintro e w7 ⟨rfl, hb7⟩; have st7 := HST5.out.later hb7 HST5.out.siz; clear g0 g1 g2 g3 s0 s1 s2 s3; obtain ⟨c0, c1, c2, cf, r0, r1, r2, rf⟩ := st7.facts; have HST7 := Lib.hid st7; have HI7 := Lib.hid (HI.out w7 st7.bel); have HR7 := Lib.hid (Kit.Reads.later HR5.out hb7); clear st7)
      | (go_at_call 31; (with_reducible refine (HF.out _).mono ?_); rintro e w8 ⟨rfl, hw8⟩; obtain rfl := hw8.symm))
    obtain ⟨W9, hW9, hld, how, hbw⟩ := HST7.out.fin none 0 0 0 { data := #[] }
    rw [← hW9]
    refine bodyPost_ret (v := .tuple #[.agg #[.slice none 0 0, .int .i64 0, .string { data := #[] }], .int .i64 1]) ?_ rfl ⟨none, 0, 0, rfl, World.ownsRow_nil _ _ _ _, hbw⟩
    rw [results_cell_tmp rfl]
    show ((loadVar 25 ⟨w.heap.size + 1, 0, none⟩).run Tryz.prog _).andThen _ = _
    rw [hld]
    rfl
  obtain ⟨v1, v2, v3, _, v5, _⟩ := hvp hv
  rw [hv] at HV
  cases hf : fromB 32 (bs raw)
  · rw [hf] at HF
    clear hv hvp hf
    simp only [Bool.and_false, Bool.false_and, Bool.false_eq_true, if_false]
    go_enter Tryz.func13, Tryz.ntmps13
    go_wp2_with (first
      | (go_at_call 33; obtain ⟨W, hW⟩ : ∃ W, (w.alloc (Obj.cells #[.slice a is.length cap, .int .i64 c, .string p] 25)).alloc zeroBuf = W := ⟨_, rfl⟩; rw [hW]; have st0 := St.start hW; clear hW; (with_reducible refine (HRU.out W).mono ?_); rintro e w5 ⟨a5, k5, rfl, hr5, _, hb5⟩; have st5 := st0.later hb5 st0.siz; obtain ⟨g0, g1, g2, g3, s0, s1, s2, s3⟩ := st5.facts; have HI5 := Lib.hid (HI.out w5 st5.bel); have HST5 := Lib.hid st5; have HR5 := Lib.hid hr5; clear st0 st5 hr5 hb5)
      | (go_at_call 30; (with_reducible refine (HV.out _ w5 HI5.out).mono ?_); rintro e w7 ⟨rfl, hb7⟩; have st7 := HST5.out.later hb7 HST5.out.siz; clear g0 g1 g2 g3 s0 s1 s2 s3; obtain ⟨c0, c1, c2, cf, r0, r1, r2, rf⟩ := st7.facts; have HST7 := Lib.hid st7; have HI7 := Lib.hid (HI.out w7 st7.bel); have HR7 := Lib.hid (Kit.Reads.later HR5.out hb7); clear st7)
      | (go_at_call 31; (with_reducible refine (HF.out _).mono ?_); rintro e w8 ⟨rfl, hw8⟩; obtain rfl := hw8.symm))
    obtain ⟨W9, hW9, hld, how, hbw⟩ := HST7.out.fin none 0 0 0 { data := #[] }
    rw [← hW9]
    refine bodyPost_ret (v := .tuple #[.agg #[.slice none 0 0, .int .i64 0, .string { data := #[] }], .int .i64 1]) ?_ rfl ⟨none, 0, 0, rfl, World.ownsRow_nil _ _ _ _, hbw⟩
    rw [results_cell_tmp rfl]
    show ((loadVar 25 ⟨w.heap.size + 1, 0, none⟩).run Tryz.prog _).andThen _ = _
    rw [hld]
    rfl
  rw [hf] at HF
  by_cases hn : cs.length = 0
  · have e0 : cs = [] := List.eq_nil_of_length_eq_zero hn
    subst e0
    clear hv hvp hf
    simp only [List.length_nil, ne_eq, not_true_eq_false, decide_false, Bool.and_false, Bool.false_eq_true, if_false]
    go_enter Tryz.func13, Tryz.ntmps13
    go_wp2_with (first
      | (go_at_call 33; obtain ⟨W, hW⟩ : ∃ W, (w.alloc (Obj.cells #[.slice a is.length cap, .int .i64 c, .string p] 25)).alloc zeroBuf = W := ⟨_, rfl⟩; rw [hW]; have st0 := St.start hW; clear hW; (with_reducible refine (HRU.out W).mono ?_); rintro e w5 ⟨a5, k5, rfl, hr5, _, hb5⟩; have st5 := st0.later hb5 st0.siz; obtain ⟨g0, g1, g2, g3, s0, s1, s2, s3⟩ := st5.facts; have HI5 := Lib.hid (HI.out w5 st5.bel); have HST5 := Lib.hid st5; have HR5 := Lib.hid hr5; clear st0 st5 hr5 hb5)
      | (go_at_call 30; (with_reducible refine (HV.out _ w5 HI5.out).mono ?_); rintro e w7 ⟨rfl, hb7⟩; have st7 := HST5.out.later hb7 HST5.out.siz; clear g0 g1 g2 g3 s0 s1 s2 s3; obtain ⟨c0, c1, c2, cf, r0, r1, r2, rf⟩ := st7.facts; have HST7 := Lib.hid st7; have HI7 := Lib.hid (HI.out w7 st7.bel); have HR7 := Lib.hid (Kit.Reads.later HR5.out hb7); clear st7)
      | (go_at_call 31; (with_reducible refine (HF.out _).mono ?_); rintro e w8 ⟨rfl, hw8⟩; obtain rfl := hw8.symm))
    obtain ⟨W9, hW9, hld, how, hbw⟩ := HST7.out.fin none 0 0 0 { data := #[] }
    rw [← hW9]
    refine bodyPost_ret (v := .tuple #[.agg #[.slice none 0 0, .int .i64 0, .string { data := #[] }], .int .i64 1]) ?_ rfl ⟨none, 0, 0, rfl, World.ownsRow_nil _ _ _ _, hbw⟩
    rw [results_cell_tmp rfl]
    show ((loadVar 25 ⟨w.heap.size + 1, 0, none⟩).run Tryz.prog _).andThen _ = _
    rw [hld]
    rfl
  have hok := hsc hn
  subst hok
  rw [decide_eq_true hn]
  have hn2 : ¬ (cs.length : Int) = 0 := by omega
  have hn3 : ((cs.length : Int) == 0) = false := by simpa using hn
  by_cases hp : p.size = 0
  rotate_left
  · have he := empty_str p
    rw [decide_eq_false hp] at he
    clear hv hvp hf
    simp only [Bool.and_true, if_true, ne_eq, hp, not_false_eq_true]
    go_enter Tryz.func13, Tryz.ntmps13
    go_wp2_with (first
      | (go_at_call 33; obtain ⟨W, hW⟩ : ∃ W, (w.alloc (Obj.cells #[.slice a is.length cap, .int .i64 c, .string p] 25)).alloc zeroBuf = W := ⟨_, rfl⟩; rw [hW]; have st0 := St.start hW; clear hW; (with_reducible refine (HRU.out W).mono ?_); rintro e w5 ⟨a5, k5, rfl, hr5, _, hb5⟩; have st5 := st0.later hb5 st0.siz; obtain ⟨g0, g1, g2, g3, s0, s1, s2, s3⟩ := st5.facts; have HI5 := Lib.hid (HI.out w5 st5.bel); have HST5 := Lib.hid st5; have HR5 := Lib.hid hr5; clear st0 st5 hr5 hb5)
      | (go_at_call 30; (with_reducible refine (HV.out _ w5 HI5.out).mono ?_); rintro e w7 ⟨rfl, hb7⟩; have st7 := HST5.out.later hb7 HST5.out.siz; clear g0 g1 g2 g3 s0 s1 s2 s3; obtain ⟨c0, c1, c2, cf, r0, r1, r2, rf⟩ := st7.facts; have HST7 := Lib.hid st7; have HI7 := Lib.hid (HI.out w7 st7.bel); have HR7 := Lib.hid (Kit.Reads.later HR5.out hb7); clear st7)
      | (go_at_call 31; (with_reducible refine (HF.out _).mono ?_); rintro e w8 ⟨rfl, hw8⟩; obtain rfl := hw8.symm))
    obtain ⟨W9, hW9, hld, how, hbw⟩ := HST7.out.fin none 0 0 0 { data := #[] }
    rw [← hW9]
    refine bodyPost_ret (v := .tuple #[.agg #[.slice none 0 0, .int .i64 0, .string { data := #[] }], .int .i64 8]) ?_ rfl ⟨none, 0, 0, rfl, World.ownsRow_nil _ _ _ _, hbw⟩
    rw [results_cell_tmp rfl]
    show ((loadVar 25 ⟨w.heap.size + 1, 0, none⟩).run Tryz.prog _).andThen _ = _
    rw [hld]
    rfl
  have he := empty_str p
  rw [decide_eq_true hp] at he
  by_cases hl : is.length + cs.length > 64
  · clear hv hvp hf
    simp only [Bool.and_true, if_true, ne_eq, hp, not_true_eq_false, if_false, if_pos hl]
    go_enter Tryz.func13, Tryz.ntmps13
    go_wp2_with (first
      | (go_at_call 33; obtain ⟨W, hW⟩ : ∃ W, (w.alloc (Obj.cells #[.slice a is.length cap, .int .i64 c, .string p] 25)).alloc zeroBuf = W := ⟨_, rfl⟩; rw [hW]; have st0 := St.start hW; clear hW; (with_reducible refine (HRU.out W).mono ?_); rintro e w5 ⟨a5, k5, rfl, hr5, _, hb5⟩; have st5 := st0.later hb5 st0.siz; obtain ⟨g0, g1, g2, g3, s0, s1, s2, s3⟩ := st5.facts; have HI5 := Lib.hid (HI.out w5 st5.bel); have HST5 := Lib.hid st5; have HR5 := Lib.hid hr5; clear st0 st5 hr5 hb5)
      | (go_at_call 30; (with_reducible refine (HV.out _ w5 HI5.out).mono ?_); rintro e w7 ⟨rfl, hb7⟩; have st7 := HST5.out.later hb7 HST5.out.siz; clear g0 g1 g2 g3 s0 s1 s2 s3; obtain ⟨c0, c1, c2, cf, r0, r1, r2, rf⟩ := st7.facts; have HST7 := Lib.hid st7; have HI7 := Lib.hid (HI.out w7 st7.bel); have HR7 := Lib.hid (Kit.Reads.later HR5.out hb7); clear st7)
      | (go_at_call 31; (with_reducible refine (HF.out _).mono ?_); rintro e w8 ⟨rfl, hw8⟩; obtain rfl := hw8.symm))
    obtain ⟨W9, hW9, hld, how, hbw⟩ := HST7.out.fin none 0 0 0 { data := #[] }
    rw [← hW9]
    refine bodyPost_ret (v := .tuple #[.agg #[.slice none 0 0, .int .i64 0, .string { data := #[] }], .int .i64 7]) ?_ rfl ⟨none, 0, 0, rfl, World.ownsRow_nil _ _ _ _, hbw⟩
    rw [results_cell_tmp rfl]
    show ((loadVar 25 ⟨w.heap.size + 1, 0, none⟩).run Tryz.prog _).andThen _ = _
    rw [hld]
    rfl
  clear hv hvp hf
  simp only [Bool.and_true, if_true, ne_eq, hp, not_true_eq_false, if_false, if_neg hl]
  have HIT := Lib.hid (fun v W (h : Reads W v (ints cs)) => items_any raw cs v W h (by omega))
  have HIN := Lib.hid (fun s v W (h1 : ItR W s is) (h2 : ItR W v (itemsL raw cs)) => insert_new ⟨is, c, p⟩ (itemsL raw cs) s v W h1 h2 ⟨v2, v3⟩ (insB_sh (b := ⟨is, c, p⟩) (p := p) hsh (itemsL_short hr hcv) (by rw [itemsL_len]; show is.length + _ ≤ _; omega) hsh.2.1))
  simp only at HIN
  generalize insB ⟨is, c, p⟩ (itemsL raw cs) = R at HIN ⊢
  generalize itemsL raw cs = L at HIN HIT
  clear hsh hcv hsc
  go_enter Tryz.func13, Tryz.ntmps13
  go_wp2_with (first
    | (go_at_call 33; obtain ⟨W, hW⟩ : ∃ W, (w.alloc (Obj.cells #[.slice a is.length cap, .int .i64 c, .string p] 25)).alloc zeroBuf = W := ⟨_, rfl⟩; rw [hW]; have st0 := St.start hW; clear hW; (with_reducible refine (HRU.out W).mono ?_); rintro e w5 ⟨a5, k5, rfl, hr5, _, hb5⟩; have st5 := st0.later hb5 st0.siz; obtain ⟨g0, g1, g2, g3, s0, s1, s2, s3⟩ := st5.facts; have HI5 := Lib.hid (HI.out w5 st5.bel); have HST5 := Lib.hid st5; have HR5 := Lib.hid hr5; clear st0 st5 hr5 hb5)
    | (go_at_call 30; (with_reducible refine (HV.out _ w5 HI5.out).mono ?_); rintro e w7 ⟨rfl, hb7⟩; have st7 := HST5.out.later hb7 HST5.out.siz; clear g0 g1 g2 g3 s0 s1 s2 s3; obtain ⟨c0, c1, c2, cf, r0, r1, r2, rf⟩ := st7.facts; have HST7 := Lib.hid st7; have HI7 := Lib.hid (HI.out w7 st7.bel); have HR7 := Lib.hid (Kit.Reads.later HR5.out hb7); clear st7)
    | (go_at_call 31; (with_reducible refine (HF.out _).mono ?_); rintro e w8 ⟨rfl, hw8⟩; obtain rfl := hw8.symm))
  have hrd : Reads w7.drew (.slice a5 cs.length k5) (ints cs) := HR7.out
  have HRD := Lib.hid hrd
  have hbel7 := HST7.out.bel
  have hsiz7 := HST7.out.siz
  have rf0 := rf 0
  have rf1 := rf 1
  have rf2 := rf 2
  clear hrd
  go_region_held3 (fun w' => w'.cell? ⟨w.heap.size, 0, none⟩ = some (.slice a is.length cap) ∧ w'.cell? ⟨w.heap.size, 1, none⟩ = some (.int .i64 c) ∧ w'.cell? ⟨w.heap.size, 2, none⟩ = some (.string p) ∧ w'.cell? ⟨w.heap.size + 1, 0, none⟩ = some (cellOr w' ⟨w.heap.size + 1, 0, none⟩) ∧ w'.cell? ⟨w.heap.size + 1, 1, none⟩ = some (cellOr w' ⟨w.heap.size + 1, 1, none⟩) ∧ w'.cell? ⟨w.heap.size + 1, 2, none⟩ = some (cellOr w' ⟨w.heap.size + 1, 2, none⟩) ∧ w'.frozen? ⟨w.heap.size + 1, 0, none⟩ = false ∧ w'.frozen? ⟨w.heap.size + 1, 1, none⟩ = false ∧ w'.frozen? ⟨w.heap.size + 1, 2, none⟩ = false ∧ Below w.heap.size w w' ∧ w.heap.size + 2 ≤ w'.heap.size)
    (first
      | exact ⟨c0, c1, c2, cellOr_of (by rw [World.cell?_drew, r0]; rfl), cellOr_of (by rw [World.cell?_drew, r1]; rfl), cellOr_of (by rw [World.cell?_drew, r2]; rfl), rf0, rf1, rf2, hbel7.drew, hsiz7⟩
      | (go_split_ands
         refine ⟨?_, ?_, ?_, ?_, ?_, ?_, ?_, ?_, ?_, ?_, ?_⟩
         · (rw [hb.cell (by simp; omega)]; assumption)
         · (rw [hb.cell (by simp; omega)]; assumption)
         · (rw [hb.cell (by simp; omega)]; assumption)
         · exact cellOr_later (by assumption) hb (by simp; omega)
         · exact cellOr_later (by assumption) hb (by simp; omega)
         · exact cellOr_later (by assumption) hb (by simp; omega)
         · (rw [hb.frozen (by simp; omega)]; assumption)
         · (rw [hb.frozen (by simp; omega)]; assumption)
         · (rw [hb.frozen (by simp; omega)]; assumption)
         · exact Below.trans (by assumption) (hb.mono (by omega))
         · exact Nat.le_trans (by assumption) hb.size)
      | (go_split_ands
         refine ⟨?_, ?_, ?_, ?_, ?_, ?_, ?_, ?_, ?_, ?_, ?_⟩
         · simp [*, World.cell?_setCell_far]
         · simp [*, World.cell?_setCell_far]
         · simp [*, World.cell?_setCell_far]
         · exact cellOr_of (isSome_set (isSome_set (isSome_set (isSome_of (by assumption)))))
         · exact cellOr_of (isSome_set (isSome_set (isSome_set (isSome_of (by assumption)))))
         · exact cellOr_of (isSome_set (isSome_set (isSome_set (isSome_of (by assumption)))))
         · simp [*]
         · simp [*]
         · simp [*]
         · exact Below.setCell (Below.setCell (Below.setCell (by assumption) (by simp) _) (by simp) _) (by simp) _
         · simp [*]))
    (first
      | (go_at_call 36; (with_reducible refine (HIT.out _ _ HRD.out).mono ?_); rintro e w9 ⟨v9, rfl, ho9, hb⟩; have hb9 := hb; have HL9 := Lib.hid (items_of_own ho9).1; obtain ⟨a9, m9, k9, rfl⟩ := slice_of_own ho9; clear ho9)
      | (go_at_call 35; go_split_ands; (with_reducible refine (HIN.out _ _ _ (HI.out _ (by assumption)) HL9.out).mono ?_); rintro e w10 ⟨a10, m10, k10, rfl, ho10, hb⟩; have hb10 := hb))
  all_goals go_wp2
  all_goals (try simp only [Exit.inBlock, Exit.then])
  all_goals
    have st9 := HST7.out.later ((Below.refl _ _).drew.trans hb9) hsiz7
    have st10 := st9.later hb10 st9.siz
    obtain ⟨W9, hW9, hld, how, hbw⟩ := st10.fin a10 m10 k10 R.c R.p
    rw [← hW9]
    refine bodyPost_ret (v := .tuple #[.agg #[.slice a10 m10 k10, .int .i64 R.c, .string R.p], .int .i64 0]) ?_ rfl ⟨a10, m10, k10, rfl, how _ _ _ st9.siz ho10, hbw⟩
    rw [results_cell_tmp rfl]
    show ((loadVar 25 ⟨w.heap.size + 1, 0, none⟩).run Tryz.prog _).andThen _ = _
    rw [hld]
    rfl

end Go.Proofs.YtamdlbefiggkfaaGreat.Cmp

set_option linter.unusedVariables false
set_option linter.unusedSimpArgs false
set_option maxRecDepth 100000
namespace Go.Proofs.YtamdlbefiggkfaaGreat.Aut
open Go Go.RowKit Go.Proofs.YtamdlbefiggkfaaGreat.Kit Go.Proofs.YtamdlbefiggkfaaGreat.Utf Go.Proofs.YtamdlbefiggkfaaGreat.Rom

theorem ruleX_is {rs : List Rule} {s : ByteArray} (h0 : 0 < s.size) : bs (ruleX rs s s.size).o = appO rs (bs s) ∧ bs (ruleX rs s s.size).n ++ (bs s).drop (ruleX rs s s.size).k.size = appK rs (bs s) ∧ (ruleX rs s s.size).k.size ≤ s.size := by
  unfold ruleX appO appK best
  rw [bs_len]
  cases h : bestN rs (bs s) s.size with
  | some r =>
    have := best_some (rs := rs) (s := bs s) (r := r) (by unfold best; rw [bs_len]; exact h)
    rw [bs_len] at this
    exact ⟨rfl, rfl, this.2.2.1⟩
  | none =>
    refine ⟨?_, ?_, ?_⟩
    · show bs (s.extract 0 1) = _
      rw [ext_take, bs_ba]
    · show bs ⟨#[]⟩ ++ (bs s).drop (s.extract 0 1).size = _
      rw [show (s.extract 0 1).size = 1 by rw [ByteArray.size_extract]; omega]
      rfl
    · show (s.extract 0 1).size ≤ s.size
      rw [ByteArray.size_extract]; omega

/-- What feed does to keys of n bytes at most. -/
def FeedC (rs : List Rule) (n : Nat) : Prop := ∀ (B a b : Nat) (p ks : ByteArray) (acc : By) (w : World), AutoAt B w a rs → B ≤ b → b + 1 ≤ w.heap.size → Lib.IsBuilderF 119 5 b b (Lib.byteCells acc) w → p.size + ks.size ≤ n →
  acc.length + 16 * (p.size + ks.size) ≤ 35184372088832 →
  Calls Tryz.prog 82 #[.pointer (some ⟨a, 0, none⟩), .pointer (some ⟨b, 0, none⟩), .string p, .string ks] w fun e w' => ∃ o q : By, e = .returned (.string (ba q)) ∧ Feeds rs (bs p) (bs ks) o q ∧ Lib.IsBuilderF 119 5 b b (Lib.byteCells (acc ++ o)) w' ∧ Below b w w' ∧ Lib.OthersKept 5 (some b) w w' ∧ w.heap.size ≤ w'.heap.size
/-- What apply does to keys of n bytes at most. -/
def ApplyC (rs : List Rule) (n : Nat) : Prop := ∀ (B a b : Nat) (s : ByteArray) (acc : By) (w : World), AutoAt B w a rs → B ≤ b → b + 1 ≤ w.heap.size → Lib.IsBuilderF 119 5 b b (Lib.byteCells acc) w → 0 < s.size → s.size ≤ n →
  acc.length + 16 * s.size ≤ 35184372088832 →
  Calls Tryz.prog 70 #[.pointer (some ⟨a, 0, none⟩), .pointer (some ⟨b, 0, none⟩), .string s] w fun e w' => ∃ o q : By, e = .returned (.string (ba q)) ∧ Feeds rs [] (appK rs (bs s)) o q ∧ Lib.IsBuilderF 119 5 b b (Lib.byteCells (acc ++ (appO rs (bs s) ++ o))) w' ∧ Below b w w' ∧ Lib.OthersKept 5 (some b) w w' ∧ w.heap.size ≤ w'.heap.size

set_option maxHeartbeats 4000000 in
theorem apply_of {rs : List Rule} (hok : okL rs = true) (n : Nat) (HF : FeedC rs n) : ApplyC rs (n + 1) := by
  intro B a b s acc w hA hB hbs hBl h0 hs hacc
  obtain ⟨r1, r2, r3⟩ := ruleX_is (rs := rs) h0
  have HAW := Lib.hid (hA.mono hB)
  have HRL := Lib.hid (rule_any B a rs s w hA (by omega) h0 (by omega))
  obtain ⟨R, hR⟩ : ∃ R, ruleX rs s s.size = R := ⟨_, rfl⟩
  rw [hR] at r1 r2 r3 HRL
  have hro : R.o.size ≤ 16 := by rw [← bs_len, r1]; exact appO_len hok _
  have hkn : R.n.size + (s.size - R.k.size) + 1 ≤ s.size := by
    have h1 := congrArg List.length r2
    have h2 := appK_len hok (rs := rs) (s := bs s) (fun e => by have := congrArg List.length e; rw [bs_len, List.length_nil] at this; omega)
    rw [List.length_append, bs_len, List.length_drop, bs_len] at h1
    rw [bs_len] at h2
    omega
  have HBL := Lib.hid hBl
  have R1 := Lib.hid r1
  have R2 := Lib.hid r2
  unfold FeedC at HF
  have HFC := Lib.hid HF
  clear hA hR hBl r1 r2 HF
  have HW : Hid (∀ W : World, Below w.heap.size w W → Lib.IsBuilderF 119 5 b b (Lib.byteCells acc) W) := Lib.hid fun W h => builder_kept2 HBL.out (fun k _ hk => h.block k hk)
  clear HBL
  go_enter Tryz.func70, Tryz.ntmps70
  go_wp2_with (first
    | (go_at_call 86; (with_reducible refine HRL.out.mono ?_); rintro e w1 ⟨rfl, hb1⟩; unfold ragg; have hw1 := hb1.size; have hB1 := HW.out _ (hb1.alloc hw1 (Obj.cells #[.string R.k, .string R.o, .string R.n] 64 (0, 0))); have hbox := heap_alloc_new w1 (Obj.cells #[.string R.k, .string R.o, .string R.n] 64 (0, 0)))
    | (go_at_call 79; (with_reducible refine (Tryz.writeString b b (Lib.byteCells acc) _ _ hB1 (by rw [Lib.byteCells_length]; omega) (by simp; omega)).mono ?_); rintro e w2 ⟨rfl, hA2, hb2, ho2⟩))
  have hs2 : b + 1 ≤ w2.heap.size := by have := hb2.size; simp at this; omega
  have hw2 : w1.heap.size + 1 ≤ w2.heap.size := by have := hb2.size; simp at this; omega
  obtain ⟨g, hg⟩ : ∃ g, w1.heap.size = g := ⟨_, rfl⟩
  rw [hg] at hbox hw2 ⊢
  have hbx2 : w2.heap[g]? = some (Obj.cells #[.string R.k, .string R.o, .string R.n] 64 (0, 0)) := ho2 g _ hbox (by simp; omega) (fun c fz e => by cases e)
  have ho2w : Lib.OthersKept 5 (some b) w w2 := fun k o hk hkb hko => ho2 k o (((hb1.alloc hw1 _).block k (Array.getElem?_eq_some_iff.1 hk).1).trans hk) hkb hko
  have hb2w : Below b w w2 := ((hb1.alloc hw1 _).mono (by omega)).trans hb2
  have hA2' : Lib.IsBuilderF 119 5 b b (Lib.byteCells (acc ++ appO rs (bs s))) w2.drew := by
    rw [byteCells_app, ← R1.out]; exact isB hA2
  have hAu2 : AutoAt b w2.drew a rs := HAW.out.later hb2w.drew (Nat.le_refl _)
  have c0 : w2.cell? ⟨g, 0, none⟩ = some (.string R.k) := by rw [cell_of_row w2 _ 0 _ _ _ hbx2]; rfl
  have c2 : w2.cell? ⟨g, 2, none⟩ = some (.string R.n) := by rw [cell_of_row w2 _ 2 _ _ _ hbx2]; rfl
  have hl2 : (acc ++ appO rs (bs s)).length + 16 * (R.n.size + (s.size - R.k.size)) ≤ 35184372088832 := by
    have := appO_len hok (rs := rs) (bs s)
    rw [List.length_append]; omega
  have hgb : g ≠ b := by omega
  have HS2 := Lib.hid (show w.heap.size ≤ w2.heap.size from by omega)
  have HL2 := Lib.hid hl2
  have HA2 := Lib.hid hA2'
  have HAu := Lib.hid hAu2
  clear hA2 hA2' hAu2 hl2 hbox hb1 hb2 ho2 hB1 hg hw1
  have hbx2' : w2.drew.heap[g]? = some (Obj.cells #[.string R.k, .string R.o, .string R.n] 64 (0, 0)) := hbx2
  have n0 : (0 : Int) ≤ R.k.size := by omega
  have n1 : (R.k.size : Int) ≤ s.size := by omega
  have hex : (s.extract R.k.size s.size).size = s.size - R.k.size := by rw [ByteArray.size_extract]; omega
  have HF1 := Lib.hid (HFC.out b a b ⟨#[]⟩ R.n (acc ++ appO rs (bs s)) w2.drew HAu.out (Nat.le_refl _) (by show _ ≤ w2.heap.size; omega) HA2.out (by show 0 + R.n.size ≤ n; omega) (by have := HL2.out; show _ + 16 * (0 + R.n.size) ≤ _; omega))
  have HN : Hid (∀ (w3 : World) (o1 q1 : By), Feeds rs (bs ⟨#[]⟩) (bs R.n) o1 q1 → Lib.IsBuilderF 119 5 b b (Lib.byteCells ((acc ++ appO rs (bs s)) ++ o1)) w3 → Below b w2.drew w3 → Lib.OthersKept 5 (some b) w2.drew w3 → w2.drew.heap.size ≤ w3.heap.size →
      w3.cell? ⟨g, 0, none⟩ = some (.string R.k) ∧ Hid (Calls Tryz.prog 82 #[.pointer (some ⟨a, 0, none⟩), .pointer (some ⟨b, 0, none⟩), .string (ba q1), .string (s.extract R.k.size s.size)] w3 fun e w' => ∃ o q : By, e = .returned (.string (ba q)) ∧ Feeds rs (bs (ba q1)) (bs (s.extract R.k.size s.size)) o q ∧ Lib.IsBuilderF 119 5 b b (Lib.byteCells (((acc ++ appO rs (bs s)) ++ o1) ++ o)) w' ∧ Below b w3 w' ∧ Lib.OthersKept 5 (some b) w3 w' ∧ w3.heap.size ≤ w'.heap.size)) := Lib.hid fun w3 o1 q1 hf1 hBl3 hb3 ho3 hs3 => by
    have hbx3 := ho3 g _ hbx2' (by simp; omega) (fun c fz e => by cases e)
    have hq1 := hf1.len hok
    rw [bs_len, bs_len, show (⟨#[]⟩ : ByteArray).size = 0 from rfl] at hq1
    have hL := HL2.out
    have hs3' : w2.heap.size ≤ w3.heap.size := hs3
    refine ⟨by rw [cell_of_row w3 _ 0 _ _ _ hbx3]; rfl, Lib.hid (HFC.out b a b (ba q1) (s.extract R.k.size s.size) ((acc ++ appO rs (bs s)) ++ o1) w3 (HAu.out.later hb3 (Nat.le_refl _)) (Nat.le_refl _) (by omega) hBl3 (by rw [ba_size, hex]; omega) (by rw [ba_size, hex, List.length_append]; omega))⟩
  clear HFC HAu HA2 HL2 hbx2'
  go_region_law (first
    | (go_simp; go_at_call 82; (with_reducible refine HF1.out.mono ?_); rintro e w3 ⟨o1, q1, rfl, hf1, hBl3, hb3, ho3, hs3⟩; obtain ⟨c03, HF2⟩ := HN.out w3 o1 q1 hf1 hBl3 hb3 ho3 hs3; clear HF1)
    | (go_simp; go_at_call 82; (with_reducible refine HF2.out.mono ?_); rintro e w4 ⟨o2, q2, rfl, hf2, hBl4, hb4, ho4, hs4⟩))
  all_goals go_wp2
  all_goals go_ret
  all_goals
    have hf2' := hf2
    rw [bs_ba, ext_drop, bs_ba] at hf2'
    have hf := Feeds.comp (rs := rs) (p := []) hf1 hf2'
    rw [R2.out] at hf
    refine ⟨o1 ++ o2, q2, rfl, hf, ?_, (hb2w.trans ⟨hb3.os, hb3.tape, hb3.output, hb3.size, hb3.block⟩).trans hb4, (ho2w.trans ho3).trans ho4, ?_⟩
    · simpa only [List.append_assoc] using hBl4
    · have e1 : w2.drew.heap.size = w2.heap.size := rfl
      have := HS2.out
      omega

theorem one_more (q : By) (ks : ByteArray) (k : Nat) (h : k < ks.size) : ba q ++ ks.extract k (k + 1) = ba (q ++ [bt8 ks k]) := by
  apply ba_ext
  have e : (ks.extract k (k + 1)).data.toList = [bt8 ks k] := by
    have h1 := bs_at ks k h
    have h2 : (ks.extract k (k + 1)).data.toList = ((bs ks).take (k + 1)).drop k := by
      simp [bs, ByteArray.data_extract, List.extract_eq_take_drop, List.drop_take]
    rw [h2, h1, List.drop_left' (by rw [List.length_take, bs_len]; omega)]
  rw [ByteArray.data_append, Array.toList_append, e]
  simp [ba]

set_option maxHeartbeats 4000000 in
theorem feed_of {rs : List Rule} (hok : okL rs = true) (n : Nat) (HA : ApplyC rs n) : FeedC rs n := by
  intro B a b p ks acc w hA hB hbs hBl hn hacc
  unfold ApplyC at HA
  have HAU := Lib.hid (hA.mono hB)
  have HAP := Lib.hid HA
  clear hA HA
  go_enter Tryz.func82, Tryz.ntmps82
  go_wp2
  go_loopw [2, 12] (fun v i wr => ∃ (k : Nat) (o q : By), i = .int .i64 k ∧ v = .string (ba q) ∧ k ≤ ks.size ∧ Hid (Feeds rs (bs p) ((bs ks).take k) o q) ∧ Lib.IsBuilderF 119 5 b b (Lib.byteCells (acc ++ o)) wr ∧ Below b w wr ∧ Lib.OthersKept 5 (some b) w wr ∧ w.heap.size ≤ wr.heap.size) (fun _ i _ => ks.size - (intOf i).toNat)
  case atStart => exact ⟨0, [], bs p, rfl, by rw [ba_bs], Nat.zero_le _, Lib.hid (.nil _), by rw [List.append_nil]; exact hBl, Below.refl _ _, Lib.OthersKept.refl _ _ _, Nat.le_refl _⟩
  case round =>
    obtain ⟨k, o, q, rfl, rfl, hk, hf, hBk, hbw, how, hws⟩ := hrel
    by_cases hkl : k < ks.size
    · have hlen := hf.out.len hok
      rw [bs_len, List.length_take, bs_len] at hlen
      have hqs : (ba q).size = q.length := ba_size q
      have hes : (ks.extract k (k + 1)).size = 1 := by rw [ByteArray.size_extract]; omega
      have hS := one_more q ks k hkl
      have hT := bs_at ks k hkl
      generalize bt8 ks k = c at hS hT
      have hSz : (ba q ++ ks.extract k (k + 1)).size = q.length + 1 := by rw [hS, ba_size]; simp
      have hSb : bs (ba q ++ ks.extract k (k + 1)) = q ++ [c] := by rw [hS, bs_ba]
      have hAw := HAU.out.later hbw (Nat.le_refl _)
      obtain ⟨br, bl, ca0, ca1, haB, hq1, hq2⟩ := hAw.use
      have hq := hq2.out (ba q ++ ks.extract k (k + 1)) (by unfold maxLen; omega) (by omega) wr (Below.refl _ _)
      obtain ⟨lg, hlg⟩ : ∃ lg, longL rs (ba q ++ ks.extract k (k + 1)) = lg := ⟨_, rfl⟩
      rw [hlg] at hq
      have hlg2 : longL rs (ba (q ++ [c])) = lg := by rw [← hS]; exact hlg
      have k0 : (0 : Int) ≤ k := by omega
      have k1 : (k : Int) + 1 ≤ ks.size := by omega
      have k2 : ¬ 9223372036854775807 < (ba q).size + (ks.extract k (k + 1)).size := by omega
      have HS := Lib.hid hS
      have HT := Lib.hid hT
      have HSb := Lib.hid hSb
      have HLG := Lib.hid hlg2
      have HAW := Lib.hid hAw
      have HBK := Lib.hid hBk
      have HLN := Lib.hid hlen
      have HSZ := Lib.hid hSz
      clear hS hT hSb hlg hlg2 hq1 hq2 ca0 hAw hBk hlen hSz
      cases lg
      · have HC := Lib.hid (HAP.out b a b (ba q ++ ks.extract k (k + 1)) (acc ++ o) wr HAW.out (Nat.le_refl _) (by omega) HBK.out (by have := HSZ.out; omega) (by have := HSZ.out; have := HLN.out; omega) (by have := HSZ.out; have := HLN.out; rw [List.length_append]; omega))
        clear HAW HSZ
        go_wp2_with (go_at_call 70; (with_reducible refine HC.out.mono ?_); rintro e w4 ⟨o2, q2, rfl, hf2, hBl4, hb4, ho4, hs4⟩)
        go_roundw
        case rel =>
          refine ⟨k + 1, o ++ (appO rs (q ++ [c]) ++ o2), q2, by go_num, rfl, by omega, ?_, ?_, hbw.trans hb4, how.trans ho4, Nat.le_trans hws hs4⟩
          · refine Lib.hid ?_
            rw [HT.out]
            refine hf.out.comp ?_
            rw [HSb.out] at hf2
            exact .app HLG.out (by rw [List.append_nil]; exact hf2)
          · rw [HSb.out] at hBl4
            simpa only [List.append_assoc] using hBl4
        case measure => simp [intOf]; omega
      · clear HAW HSZ
        go_wp2
        go_roundw
        case rel =>
          refine ⟨k + 1, o, q ++ [c], by go_num, by rw [HS.out], by omega, ?_, HBK.out, hbw, how, hws⟩
          refine Lib.hid ?_
          rw [HT.out]
          have := hf.out.comp (Feeds.wait (rs := rs) (p := q) (k := c) (ks := []) HLG.out (.nil _))
          rwa [List.append_nil] at this
        case measure => simp [intOf]; omega
    · have e1 : (bs ks).take k = bs ks := List.take_of_length_le (by rw [bs_len]; omega)
      rw [e1] at hf
      clear e1
      go_wp2
      go_ret
      exact ⟨o, q, rfl, hf.out, hBk, hbw, how, hws⟩

theorem feed_all {rs : List Rule} (hok : okL rs = true) : ∀ n, FeedC rs n ∧ ApplyC rs (n + 1)
  | 0 => by
    have h0 : ApplyC rs 0 := fun B a b s acc w hA hB hbs hBl h0 hs => by omega
    have h1 := feed_of hok 0 h0
    exact ⟨h1, apply_of hok 0 h1⟩
  | n + 1 => by
    have h1 := feed_of hok (n + 1) (feed_all hok n).2
    exact ⟨h1, apply_of hok (n + 1) h1⟩

end Go.Proofs.YtamdlbefiggkfaaGreat.Aut
