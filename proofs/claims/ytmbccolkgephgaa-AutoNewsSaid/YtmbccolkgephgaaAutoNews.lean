/-
  New copies the rules: AutoNews, for every input.
-/
import Derived.Test.YtmbccolkgephgaaAutRs
import Derived.Test.YtmbccolkgephgaaRomV
import Derived.Maps.AppendAt
import Derived.Laws.OwnMore
import Derived.OpenShut
import Derived.ShutString
import Derived.ChangeOld
import Derived.HandedShaped
import Derived.LaidMore
import Derived.Lay
import Derived.SizedLaws
import Derived.Deep.DeepHandedRow
import Derived.Test.YtmbccolkgephgaaAutFr
set_option linter.unusedVariables false
set_option linter.unusedSimpArgs false
namespace Go.Proofs.Ytmbccolkgephgaa.autoNews
open Go Go.RowKit Go.ChangeShapes Go.WideShapes Go.ChangeAt Go.Proofs.Ytmbccolkgephgaa Go.Proofs.Ytmbccolkgephgaa.Kit Go.Proofs.Ytmbccolkgephgaa.Utf Go.Proofs.Ytmbccolkgephgaa.Rom Go.Proofs.Ytmbccolkgephgaa.Aut
open Go.ChangeMaps (open_string shut_string)
set_option maxRecDepth 100000

theorem info_rl : (Try.prog.info? 32).map (fun i => (i.zero, i.size, i.bytes)) = some (some (.agg #[.string { data := #[] }, .string { data := #[] }, .string { data := #[] }]), 3, 48) := by kernel_rfl
theorem cells_at {w : World} {b off : Nat} {rs : List Rule} (hx : ∀ i, i < rs.length → w.cell? ⟨b, off + i * 3, none⟩ = some (.string (ri rs i).k) ∧ w.cell? ⟨b, off + i * 3 + 1, none⟩ = some (.string (ri rs i).o) ∧ w.cell? ⟨b, off + i * 3 + 2, none⟩ = some (.string (ri rs i).n)) :
    ∀ j u, (rc rs)[j]? = some u → w.cell? ((⟨b, off, none⟩ : Addr).add j) = some u := by
  intro j u hu
  have hj : j < rs.length * 3 := by
    have := (List.getElem?_eq_some_iff.1 hu).1
    rw [rc_len] at this
    exact this
  obtain ⟨h1, h2, h3⟩ := hx (j / 3) (by omega)
  obtain ⟨g1, g2, g3⟩ := rc_at rs (j / 3) (by omega)
  rw [Addr.add_lit]
  rcases (show j = j / 3 * 3 ∨ j = j / 3 * 3 + 1 ∨ j = j / 3 * 3 + 2 by omega) with e | e | e
  · rw [← e] at h1 g1
    rw [h1, ← g1, hu]
  · rw [Nat.add_assoc, ← e] at h2
    rw [← e] at g2
    rw [h2, ← g2, hu]
  · rw [Nat.add_assoc, ← e] at h3
    rw [← e] at g3
    rw [h3, ← g3, hu]

theorem run_append_rl (w : World) (base : Nat) (v : Value) (n : Nat) (xs : List Value) (hown : w.ownsRow base 32 3 v n xs) (x : Value) (rs : List Rule) (hR : RowR w x rs) (h63 : n + rs.length ≤ 1000000) (hbase : base ≤ w.heap.size) (ty : TypeId) :
    ∃ v' w', (Builtin.append_ #[22, 22] ty #[v, x]).run Try.prog w = .ok v' w' ∧ w'.ownsRow base 32 3 v' (n + rs.length) (xs ++ rc rs) ∧ w.grownBy w' v.ownBlock := by
  obtain ⟨i0, hi0, hz0, hz1, hz2⟩ := info_parts info_rl
  obtain ⟨a, len, cap, rfl, hl, hc, hm, h⟩ := hR
  subst hl
  have h64 : n + rs.length ≤ maxLen := by unfold maxLen; omega
  rcases h with ⟨rfl, h0, hc0⟩ | ⟨x, rfl, h0⟩ | ⟨b, off, rfl, hlt, hx⟩
  · have e : rs = [] := List.eq_nil_of_length_eq_zero h0
    subst e
    subst hc0
    exact ⟨v, w, run_append_owned_none (P := Try.prog) w base _ _ _ i0 3 Try.underlying22 hi0 v n xs hown, by simpa [rc_nil] using hown, World.grownBy.refl _ _⟩
  · have e : rs = [] := List.eq_nil_of_length_eq_zero h0
    subst e
    obtain ⟨v', w', hr, h2, h3, _⟩ := run_append_own_at (P := Try.prog) w base 22 ty 32 i0 _ 3 48 Try.underlying22 hi0 hz0 hz1 hz2 rfl (by omega) v n xs hown x 0 cap [] rfl (by simp) (by simp) h64 (by simp at h63 ⊢; omega) hbase
    exact ⟨v', w', hr, h2, h3⟩
  · obtain ⟨v', w', hr, h2, h3, _⟩ := run_append_own_at (P := Try.prog) w base 22 ty 32 i0 _ 3 48 Try.underlying22 hi0 hz0 hz1 hz2 rfl (by omega) v n xs hown ⟨b, off, none⟩ rs.length cap (rc rs) (rc_len rs) (cells_at hx) (rc_oneCell rs) h64 (by omega) hbase
    exact ⟨v', w', hr, h2, h3⟩

theorem wp_append_rl {ops : Array Oper} {rest : List Oper} {o : Oper} {a : Act} {Q : Exit → Act → World → Prop} (hgd : o.guard = none) (s x : Operand)
    (ho : o.op = .call { callee := .builtin .append, args := #[s, x], argTypes := #[22, 22] })
    (w : World) (base : Nat) (v : Value) (n : Nat) (xs : List Value) (hs : a.eval s = v) (hown : w.ownsRow base 32 3 v n xs)
    (y : Value) (rs : List Rule) (hx : a.eval x = y) (hR : RowR w y rs) (h63 : n + rs.length ≤ 1000000) (hbase : base ≤ w.heap.size)
    (h : ∀ v' w', w'.ownsRow base 32 3 v' (n + rs.length) (xs ++ rc rs) → w.grownBy w' v.ownBlock → wpList Try.prog ops Q rest (a.put o.dst v') w') :
    wpList Try.prog ops Q (o :: rest) a w := by
  refine wpList_plain hgd fun K hK => ?_
  obtain ⟨v', w', hr, h2, h3⟩ := run_append_rl w base v n xs hown y rs hR h63 hbase o.type
  unfold Oper.wp execOp
  simp only [ho, resolve, invoke, builtin, Sem.run_bind, Sem.run_pure, Result.andThen_ok, List.map_toArray, List.map_cons, List.map_nil, hs, hx, hr]
  exact hK _ _ (h v' w' h2 h3)

/-- Rules of one's own: a slice, and its cells. -/
theorem own_slice {w : World} {base : Nat} {e : TypeId} {size : Nat} {v : Value} {n : Nat} {xs : List Value} (h : w.ownsRow base e size v n xs) : ∃ ad cap, v = .slice ad n cap := by
  rcases h.2 with ⟨rfl, rfl⟩ | ⟨g, cap, cur, rfl, _⟩
  · exact ⟨none, 0, rfl⟩
  · exact ⟨_, _, rfl⟩
theorem auto_set {B : Nat} {w : World} {a : Nat} {rs : List Rule} (h : AutoAt B w a rs) {g : Nat} {cs : Array Value} {fr : Nat × Nat} (hg : w.heap[g]? = some (.cells cs 32 fr)) (j : Nat) (u : Value) : AutoAt B (w.setCell ⟨g, j, none⟩ u) a rs := by
  obtain ⟨br, bl, n, m, h1, h2, h3, h4, h5, h6⟩ := h
  have e1 : a ≠ g := by
    rintro rfl
    rw [h1] at hg
    have := Option.some.inj hg
    simp at this
  have e2 : br ≠ g := by
    rintro rfl
    obtain ⟨es, c, h⟩ := h5.is_map
    rw [h] at hg
    cases hg
  have e3 : bl ≠ g := by
    rintro rfl
    obtain ⟨es, c, h⟩ := h6.is_map
    rw [h] at hg
    cases hg
  exact ⟨br, bl, n, m, by rw [heap_setCell_other _ _ _ _ e1]; exact h1, h2, h3, h4, h5.block (heap_setCell_other _ _ _ _ e2), h6.block (heap_setCell_other _ _ _ _ e3)⟩

/-- Rules of one's own after a store of a rule in them. -/
theorem own_set3 {w : World} {base : Nat} {g n cap : Nat} {xs : List Value} (h : w.ownsRow base 32 3 (.slice (some ⟨g, 0, none⟩) n cap) n xs) (i j k : Nat) (u v x : Value) :
    ∃ ys, (((w.setCell ⟨g, i, none⟩ u).setCell ⟨g, j, none⟩ v).setCell ⟨g, k, none⟩ x).ownsRow base 32 3 (.slice (some ⟨g, 0, none⟩) n cap) n ys :=
  ⟨_, ((((h.stored i u).1.stored j v).1.stored k x).1)⟩
theorem own_block {w : World} {base : Nat} {e : TypeId} {size : Nat} {g n cap : Nat} {xs : List Value} (h : w.ownsRow base e size (.slice (some ⟨g, 0, none⟩) n cap) n xs) : base ≤ g ∧ ∃ cur, w.heap[g]? = some (.cells cur e (0, 0)) := by
  rcases h.2 with ⟨h', _⟩ | ⟨g', cap', cur, h', hb, hg, _⟩
  · cases h'
  · cases h'
    exact ⟨hb, cur, hg⟩
theorem auto_set3 {B : Nat} {w : World} {a : Nat} {rs : List Rule} (h : AutoAt B w a rs) {base g n cap : Nat} {xs : List Value} (ho : w.ownsRow base 32 3 (.slice (some ⟨g, 0, none⟩) n cap) n xs) (i j k : Nat) (u v x : Value) :
    AutoAt B (((w.setCell ⟨g, i, none⟩ u).setCell ⟨g, j, none⟩ v).setCell ⟨g, k, none⟩ x) a rs := by
  obtain ⟨_, c1, h1⟩ := own_block ho
  have o2 := (ho.stored i u).1
  obtain ⟨_, c2, h2⟩ := own_block o2
  obtain ⟨_, c3, h3⟩ := own_block (o2.stored j v).1
  exact auto_set (auto_set (auto_set h h1 i u) h2 j v) h3 k x

set_option maxHeartbeats 8000000 in
theorem walk (a0 : Option Addr) (len0 cap0 : Nat) (z0 : List Rule) (a1 : ByteArray) (w : World) (w0 : RowR w (.slice a0 len0 cap0) z0) (w1 : a1.size ≤ maxLen) (s1 : a1.size ≤ 140737488351232) (hm : MaxL w) (hG : 0 < w.heap.size) :
    Calls Try.prog 3 #[.slice a0 len0 cap0, .string a1] w fun e w' => e = .returned (.bool true) ∧ Below w.heap.size w w' := by
  have HL := Lib.hid (light_any (.slice a0 len0 cap0) z0 a1 w w0 s1)
  have HR := Lib.hid w0
  have HWK := Lib.hid works_any
  have HML := Lib.hid hm
  by_cases hlt : Lt z0 a1
  rotate_left
  · have HLT := Lib.hid hlt
    clear w0 w1 s1 hm hlt
    go_enter Try.func3, Try.ntmps3
    go_wp2_with (go_at_call 14; (with_reducible refine HL.out.mono ?_); rintro e w1 ⟨x, rfl, hw1, hx⟩; obtain rfl := hw1.symm; obtain rfl : x = false := Bool.eq_false_iff.2 (fun h => HLT.out (hx.1 h)); clear hx)
    go_ret
    exact ⟨rfl, Below.refl _ _⟩
  have hsh := hlt.short
  have h200 := hlt.2.1
  have hlz := hlt.1
  have HLT := Lib.hid hlt
  have HGV : Hid (∀ W, Below w.heap.size w W → Calls Try.prog 17 #[.slice a0 len0 cap0] W fun e w' => ∃ v', e = .returned v' ∧ Hid (RowR w' v' z0) ∧ Below W.heap.size W w') := Lib.hid fun W hW => (gvn6_any _ z0 W (HR.out.later hW (Nat.le_refl _)) (by omega)).mono fun e w' ⟨v', he, hown, hb⟩ => ⟨v', he, Lib.hid (row_of_own hown).1, hb⟩
  have HC := Lib.hid (fun v W (h : RowR W v z0) => rcheck_any v z0 W h hsh)
  have HOE := Lib.hid (World.ownsRow_lit (e := 32) (size := 3) (base := w.heap.size) w #[] 0 (Nat.le_refl _) (by simp [maxLen]) rfl)
  have hb0 := (Below.refl w.heap.size w).alloc (Nat.le_refl _) (Obj.cells #[] 32)
  have HRA := Lib.hid (HR.out.later hb0 (Nat.le_refl _))
  by_cases hc : checkL z0 = 0
  rotate_left
  · have HN := Lib.hid (fun v W (h : RowR W v z0) => new_no h hsh hc)
    have hne : (checkL z0 != 0) = true := by simpa using hc
    generalize checkL z0 = E at HN hne HC
    clear w0 w1 s1 hm hlt hc hsh h200
    go_enter Try.func3, Try.ntmps3
    go_wp2_with (first
      | (go_at_call 14; (with_reducible refine HL.out.mono ?_); rintro e w1 ⟨x, rfl, hw1, hx⟩; obtain rfl := hw1.symm; obtain rfl : x = true := hx.2 HLT.out; clear hx)
      | (at_builtin; refine wp_append_rl (by rfl) _ _ (by rfl) _ w.heap.size _ 0 [] (by rfl) HOE.out _ z0 (by rfl) HRA.out (by omega) (by simp) ?_; intro v2 w2 hown2 hg2; rw [Nat.zero_add, List.nil_append] at hown2; have hbw2 := hb0.grown hg2 (by simp) (fun j hj => (HOE.out.lt j hj).1); obtain ⟨ad, cap2, rfl⟩ := own_slice hown2; have hr2 := Lib.hid (row_of_own hown2).1)
      | (go_at_call 15; (with_reducible refine (HN.out _ _ hr2.out).mono ?_); rintro e w3 ⟨rfl, hb3⟩; have hbw3 := hbw2.trans (hb3.mono hbw2.size))
      | (go_at_call 17; (with_reducible refine (HGV.out _ hbw3).mono ?_); rintro e w4 ⟨v4, rfl, hv4, hb4⟩; have hbw4 := hbw3.trans (hb4.mono hbw3.size))
      | (go_at_call 16; (with_reducible refine (HC.out _ _ hv4.out).mono ?_); rintro e w5 ⟨rfl, hb5⟩; have hbw5 := hbw4.trans (hb5.mono hbw4.size)))
    have hown5 := own_later (own_later (own_later hown2 hb3) hb4) hb5
    go_loopw [9] (fun i wr => ∃ k : Nat, i = .int .i64 k ∧ k ≤ z0.length ∧ (∃ xs, wr.ownsRow w.heap.size 32 3 (.slice ad z0.length cap2) z0.length xs) ∧ Below w.heap.size w wr) (fun i _ => z0.length - (intOf i).toNat)
    case atStart => exact ⟨0, rfl, Nat.zero_le _, ⟨_, hown5⟩, hbw5⟩
    case round =>
      obtain ⟨k, rfl, hk, ⟨xs, hown⟩, hbr⟩ := hrel
      by_cases hkl : k < z0.length
      · obtain ⟨g, rfl⟩ : ∃ g, ad = some ⟨g, 0, none⟩ := by
          rcases hown.2 with ⟨h, h0⟩ | ⟨g, c, cur, h, _⟩
          · omega
          · cases h; exact ⟨g, rfl⟩
        have hxl := hown.1
        obtain ⟨v0, e0⟩ : ∃ v, wr.cell? ⟨g, k * 3, none⟩ = some v := ⟨_, by rw [hown.cellAt _ (by omega)]; exact List.getElem?_eq_getElem (by omega)⟩
        obtain ⟨v1, e1⟩ : ∃ v, wr.cell? ⟨g, k * 3 + 1, none⟩ = some v := ⟨_, by rw [hown.cellAt _ (by omega)]; exact List.getElem?_eq_getElem (by omega)⟩
        obtain ⟨v2, e2⟩ : ∃ v, wr.cell? ⟨g, k * 3 + 2, none⟩ = some v := ⟨_, by rw [hown.cellAt _ (by omega)]; exact List.getElem?_eq_getElem (by omega)⟩
        have f0 := hown.frozenAt (k * 3)
        have f1 := hown.frozenAt (k * 3 + 1)
        have f2 := hown.frozenAt (k * 3 + 2)
        have HOW := Lib.hid hown
        have k0 : (0 : Int) ≤ k := by omega
        have k1 : (k : Int) < z0.length := by omega
        clear hown hown2 hown5 hxl hg2
        go_wp2
        have hbg := (own_block HOW.out).1
        exact ⟨⟨k + 1, by go_num, by omega, own_set3 HOW.out _ _ _ _ _ _, ((hbr.setCell (p := ⟨g, _, none⟩) hbg _).setCell (p := ⟨g, _, none⟩) hbg _).setCell (p := ⟨g, _, none⟩) hbg _⟩, by simp [intOf]; omega⟩
      · clear hown hown2 hown5 hg2
        go_wp2_with (go_at_call 18; (with_reducible refine (HWK.out _ (HML.out.later hbr hG) (Nat.lt_of_lt_of_le hG hbr.size)).mono ?_); rintro e w9 ⟨rfl, hb9⟩)
        go_ret
        exact ⟨rfl, hbr.trans (hb9.mono hbr.size)⟩
  obtain ⟨_, hok⟩ := ok_of_check hc
  have HN := Lib.hid (fun v W (h : RowR W v z0) => new_yes h hsh hc)
  rw [hc] at HC
  obtain ⟨O, hO⟩ : ∃ O, ba (fd z0 [] (keysOf (bs a1))).1 = O := ⟨_, rfl⟩
  obtain ⟨Q, hQ⟩ : ∃ Q, ba (fd z0 [] (keysOf (bs a1))).2 = Q := ⟨_, rfl⟩
  have hRun : Hid (∀ (B a : Nat) (W : World), AutoAt B W a z0 → B ≤ W.heap.size → Calls Try.prog 19 #[.pointer (some ⟨a, 0, none⟩), .string a1] W fun e w' => e = .returned (.tuple #[.string O, .string Q]) ∧ Below W.heap.size W w') := Lib.hid fun B a W hA hB => by
    have h := run_any hok B a a1 W hA hB (by omega)
    rw [hO, hQ] at h
    exact h
  have hRR : Hid (∀ (v : Value) (W : World), RowR W v z0 → Calls Try.prog 20 #[v, .string a1] W fun e w' => e = .returned (.tuple #[.string O, .string Q]) ∧ Below W.heap.size W w') := Lib.hid fun v W hv => by
    have h := rrun_any v z0 a1 W hv hok hsh (by omega)
    rw [hO, hQ] at h
    exact h
  clear w0 w1 s1 hm hlt hc hsh h200 hO hQ hok
  go_enter Try.func3, Try.ntmps3
  go_wp2_with (first
    | (go_at_call 14; (with_reducible refine HL.out.mono ?_); rintro e w1 ⟨x, rfl, hw1, hx⟩; obtain rfl := hw1.symm; obtain rfl : x = true := hx.2 HLT.out; clear hx)
    | (at_builtin; refine wp_append_rl (by rfl) _ _ (by rfl) _ w.heap.size _ 0 [] (by rfl) HOE.out _ z0 (by rfl) HRA.out (by omega) (by simp) ?_; intro v2 w2 hown2 hg2; rw [Nat.zero_add, List.nil_append] at hown2; have hbw2 := hb0.grown hg2 (by simp) (fun j hj => (HOE.out.lt j hj).1); obtain ⟨ad, cap2, rfl⟩ := own_slice hown2; have hr2 := Lib.hid (row_of_own hown2).1)
    | (go_at_call 15; (with_reducible refine (HN.out _ _ hr2.out).mono ?_); rintro e w3 ⟨a, rfl, hA3, hb3⟩; have hbw3 := hbw2.trans (hb3.mono hbw2.size))
    | (go_at_call 17; (with_reducible refine (HGV.out _ hbw3).mono ?_); rintro e w4 ⟨v4, rfl, hv4, hb4⟩; have hbw4 := hbw3.trans (hb4.mono hbw3.size))
    | (go_at_call 16; (with_reducible refine (HC.out _ _ hv4.out).mono ?_); rintro e w5 ⟨rfl, hb5⟩; have hbw5 := hbw4.trans (hb5.mono hbw4.size)))
  have hown5 := own_later (own_later (own_later hown2 hb3) hb4) hb5
  have hA5 := (hA3.later hb4 (Nat.le_refl _)).later hb5 hb4.size
  have hB5 := Nat.le_trans hb4.size hb5.size
  go_loopw [9] (fun i wr => ∃ k : Nat, i = .int .i64 k ∧ k ≤ z0.length ∧ (∃ xs, wr.ownsRow w.heap.size 32 3 (.slice ad z0.length cap2) z0.length xs) ∧ Below w.heap.size w wr ∧ AutoAt w3.heap.size wr a z0 ∧ w3.heap.size ≤ wr.heap.size) (fun i _ => z0.length - (intOf i).toNat)
  case atStart => exact ⟨0, rfl, Nat.zero_le _, ⟨_, hown5⟩, hbw5, hA5, hB5⟩
  case round =>
    obtain ⟨k, rfl, hk, ⟨xs, hown⟩, hbr, hAr, hBr⟩ := hrel
    by_cases hkl : k < z0.length
    · obtain ⟨g, rfl⟩ : ∃ g, ad = some ⟨g, 0, none⟩ := by
        rcases hown.2 with ⟨h, h0⟩ | ⟨g, c, cur, h, _⟩
        · omega
        · cases h; exact ⟨g, rfl⟩
      have hxl := hown.1
      obtain ⟨v0, e0⟩ : ∃ v, wr.cell? ⟨g, k * 3, none⟩ = some v := ⟨_, by rw [hown.cellAt _ (by omega)]; exact List.getElem?_eq_getElem (by omega)⟩
      obtain ⟨v1, e1⟩ : ∃ v, wr.cell? ⟨g, k * 3 + 1, none⟩ = some v := ⟨_, by rw [hown.cellAt _ (by omega)]; exact List.getElem?_eq_getElem (by omega)⟩
      obtain ⟨v2, e2⟩ : ∃ v, wr.cell? ⟨g, k * 3 + 2, none⟩ = some v := ⟨_, by rw [hown.cellAt _ (by omega)]; exact List.getElem?_eq_getElem (by omega)⟩
      have f0 := hown.frozenAt (k * 3)
      have f1 := hown.frozenAt (k * 3 + 1)
      have f2 := hown.frozenAt (k * 3 + 2)
      have HOW := Lib.hid hown
      have k0 : (0 : Int) ≤ k := by omega
      have k1 : (k : Int) < z0.length := by omega
      clear hown hown2 hown5 hxl hg2 hA3 hA5
      have HAR := Lib.hid hAr
      clear hAr
      go_wp2
      have hbg := (own_block HOW.out).1
      exact ⟨⟨k + 1, by go_num, by omega, own_set3 HOW.out _ _ _ _ _ _, ((hbr.setCell (p := ⟨g, _, none⟩) hbg _).setCell (p := ⟨g, _, none⟩) hbg _).setCell (p := ⟨g, _, none⟩) hbg _, auto_set3 HAR.out HOW.out _ _ _ _ _ _, by simpa using hBr⟩, by simp [intOf]; omega⟩
    · clear hown hown2 hown5 hg2 hA3 hA5
      go_wp2_with (first
        | (go_at_call 19; (with_reducible refine (hRun.out _ _ _ hAr hBr).mono ?_); rintro e w6 ⟨rfl, hb6⟩; have hbw6 := hbr.trans (hb6.mono hbr.size); clear hbw3)
        | (go_at_call 17; (with_reducible refine (HGV.out _ hbw6).mono ?_); rintro e w7 ⟨v7, rfl, hv7, hb7⟩; have hbw7 := hbw6.trans (hb7.mono hbw6.size))
        | (go_at_call 20; (with_reducible refine (hRR.out _ _ hv7.out).mono ?_); rintro e w8 ⟨rfl, hb8⟩; have hbw8 := hbw7.trans (hb8.mono hbw7.size))
        | (go_at_call 18; (with_reducible refine (HWK.out _ (HML.out.later hbw8 hG) (Nat.lt_of_lt_of_le hG hbw8.size)).mono ?_); rintro e w9 ⟨rfl, hb9⟩))
      go_ret
      exact ⟨rfl, hbw8.trans (hb9.mono hbw8.size)⟩
theorem own : ownKnob Try.prog.godebug = none := by kernel_rfl
theorem laidOut : laidOutB Try.prog = true := by kernel_rfl

set_option maxRecDepth 100000 in
theorem lifted (os : Os) (started : os.Started) (H : Type) (enc : TypeId × Value → H) :
    ReturnsInHanded {} Try.checked os 3 .any (Rows.autoNewsSpec.pre6 enc Try.prog Try.f3 Rows.autoNewsRow.domain false) (Rows.autoNewsSpec.post enc Try.prog Try.f3 false true false false) := by
  refine returnsInHanded_of_change_shaped (C := Try.checked) own started (by kernel_rfl) Try.func3
    (ChangeSpec.witness6 (enc := enc) (C := Try.checked) false ⟨#[], #[.slice none 0 0, .string ByteArray.empty], []⟩ 8 (by kernel_rfl) (by kernel_rfl) (by kernel_rfl) (by kernel_rfl)) ?_
  intro W base args ds gs before hval0 hW hcnd hsz0 hsh _
  have hval : ∀ (j : Nat) t v, Try.f3.params[j]? = some t → args[j]? = some v → Value.okWide Try.prog W .any base t v := hval0
  have hW' := hW
  obtain ⟨p, q, hA0, hV, rfl, hfz, hnd⟩ := hW
  have hA : DataW.TrodAll enc Try.prog W 0 (fun _ => true) true Try.f3.params.toList args.toList ds p := hA0
  rw [Try.params3] at hA hval
  obtain ⟨v0, vs0, d0, ds0, p0, q0, hargs, rfl, rfl, h0, r0⟩ := trodAll_cons hA
  obtain ⟨v1, vs1, d1, ds1, p1, q1, rfl, rfl, rfl, h1, r1⟩ := trodAll_cons r0
  obtain ⟨rfl, rfl, rfl⟩ := trodAll_nil r1
  obtain rfl : args = #[v0, v1] := by cases args; simp_all
  obtain ⟨rfl, rfl⟩ := trodVars_none hV
  obtain ⟨a0, len0, cap0, rfl⟩ := okWide_slice Try.underlying22 (hval 0 22 v0 rfl rfl)
  have k0 := h0
  have lt0 : ∀ x ∈ p0, x.block < W.heap.size := by obtain ⟨m, hm⟩ := k0; exact DataW.trod_lt m _ _ _ hm
  obtain ⟨z0, w0⟩ : ∃ rs, RowR W (.slice a0 len0 cap0) rs := by
    obtain ⟨fuel, hf⟩ := h0
    exact rules_open hf
  obtain ⟨a1, rfl, rfl, rfl, w1⟩ := open_string Try.underlying9 (hval 1 9 v1 rfl rfl) h1
  clear hA0 hval0
  have hsz : (DataW.weightsEach Try.prog (Try.f3.params.toList ++ Rows.autoNewsSpec.plain.varTypes Try.prog) (_ ++ _)).all (· ≤ reachBytes) = true := hsz0
  rw [Try.params3] at hsz
  have sz1 := sized_string hsz (j := 1) (t := 9) rfl rfl
  refine (walk a0 len0 cap0 z0 a1 W w0 w1 (by have := sz1; simp only [reachBytes, Array.length_toList] at this; exact this) (maxL_of hsh).1 (maxL_of hsh).2).mono fun e W' ⟨he, bel⟩ => ?_
  subst he
  exact ⟨_, rfl, _, _, _, [], _, [], hW', trodAll_mk1 (shut_bool Try.underlying4 _), (trodAll_cons_mk (Below.trod laidOut (by kernel_rfl) (of_decide_eq_true (by kernel_rfl)) k0 bel lt0) (trodAll_cons_mk (shut_string Try.underlying9 w1) trodAll_mk0)), rfl, bel.frame _, fun h => by cases h⟩

theorem over : Rows.autoNewsRow.holds Try.pinned (OpenSpec.ofChange Rows.autoNewsSpec) :=
  OpenClaim.holds_of_wide 3 Try.f3 rfl rfl rfl rfl rfl rfl rfl ⟨rfl, rfl, rfl, rfl, rfl⟩ rfl rfl rfl rfl rfl (by kernel_rfl) Try.func3 (by kernel_rfl)
    (of_decide_eq_true (by kernel_rfl)) (by unfold Func.isWrapper; first | (rw [if_pos (by decide +kernel)]; kernel_rfl) | (rw [if_neg (by decide +kernel)]; exact ⟨rfl, rfl⟩))
    (fun os started H enc _ => lifted os started H enc)

theorem proved : Rows.AutoNewsSaid := over
end Go.Proofs.Ytmbccolkgephgaa.autoNews
