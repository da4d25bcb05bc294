/-
  Contract of keysTo; states compared.
-/
import Derived.Test.YtmbccolkgephgaaAutV
import Derived.Test.YtmbccolkgephgaaRomEq
import Derived.Laws.StructEq
set_option linter.unusedVariables false
set_option linter.unusedSimpArgs false
set_option maxRecDepth 100000
namespace Go.Proofs.Ytmbccolkgephgaa.Aut
open Go Go.RowKit Go.Proofs.Ytmbccolkgephgaa.Kit Go.Proofs.Ytmbccolkgephgaa.Utf Go.Proofs.Ytmbccolkgephgaa.Rom

theorem eq_st (a b : Nat) (s t : ByteArray) (w : World) : (Op.equalIn 10000 71 (.agg #[.int .i64 a, .string s]) (.agg #[.int .i64 b, .string t])).run Try.prog w = .ok (decide (a = b ∧ s = t)) w := by
  have u3 := Try.underlying9
  have a3 := Try.isAgg9
  have z3 := Try.sizeOf9
  have u4 := Try.underlying3
  have a4 := Try.isAgg3
  have z4 := Try.sizeOf3
  have hS : Try.prog.underlying 71 = some (.struct (Try.prog.fieldsOf 71)) := by kernel_rfl
  have hp : Try.prog.stoodInHeld 71 = false := by kernel_rfl
  have e : decide (a = b ∧ s = t) = (decide (a = b) && decide (s = t)) := by rw [Bool.decide_and]
  rw [show (10000 : Nat) = 9999 + 1 from rfl, run_equalIn_agg w 9999 71 _ _ hS hp]
  simp only [Program.fieldsOf, Try.underlying71]
  rw [e, ← str_beq2]
  have hab : ((a : Int) = b) = (a = b) := propext (by omega)
  go_simp
  by_cases h1 : a = b <;> by_cases h2 : s.toList = t.toList <;> simp [h1, h2, hab]
theorem guard_st : Try.prog.eqGuardType Try.prog.depth 71 = false := by kernel_rfl

theorem field_ar1 (n : Int) (p : ByteArray) (c : Int) (w : World) : (Instr.field 73 (.agg #[.int .i64 n, .string p, .int .u8 c]) 1).run Try.prog w = .ok (.int .u8 c) w := by kernel_rfl
theorem field_ar0 (n : Int) (p : ByteArray) (c : Int) (w : World) : (Instr.field 73 (.agg #[.int .i64 n, .string p, .int .u8 c]) 0).run Try.prog w = .ok (.agg #[.int .i64 n, .string p]) w := by kernel_rfl

theorem pend_len {rs : List Rule} (hok : okL rs = true) {p : By} (h : Pend rs p) : p.length ≤ 4 := by
  rcases h with rfl | h
  · simp
  · unfold longL at h
    rw [List.any_eq_true] at h
    obtain ⟨r, hr, h⟩ := h
    unfold longR at h
    rw [Bool.and_eq_true, decide_eq_true_eq, ba_size] at h
    have := (okR_next (ok_of hok hr)).2.1
    omega
theorem Inv.pend {rs : List Rule} {s : By} (hok : okL rs = true) {Q : List Nd} {i : Nat} {cs : By} (h : Inv rs s Q i cs) {x : Nd} (hx : x ∈ Q) : Pend rs x.p ∧ x.p.length ≤ 4 ∧ AllK x.p ∧ x.n ≤ s.length := by
  obtain ⟨h1, h2, h3⟩ := h.good x hx
  have := h3.pend (.inl rfl)
  exact ⟨this, pend_len hok this, h3.keys hok AllK.nil h1, h2⟩
/-- The state before. -/
theorem Inv.before {rs : List Rule} {s : By} {Q : List Nd} {i : Nat} {cs : By} (h : Inv rs s Q i cs) {y : Nd} (hy : y ∈ Q) : (y.n = 0 ∧ y.p = [] ∧ y.w = []) ∨ (¬ (y.n = 0 ∧ y.p = []) ∧ ∃ x ∈ Q, y.w = x.w ++ [y.c] ∧ y.bn = x.n ∧ y.bp = x.p) := by
  obtain ⟨T, hQ, hT⟩ := h.first
  have h0 : Q[0]? = some nd0 := by rw [hQ]; rfl
  by_cases e : y = nd0
  · subst e; exact .inl ⟨rfl, rfl, rfl⟩
  · refine .inr ⟨fun ⟨h1, h2⟩ => e ?_, ?_⟩
    · obtain ⟨j, hj⟩ := mem_at hy
      have := h.same hj h0 h1 h2
      subst this
      rw [h0] at hj; cases hj; rfl
    · rw [hQ] at hy
      rcases List.mem_cons.1 hy with rfl | hy
      · exact absurd rfl e
      · obtain ⟨_, j, x, hj, _, h1, h2, h3⟩ := hT y hy
        exact ⟨x, List.mem_of_getElem? hj, h1, h2, h3⟩

def sliceLen (v : Value) : Nat := match v with
  | .slice _ n _ => n
  | _ => 0
theorem sliceLen_own {w : World} {base : Nat} {e : TypeId} {sz n : Nat} {v : Value} {xs : List Value} (h : w.ownsRow base e sz v n xs) : sliceLen v = n := by
  rcases h.2 with ⟨rfl, h0⟩ | ⟨g, cap, cur, rfl, _⟩
  · exact h0.symm
  · rfl

set_option maxHeartbeats 4000000 in
theorem keysTo_any {rs : List Rule} (hok : okL rs = true) {s : By} {Q : List Nd} {i : Nat} {cs : By} (hI : Inv rs s Q i cs) (hs : s.length ≤ 1000000) (x : Nd) (hx : x ∈ Q) (hl : x.w.length ≤ 100000000) (b m : Nat) (w : World) (hM : MapF 71 eSt w b m (arr Q)) :
    Calls Try.prog 43 #[.map (some b), .agg #[.int .i64 x.n, .string (ba x.p)]] w fun e w' => e = .returned (.string (ba x.w)) ∧ Below w.heap.size w w' := by
  obtain ⟨i0, hi0, hz0, hz1, hz2⟩ := info_parts Clone.info_u8
  have HX : Hid (∀ y ∈ Q, (y.n = 0 ∧ y.p = [] ∧ y.w = []) ∨ (¬ (y.n = 0 ∧ y.p = []) ∧ ∃ x ∈ Q, y.w = x.w ++ [y.c] ∧ y.bn = x.n ∧ y.bp = x.p)) := Lib.hid fun y hy => hI.before hy
  have HG : Hid (∀ (y : Nd), y ∈ Q → ∀ W, Below w.heap.size w W → (Instr.lookup 74 (.map (some b)) (.agg #[.int .i64 y.n, .string (ba y.p)]) false).run Try.prog W = .ok (.agg #[.int .i64 y.bn, .string (ba y.bp), .int .u8 y.c.toNat]) W) := Lib.hid fun y hy W hW => by
    obtain ⟨_, hp, _, hn⟩ := hI.pend hok hy
    obtain ⟨l, hl⟩ := key_st (n := y.n) (s := ba y.p) (by omega) (by rw [ba_size]; unfold maxLen; omega)
    have := (hM.later hW hM.lt).get law_st Try.underlying74 (zeroAr W) hl
    rw [arr_at hI hy] at this
    exact this
  have HN : Hid (∀ y ∈ Q, y.n ≤ 1000000) := Lib.hid fun y hy => by have := (hI.pend hok hy).2.2.2; omega
  clear hI hM
  go_enter Try.func43, Try.ntmps43
  go_wp2
  obtain ⟨g, hg⟩ : ∃ g, w.heap.size = g := ⟨_, rfl⟩
  have hbx := heap_alloc_new w (Obj.cells #[.int .i64 x.n, .string (ba x.p)] 71)
  have hb0 : Below w.heap.size w (w.alloc (Obj.cells #[.int .i64 x.n, .string (ba x.p)] 71)) := (Below.refl _ _).alloc (Nat.le_refl _) _
  have hsz : (w.alloc (Obj.cells #[.int .i64 x.n, .string (ba x.p)] 71)).heap.size = w.heap.size + 1 := by simp
  rw [hg] at hbx hb0 hsz HG
  rw [hg]
  obtain ⟨W, hW⟩ : ∃ W, w.alloc (Obj.cells #[.int .i64 x.n, .string (ba x.p)] 71) = W := ⟨_, rfl⟩
  rw [hW] at hbx hb0 hsz ⊢
  have HGS := Lib.hid hg
  clear hW hg
  go_loopw [5] (fun v wr => ∃ (y : Nd) (ks : By), Hid (y ∈ Q) ∧ Hid (y.w ++ ks.reverse = x.w) ∧ wr.ownsRow (g + 1) 5 1 v ks.length (u8s ks) ∧ Below g w wr ∧ g + 1 ≤ wr.heap.size ∧ wr.heap[g]? = some (Obj.cells #[.int .i64 y.n, .string (ba y.p)] 71 (0, 0))) (fun v _ => x.w.length - sliceLen v)
  case atStart => exact ⟨x, [], Lib.hid hx, Lib.hid (by simp), World.ownsRow_nil _ _ _ _, hb0, by omega, hbx⟩
  case round =>
    obtain ⟨y, ks, hyQ, hyw, hown, hbw, hws, hbx⟩ := hrel
    have c0 : wr.cell? ⟨g, 0, none⟩ = some (.int .i64 y.n) := by rw [cell_of_row wr _ 0 _ _ _ hbx]; rfl
    have c1 : wr.cell? ⟨g, 1, none⟩ = some (.string (ba y.p)) := by rw [cell_of_row wr _ 1 _ _ _ hbx]; rfl
    have heq : ∀ W : World, (Op.equalIn 10000 71 (.agg #[.int .i64 y.n, .string (ba y.p)]) (.agg #[.int .i64 0, .string ⟨#[]⟩])).run Try.prog W = .ok (decide (y.n = 0 ∧ ba y.p = ⟨#[]⟩)) W := fun W => eq_st y.n 0 (ba y.p) ⟨#[]⟩ W
    have hf1 := field_ar1
    have hf0 := field_ar0
    have hgd := guard_st
    have hyn := HN.out y hyQ.out
    have hgdc : ∀ j, wr.frozen? ⟨g, j, none⟩ = false := fun j => by unfold World.frozen?; rw [show wr.heap[(⟨g, j, none⟩ : Addr).block]? = _ from hbx]; simp
    rcases HX.out y hyQ.out with ⟨h1, h2, h3⟩ | ⟨hne, x', hx', hw', hn', hp'⟩
    · have hd : decide (y.n = 0 ∧ ba y.p = ⟨#[]⟩) = true := by rw [decide_eq_true_eq]; exact ⟨h1, by rw [h2]; rfl⟩
      rw [hd] at heq
      rw [h3, List.nil_append] at hyw
      clear hd h1 h2 h3
      have hxl := hl
      rw [← hyw.out, List.length_reverse] at hxl
      have HR := Lib.hid (fun W (h : W.ownsRow (g + 1) 5 1 u5 ks.length (u8s ks)) => rev_any ks (g + 1) u5 W h (by omega))
      go_wp2_with (go_at_call 60; (with_reducible refine (HR.out _ hown).mono ?_); rintro e w3 ⟨rfl, hown3, hb3⟩; have hcv := conv_bytes (P := Try.prog) (src := 47) (dst := 9) (by rw [← List.length_reverse] at hown3; exact hown3) Try.underlying47 Try.underlying5 Try.underlying9; rw [hyw.out] at hcv)
      go_ret
      exact ⟨rfl, by rw [HGS.out]; exact hbw.trans (hb3.mono (by omega))⟩
    · have hd : decide (y.n = 0 ∧ ba y.p = ⟨#[]⟩) = false := by
        rw [decide_eq_false_iff_not]
        rintro ⟨h1, h2⟩
        refine hne ⟨h1, ?_⟩
        rw [← bs_ba y.p, h2]
      rw [hd] at heq
      have hlk := HG.out y hyQ.out wr hbw
      have hln : y.w.length + ks.length ≤ x.w.length := by rw [← hyw.out]; simp
      have hln2 : ks.length + 1 ≤ x.w.length := by rw [hw'] at hln; simp at hln; omega
      have hyw2 : x'.w ++ (ks ++ [y.c]).reverse = x.w := by rw [← hyw.out, hw']; simp
      have HQ := Lib.hid hx'
      have HW2 := Lib.hid hyw2
      have HN2 := Lib.hid hn'
      have HP2 := Lib.hid hp'
      have hsl := Lib.hid (sliceLen_own hown)
      obtain ⟨L, hL⟩ : ∃ L, ks.length = L := ⟨_, rfl⟩
      rw [hL] at hown hln2 hsl
      have HL := Lib.hid hL
      have HLK := Lib.hid (fun W hW => HG.out y hyQ.out W hW)
      have hcu : y.c.toNat < 256 := y.c.toNat_lt
      generalize y.c = c at *
      clear hd hne hx' hw' hn' hp' hyw2 hln hL hyw
      go_wp2_with (at_builtin; refine wpList_append_own _ rfl _ _ _ rfl (g + 1) 5 i0 (.int .u8 0) 1 1 Try.underlying47 hi0 hz0 hz1 hz2 rfl (by decide) _ L (u8s ks) rfl (hown.alloc _) ⟨wr.heap.size, 0, none⟩ 1 1 [.int .u8 c.toNat] rfl rfl (cell_one_new _ _ _) ?c2 ?c3 ?c4 ?c5 ?_)
      case c2 => intro u hu; rw [List.mem_singleton] at hu; subst hu; rfl
      case c3 => unfold maxLen; omega
      case c4 => omega
      case c5 => simp; omega
      intro v' w5 hown5 hg5 _
      have hb5 : Below g w w5 := (hbw.alloc (by omega) _).grown hg5 (by simp; omega) (fun j hj => by have := (hown.lt j hj).1; omega)
      have hbx5 : w5.heap[g]? = some (Obj.cells #[.int .i64 y.n, .string (ba y.p)] 71 (0, 0)) := by
        rw [hg5.block g (by simp; omega) (fun e => by have := (hown.lt g e.symm).1; omega)]
        rw [((Below.refl wr.heap.size wr).alloc (Nat.le_refl _) _).block g (by omega)]
        exact hbx
      have hws5 : g + 1 ≤ w5.heap.size := Nat.le_trans hws (Nat.le_trans (by simp) hg5.size)
      have d0 : w5.cell? ⟨g, 0, none⟩ = some (.int .i64 y.n) := by rw [cell_of_row w5 _ 0 _ _ _ hbx5]; rfl
      have d1 : w5.cell? ⟨g, 1, none⟩ = some (.string (ba y.p)) := by rw [cell_of_row w5 _ 1 _ _ _ hbx5]; rfl
      have d2 : ∀ j, w5.frozen? ⟨g, j, none⟩ = false := fun j => by unfold World.frozen?; rw [show w5.heap[(⟨g, j, none⟩ : Addr).block]? = _ from hbx5]; simp
      have hlk5 := HLK.out w5 hb5
      have hbx6 : (((w5.setCell ⟨g, 0, none⟩ (.int .i64 y.bn)).setCell ⟨g, 1, none⟩ (.string (ba y.bp)))).heap[g]? = some (Obj.cells #[.int .i64 y.bn, .string (ba y.bp)] 71 (0, 0)) :=
        heap_setCell_same _ g 1 _ _ _ (heap_setCell_same w5 g 0 _ _ _ hbx5)
      have HB6 := Lib.hid hbx6
      have hown6 := own_setCell_below (own_setCell_below hown5 (p := ⟨g, 0, none⟩) (by show g < g + 1; omega) (.int .i64 y.bn)) (p := ⟨g, 1, none⟩) (by show g < g + 1; omega) (.string (ba y.bp))
      have HO6 := Lib.hid hown6
      have hb6 : Below g w ((w5.setCell ⟨g, 0, none⟩ (.int .i64 y.bn)).setCell ⟨g, 1, none⟩ (.string (ba y.bp))) := Below.setCell (Below.setCell hb5 (by exact Nat.le_refl g) _) (by exact Nat.le_refl g) _
      have HBB := Lib.hid hb6
      clear hown5 hbx5 hbx6 hown6 hb6 hb5 hbx c0 c1 hgdc hown
      go_wp2
      go_roundw
      case rel =>
        refine ⟨x', ks ++ [c], HQ, HW2, ?_, HBB.out, ?_, ?_⟩
        · rw [List.length_append, List.length_singleton, HL.out, u8s_append]
          exact HO6.out
        · simp; omega
        · rw [← HN2.out, ← HP2.out]; exact HB6.out
      case measure =>
        rw [sliceLen_own HO6.out, hsl.out]
        omega

end Go.Proofs.Ytmbccolkgephgaa.Aut
