/-
  Contract of the reference's put: a rule put in its place.
-/
import Derived.Test.YtpaeppklkicngaaDoorRomLa
set_option linter.unusedVariables false
set_option linter.unusedSimpArgs false
set_option maxRecDepth 100000
namespace Go.Proofs.YtpaeppklkicngaaDoor.Rom
open Go Go.RowKit Go.Proofs.YtpaeppklkicngaaDoor.Kit Go.Proofs.YtpaeppklkicngaaDoor.Utf

/-- r put ahead of the first rule with greater keys. -/
def putL : List Rule → Rule → List Rule
  | [], r => [r]
  | x :: xs, r => if Op.bytesLess r.k.toList x.k.toList then r :: x :: xs else x :: putL xs r
theorem putL_len (r : Rule) : ∀ rs, (putL rs r).length = rs.length + 1 := by
  intro rs
  induction rs with
  | nil => rfl
  | cons x xs ih => unfold putL; split <;> simp [ih]
theorem drop_ri {rs : List Rule} {k : Nat} (h : k < rs.length) : rs.drop k = ri rs k :: rs.drop (k + 1) := by
  rw [List.drop_eq_getElem_cons h]
  congr 1
  unfold ri
  rw [List.getD_eq_getElem?_getD, List.getElem?_eq_getElem h]
  rfl

theorem own_at {w W2 : World} {n base : Nat} {e : TypeId} {size m : Nat} {v : Value} {xs : List Value} (h : w.drewN n = W2) (hown : w.ownsRow base e size v m xs) : W2.ownsRow base e size v m xs := by rw [← h]; exact hown
/-- Where the loop stands. -/
structure PutRel (rs : List Rule) (r : Rule) (w : World) (iv dv out : Value) (wr : World) : Prop where
  ex : ∃ (k : Nat) (d : Bool) (acc : List Rule), iv = .int .i64 k ∧ dv = .bool d ∧ k ≤ rs.length ∧ acc.length ≤ k + d.toNat ∧ wr.ownsRow (w.heap.size + 1) 43 3 out acc.length (rc acc) ∧ Below w.heap.size w wr ∧ w.heap.size + 1 ≤ wr.heap.size ∧
    wr.heap[w.heap.size]? = some (.cells #[.string r.k, .string r.o, .string r.n] 43 (0, 0)) ∧ Hid (putL rs r = acc ++ (if d then rs.drop k else putL (rs.drop k) r))

set_option maxHeartbeats 4000000 in
theorem put_any (v : Value) (rs : List Rule) (r : Rule) (w : World) (hR : RowR w v rs) (hl : rs.length ≤ 1000) :
    Calls Tryd.prog 42 #[v, ragg r] w fun e w' => ∃ v', e = .returned v' ∧ w'.ownsRow w.heap.size 43 3 v' (putL rs r).length (rc (putL rs r)) ∧ Below w.heap.size w w' := by
  obtain ⟨i0, hi0, hz0, hz1, hz2⟩ := info_parts info_rrule
  obtain ⟨a, len, cap, rfl, hlen, hcap, hmax, _⟩ := id hR
  subst hlen
  have HR := Lib.hid hR
  clear hR
  obtain ⟨rk, ro, rn⟩ := r
  unfold ragg
  simp only
  go_enter Tryd.func42, Tryd.ntmps42
  go_wp2
  go_loopw [7, 6, 5] (fun iv dv out wr => PutRel rs ⟨rk, ro, rn⟩ w iv dv out wr) (fun iv _ _ _ => rs.length - (intOf iv).toNat)
  case atStart => exact ⟨0, false, [], rfl, rfl, Nat.zero_le _, by simp, World.ownsRow_nil _ _ _ _, (Below.refl _ _).alloc (Nat.le_refl _) _, by simp, heap_alloc_new _ _, Lib.hid (by simp)⟩
  case round =>
    obtain ⟨k, d, acc, rfl, rfl, hk, hal, hown, hbw, hws, hbox, hput⟩ := hrel.ex
    clear hrel
    by_cases hkl : k < rs.length
    · obtain ⟨b, off, rfl, hb, hx⟩ := HR.out.at (by omega)
      obtain ⟨x0, x1, x2⟩ := hx k hkl
      rw [← hbw.cell (p := ⟨b, _, none⟩) hb] at x0 x1 x2
      have y0 : wr.cell? ⟨w.heap.size, 0, none⟩ = some (.string rk) := by rw [cell_of_row wr w.heap.size 0 _ _ (0, 0) hbox]; rfl
      have y1 : wr.cell? ⟨w.heap.size, 1, none⟩ = some (.string ro) := by rw [cell_of_row wr w.heap.size 1 _ _ (0, 0) hbox]; rfl
      have y2 : wr.cell? ⟨w.heap.size, 2, none⟩ = some (.string rn) := by rw [cell_of_row wr w.heap.size 2 _ _ (0, 0) hbox]; rfl
      have hp := hput.out
      rw [drop_ri hkl] at hp
      have k0 : (0 : Int) ≤ k := by omega
      have k1 : (k : Int) < rs.length := by omega
      clear hx hput
      generalize ri rs k = x at x0 x1 x2 hp
      obtain ⟨xk, xo, xn⟩ := x
      simp only at x0 x1 x2
      cases d
      · have hal : acc.length ≤ k := hal
        by_cases hlt : Op.bytesLess rk.toList xk.toList = true
        · have HF := Lib.hid (show putL rs ⟨rk, ro, rn⟩ = ((acc ++ [⟨rk, ro, rn⟩]) ++ [⟨xk, xo, xn⟩]) ++ (if true then rs.drop (k + 1) else putL (rs.drop (k + 1)) ⟨rk, ro, rn⟩) by rw [hp]; show acc ++ putL _ _ = _; unfold putL; rw [if_pos hlt]; simp)
          clear hp
          go_wp2
          go_quiet (fail)
          have hb2 := below_drews hbw nq
          obtain ⟨W2, hW2⟩ : ∃ W2, wr.drewN nq = W2 := ⟨_, rfl⟩
          have own2 := own_at hW2 hown
          have hbox2 : W2.heap[w.heap.size]? = some (.cells #[.string rk, .string ro, .string rn] 43 (0, 0)) := by rw [← hW2]; exact hbox
          have hws2 : w.heap.size + 1 ≤ W2.heap.size := by rw [← hW2]; exact hws
          have x0 : W2.cell? ⟨b, off + k * 3, none⟩ = some (.string xk) := by rw [← hW2]; exact x0
          have x1 : W2.cell? ⟨b, off + k * 3 + 1, none⟩ = some (.string xo) := by rw [← hW2]; exact x1
          have x2 : W2.cell? ⟨b, off + k * 3 + 2, none⟩ = some (.string xn) := by rw [← hW2]; exact x2
          have y0 : W2.cell? ⟨w.heap.size, 0, none⟩ = some (.string rk) := by rw [← hW2]; exact y0
          have y1 : W2.cell? ⟨w.heap.size, 1, none⟩ = some (.string ro) := by rw [← hW2]; exact y1
          have y2 : W2.cell? ⟨w.heap.size, 2, none⟩ = some (.string rn) := by rw [← hW2]; exact y2
          rw [hW2] at hb2 ⊢
          clear hW2
          go_wp2_with (first
            | (at_builtin; refine wpList_append_own _ rfl _ _ _ rfl (w.heap.size + 1) 43 i0 _ 3 48 Tryd.underlying26 hi0 hz0 hz1 hz2 rfl (by decide) _ acc.length (rc acc) rfl (own2.alloc _) ⟨W2.heap.size, 0, none⟩ 1 1 (rc [⟨rk, ro, rn⟩]) rfl rfl (news_rule (r := ⟨rk, ro, rn⟩) (heap_alloc_new W2 _)) (rc_oneCell _) (by unfold maxLen; first | omega | (simp; omega)) (by first | omega | (simp; omega)) (by first | omega | (simp; omega)) ?_; intro v5 w5 hown5 hg5 _; have hb5 := (hb2.alloc (by omega) _).grown hg5 (by simp; omega) (fun j hj => by have := (own2.lt j hj).1; omega); have hbox5 : w5.heap[w.heap.size]? = some (.cells #[.string rk, .string ro, .string rn] 43 (0, 0)) := grown_keeps hg5 (keeps_alloc hbox2) (fun e => by have := (own2.lt _ e.symm).1; omega); have hws5 : w.heap.size + 1 ≤ w5.heap.size := (Array.getElem?_eq_some_iff.1 hbox5).1; have own5 : w5.ownsRow (w.heap.size + 1) 43 3 v5 (acc ++ [(⟨rk, ro, rn⟩ : Rule)]).length (rc (acc ++ [(⟨rk, ro, rn⟩ : Rule)])) := (by rw [rc_append, List.length_append]; exact hown5); have x0 : w5.cell? ⟨b, off + k * 3, none⟩ = some (.string xk) := (by rw [hb5.cell (p := ⟨b, _, none⟩) hb, ← hb2.cell (p := ⟨b, _, none⟩) hb]; exact x0); have x1 : w5.cell? ⟨b, off + k * 3 + 1, none⟩ = some (.string xo) := (by rw [hb5.cell (p := ⟨b, _, none⟩) hb, ← hb2.cell (p := ⟨b, _, none⟩) hb]; exact x1); have x2 : w5.cell? ⟨b, off + k * 3 + 2, none⟩ = some (.string xn) := (by rw [hb5.cell (p := ⟨b, _, none⟩) hb, ← hb2.cell (p := ⟨b, _, none⟩) hb]; exact x2); clear hown5 hg5 hbox2 hws2 own2 y0 y1 y2)
            | (at_builtin; refine wpList_append_own _ rfl _ _ _ rfl (w.heap.size + 1) 43 i0 _ 3 48 Tryd.underlying26 hi0 hz0 hz1 hz2 rfl (by decide) _ (acc ++ [(⟨rk, ro, rn⟩ : Rule)]).length (rc (acc ++ [(⟨rk, ro, rn⟩ : Rule)])) rfl (own5.alloc _) ⟨w5.heap.size, 0, none⟩ 1 1 (rc [⟨xk, xo, xn⟩]) rfl rfl (news_rule (r := ⟨xk, xo, xn⟩) (heap_alloc_new w5 _)) (rc_oneCell _) (by unfold maxLen; first | omega | (simp; omega)) (by first | omega | (simp; omega)) (by first | omega | (simp; omega)) ?_; intro v6 w6 hown6 hg6 _))
          have hb6 := (hb5.alloc (by omega) _).grown hg6 (by simp; omega) (fun j hj => by have := (own5.lt j hj).1; omega)
          have hbox6 : w6.heap[w.heap.size]? = some (.cells #[.string rk, .string ro, .string rn] 43 (0, 0)) := grown_keeps hg6 (keeps_alloc hbox5) (fun e => by have := (own5.lt _ e.symm).1; omega)
          have hws6 : w.heap.size + 1 ≤ w6.heap.size := (Array.getElem?_eq_some_iff.1 hbox6).1
          have own6 : w6.ownsRow (w.heap.size + 1) 43 3 v6 ((acc ++ [(⟨rk, ro, rn⟩ : Rule)]) ++ [(⟨xk, xo, xn⟩ : Rule)]).length (rc ((acc ++ [(⟨rk, ro, rn⟩ : Rule)]) ++ [(⟨xk, xo, xn⟩ : Rule)])) := by rw [rc_append, List.length_append]; exact hown6
          go_wp2
          go_roundw
          case rel => exact ⟨k + 1, true, (acc ++ [(⟨rk, ro, rn⟩ : Rule)]) ++ [(⟨xk, xo, xn⟩ : Rule)], by go_num, rfl, by omega, by rw [List.length_append, List.length_append]; simp; omega, own6, hb6, hws6, hbox6, HF⟩
          case measure => simp [intOf]; omega
        · rw [Bool.not_eq_true] at hlt
          have HF := Lib.hid (show putL rs ⟨rk, ro, rn⟩ = (acc ++ [⟨xk, xo, xn⟩]) ++ (if false then rs.drop (k + 1) else putL (rs.drop (k + 1)) ⟨rk, ro, rn⟩) by rw [hp]; show acc ++ putL _ _ = _; rw [putL, if_neg (by rw [hlt]; simp)]; simp)
          clear hp
          go_wp2
          go_quiet (fail)
          have hb2 := below_drews hbw nq
          obtain ⟨W2, hW2⟩ : ∃ W2, wr.drewN nq = W2 := ⟨_, rfl⟩
          have own2 := own_at hW2 hown
          have hbox2 : W2.heap[w.heap.size]? = some (.cells #[.string rk, .string ro, .string rn] 43 (0, 0)) := by rw [← hW2]; exact hbox
          have hws2 : w.heap.size + 1 ≤ W2.heap.size := by rw [← hW2]; exact hws
          have x0 : W2.cell? ⟨b, off + k * 3, none⟩ = some (.string xk) := by rw [← hW2]; exact x0
          have x1 : W2.cell? ⟨b, off + k * 3 + 1, none⟩ = some (.string xo) := by rw [← hW2]; exact x1
          have x2 : W2.cell? ⟨b, off + k * 3 + 2, none⟩ = some (.string xn) := by rw [← hW2]; exact x2
          have y0 : W2.cell? ⟨w.heap.size, 0, none⟩ = some (.string rk) := by rw [← hW2]; exact y0
          have y1 : W2.cell? ⟨w.heap.size, 1, none⟩ = some (.string ro) := by rw [← hW2]; exact y1
          have y2 : W2.cell? ⟨w.heap.size, 2, none⟩ = some (.string rn) := by rw [← hW2]; exact y2
          rw [hW2] at hb2 ⊢
          clear hW2
          go_wp2_with (at_builtin; refine wpList_append_own _ rfl _ _ _ rfl (w.heap.size + 1) 43 i0 _ 3 48 Tryd.underlying26 hi0 hz0 hz1 hz2 rfl (by decide) _ acc.length (rc acc) rfl (own2.alloc _) ⟨W2.heap.size, 0, none⟩ 1 1 (rc [⟨xk, xo, xn⟩]) rfl rfl (news_rule (r := ⟨xk, xo, xn⟩) (heap_alloc_new W2 _)) (rc_oneCell _) (by unfold maxLen; first | omega | (simp; omega)) (by first | omega | (simp; omega)) (by first | omega | (simp; omega)) ?_; intro v5 w5 hown5 hg5 _)
          have hb5 := (hb2.alloc (by omega) _).grown hg5 (by simp; omega) (fun j hj => by have := (own2.lt j hj).1; omega)
          have hbox5 : w5.heap[w.heap.size]? = some (.cells #[.string rk, .string ro, .string rn] 43 (0, 0)) := grown_keeps hg5 (keeps_alloc hbox2) (fun e => by have := (own2.lt _ e.symm).1; omega)
          have hws5 : w.heap.size + 1 ≤ w5.heap.size := (Array.getElem?_eq_some_iff.1 hbox5).1
          have own5 : w5.ownsRow (w.heap.size + 1) 43 3 v5 (acc ++ [(⟨xk, xo, xn⟩ : Rule)]).length (rc (acc ++ [(⟨xk, xo, xn⟩ : Rule)])) := by rw [rc_append, List.length_append]; exact hown5
          go_wp2
          go_roundw
          case rel => exact ⟨k + 1, false, acc ++ [(⟨xk, xo, xn⟩ : Rule)], by go_num, rfl, by omega, by rw [List.length_append]; simp; omega, own5, hb5, hws5, hbox5, HF⟩
          case measure => simp [intOf]; omega
      · have hal : acc.length ≤ k + 1 := hal
        have HF := Lib.hid (show putL rs ⟨rk, ro, rn⟩ = (acc ++ [⟨xk, xo, xn⟩]) ++ (if true then rs.drop (k + 1) else putL (rs.drop (k + 1)) ⟨rk, ro, rn⟩) by rw [hp]; simp)
        clear hp
        go_wp2
        go_quiet (fail)
        have hb2 := below_drews hbw nq
        obtain ⟨W2, hW2⟩ : ∃ W2, wr.drewN nq = W2 := ⟨_, rfl⟩
        have own2 := own_at hW2 hown
        have hbox2 : W2.heap[w.heap.size]? = some (.cells #[.string rk, .string ro, .string rn] 43 (0, 0)) := by rw [← hW2]; exact hbox
        have hws2 : w.heap.size + 1 ≤ W2.heap.size := by rw [← hW2]; exact hws
        have x0 : W2.cell? ⟨b, off + k * 3, none⟩ = some (.string xk) := by rw [← hW2]; exact x0
        have x1 : W2.cell? ⟨b, off + k * 3 + 1, none⟩ = some (.string xo) := by rw [← hW2]; exact x1
        have x2 : W2.cell? ⟨b, off + k * 3 + 2, none⟩ = some (.string xn) := by rw [← hW2]; exact x2
        have y0 : W2.cell? ⟨w.heap.size, 0, none⟩ = some (.string rk) := by rw [← hW2]; exact y0
        have y1 : W2.cell? ⟨w.heap.size, 1, none⟩ = some (.string ro) := by rw [← hW2]; exact y1
        have y2 : W2.cell? ⟨w.heap.size, 2, none⟩ = some (.string rn) := by rw [← hW2]; exact y2
        rw [hW2] at hb2 ⊢
        clear hW2
        go_wp2_with (at_builtin; refine wpList_append_own _ rfl _ _ _ rfl (w.heap.size + 1) 43 i0 _ 3 48 Tryd.underlying26 hi0 hz0 hz1 hz2 rfl (by decide) _ acc.length (rc acc) rfl (own2.alloc _) ⟨W2.heap.size, 0, none⟩ 1 1 (rc [⟨xk, xo, xn⟩]) rfl rfl (news_rule (r := ⟨xk, xo, xn⟩) (heap_alloc_new W2 _)) (rc_oneCell _) (by unfold maxLen; first | omega | (simp; omega)) (by first | omega | (simp; omega)) (by first | omega | (simp; omega)) ?_; intro v5 w5 hown5 hg5 _)
        have hb5 := (hb2.alloc (by omega) _).grown hg5 (by simp; omega) (fun j hj => by have := (own2.lt j hj).1; omega)
        have hbox5 : w5.heap[w.heap.size]? = some (.cells #[.string rk, .string ro, .string rn] 43 (0, 0)) := grown_keeps hg5 (keeps_alloc hbox2) (fun e => by have := (own2.lt _ e.symm).1; omega)
        have hws5 : w.heap.size + 1 ≤ w5.heap.size := (Array.getElem?_eq_some_iff.1 hbox5).1
        have own5 : w5.ownsRow (w.heap.size + 1) 43 3 v5 (acc ++ [(⟨xk, xo, xn⟩ : Rule)]).length (rc (acc ++ [(⟨xk, xo, xn⟩ : Rule)])) := by rw [rc_append, List.length_append]; exact hown5
        go_wp2
        go_roundw
        case rel => exact ⟨k + 1, true, acc ++ [(⟨xk, xo, xn⟩ : Rule)], by go_num, rfl, by omega, by rw [List.length_append]; simp; omega, own5, hb5, hws5, hbox5, HF⟩
        case measure => simp [intOf]; omega
    · have e1 : k = rs.length := by omega
      subst e1
      have y0 : wr.cell? ⟨w.heap.size, 0, none⟩ = some (.string rk) := by rw [cell_of_row wr w.heap.size 0 _ _ (0, 0) hbox]; rfl
      have y1 : wr.cell? ⟨w.heap.size, 1, none⟩ = some (.string ro) := by rw [cell_of_row wr w.heap.size 1 _ _ (0, 0) hbox]; rfl
      have y2 : wr.cell? ⟨w.heap.size, 2, none⟩ = some (.string rn) := by rw [cell_of_row wr w.heap.size 2 _ _ (0, 0) hbox]; rfl
      have hp := hput.out
      rw [List.drop_length] at hp
      clear hput
      cases d
      · have hal : acc.length ≤ rs.length := hal
        have HF := Lib.hid (show putL rs ⟨rk, ro, rn⟩ = acc ++ [⟨rk, ro, rn⟩] by rw [hp]; rfl)
        clear hp
        go_wp2_with (at_builtin; refine wpList_append_own _ rfl _ _ _ rfl (w.heap.size + 1) 43 i0 _ 3 48 Tryd.underlying26 hi0 hz0 hz1 hz2 rfl (by decide) _ acc.length (rc acc) rfl (hown.alloc _) ⟨wr.heap.size, 0, none⟩ 1 1 (rc [⟨rk, ro, rn⟩]) rfl rfl (news_rule (r := ⟨rk, ro, rn⟩) (heap_alloc_new wr _)) (rc_oneCell _) (by unfold maxLen; first | omega | (simp; omega)) (by first | omega | (simp; omega)) (by first | omega | (simp; omega)) ?_; intro v5 w5 hown5 hg5 _)
        have hb5 := (hbw.alloc (by omega) _).grown hg5 (by simp; omega) (fun j hj => by have := (hown.lt j hj).1; omega)
        have own5 : w5.ownsRow w.heap.size 43 3 v5 (putL rs ⟨rk, ro, rn⟩).length (rc (putL rs ⟨rk, ro, rn⟩)) := by rw [HF.out, rc_append, List.length_append]; exact own_base hown5 (by omega)
        go_wp2
        go_ret
        exact ⟨_, rfl, own5, hb5⟩
      · have HF := Lib.hid (show putL rs ⟨rk, ro, rn⟩ = acc by rw [hp]; simp)
        clear hp
        have own5 := own_base (base' := w.heap.size) hown (by omega)
        rw [← HF.out] at own5
        go_wp2
        go_ret
        exact ⟨_, rfl, own5, hbw⟩

end Go.Proofs.YtpaeppklkicngaaDoor.Rom
