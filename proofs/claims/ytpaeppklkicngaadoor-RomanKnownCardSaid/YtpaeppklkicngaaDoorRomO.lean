/-
  Slices of rules that are cut and joined.
-/
import Derived.Test.YtpaeppklkicngaaDoorRomZ
import Derived.Deep.AppendLies
import Derived.Maps.AppendAt
set_option linter.unusedVariables false
set_option linter.unusedSimpArgs false
set_option maxRecDepth 100000
namespace Go.Proofs.YtpaeppklkicngaaDoor.Rom
open Go Go.RowKit Go.Proofs.YtpaeppklkicngaaDoor.Kit Go.Proofs.YtpaeppklkicngaaDoor.Utf

theorem rc_cell {w : World} {b off : Nat} {rs : List Rule} (hx : ∀ i, i < rs.length → w.cell? ⟨b, off + i * 3, none⟩ = some (.string (ri rs i).k) ∧ w.cell? ⟨b, off + i * 3 + 1, none⟩ = some (.string (ri rs i).o) ∧ w.cell? ⟨b, off + i * 3 + 2, none⟩ = some (.string (ri rs i).n)) :
    ∀ j u, (rc rs)[j]? = some u → w.cell? ((⟨b, off, none⟩ : Addr).add j) = some u := by
  intro j u hu
  have hj : j < rs.length * 3 := by
    have := (List.getElem?_eq_some_iff.1 hu).1
    rw [rc_len] at this
    exact this
  obtain ⟨h1, h2, h3⟩ := hx (j / 3) (by omega)
  obtain ⟨g1, g2, g3⟩ := rc_at rs (j / 3) (by omega)
  rw [Addr.add_lit]
  rcases (show j = j / 3 * 3 ∨ j = j / 3 * 3 + 1 ∨ j = j / 3 * 3 + 2 by omega) with e | e | e
  · rw [← e] at h1 g1
    rw [h1, ← g1, hu]
  · rw [Nat.add_assoc, ← e] at h2
    rw [← e] at g2
    rw [h2, ← g2, hu]
  · rw [Nat.add_assoc, ← e] at h3
    rw [← e] at g3
    rw [h3, ← g3, hu]

theorem run_append_row (w : World) (base : Nat) (v : Value) (n : Nat) (xs : List Value) (hown : w.ownsRow base 43 3 v n xs) (x : Value) (rs : List Rule) (hR : RowR w x rs) (h63 : n + rs.length ≤ 1000000) (hbase : base ≤ w.heap.size) (ty : TypeId) :
    ∃ v' w', (Builtin.append_ #[26, 26] ty #[v, x]).run Tryd.prog w = .ok v' w' ∧ w'.ownsRow base 43 3 v' (n + rs.length) (xs ++ rc rs) ∧ w.grownBy w' v.ownBlock := by
  obtain ⟨i0, hi0, hz0, hz1, hz2⟩ := info_parts info_rrule
  obtain ⟨a, len, cap, rfl, hl, hc, hm, h⟩ := hR
  subst hl
  have h64 : n + rs.length ≤ maxLen := by unfold maxLen; omega
  rcases h with ⟨rfl, h0, hc0⟩ | ⟨x, rfl, h0⟩ | ⟨b, off, rfl, hlt, hx⟩
  · have e : rs = [] := List.eq_nil_of_length_eq_zero h0
    subst e
    subst hc0
    exact ⟨v, w, run_append_owned_none (P := Tryd.prog) w base _ _ _ i0 3 Tryd.underlying26 hi0 v n xs hown, by simpa [rc_nil] using hown, World.grownBy.refl _ _⟩
  · have e : rs = [] := List.eq_nil_of_length_eq_zero h0
    subst e
    obtain ⟨v', w', hr, h2, h3, _⟩ := run_append_own_at (P := Tryd.prog) w base 26 ty 43 i0 _ 3 48 Tryd.underlying26 hi0 hz0 hz1 hz2 rfl (by omega) v n xs hown x 0 cap [] rfl (by simp) (by simp) h64 (by simp at h63 ⊢; omega) hbase
    exact ⟨v', w', hr, h2, h3⟩
  · obtain ⟨v', w', hr, h2, h3, _⟩ := run_append_own_at (P := Tryd.prog) w base 26 ty 43 i0 _ 3 48 Tryd.underlying26 hi0 hz0 hz1 hz2 rfl (by omega) v n xs hown ⟨b, off, none⟩ rs.length cap (rc rs) (rc_len rs) (rc_cell hx) (rc_oneCell rs) h64 (by omega) hbase
    exact ⟨v', w', hr, h2, h3⟩

/-- append(v, x...) at a step of a region that draws its order. -/
theorem step_append_row (w : World) {ops : Array Oper} {o : Oper} {a : Act} {K : Act → World → Prop} {Q : Exit → Act → World → Prop} {E : Prop} (hgd : o.guard = none) (s x : Operand)
    (ho : o.op = .call { callee := .builtin .append, args := #[s, x], argTypes := #[26, 26] })
    (base : Nat) (v : Value) (n : Nat) (xs : List Value) (hs : a.eval s = v) (hown : w.ownsRow base 43 3 v n xs)
    (y : Value) (rs : List Rule) (hx : a.eval x = y) (hR : RowR w y rs) (h63 : n + rs.length ≤ 1000000) (hbase : base ≤ w.heap.size)
    (h : ∀ v' w', w'.ownsRow base 43 3 v' (n + rs.length) (xs ++ rc rs) → w.grownBy w' v.ownBlock → K (a.put o.dst v') w') :
    if Region.wanted o (yielded ops a.tmps) = true then Oper.wp Tryd.prog o a w K Q else E := by
  have hw : Region.wanted o (yielded ops a.tmps) = true := by simp [Region.wanted, hgd]
  rw [if_pos hw]
  obtain ⟨v', w', hr, h2, h3⟩ := run_append_row w base v n xs hown y rs hR h63 hbase o.type
  unfold Oper.wp execOp
  simp only [ho, resolve, invoke, builtin, Sem.run_bind, Sem.run_pure, Result.andThen_ok, List.map_toArray, List.map_cons, List.map_nil, hs, hx, hr]
  exact h v' w' h2 h3

theorem slice_upto {w : World} {a : Option Addr} {n cap k : Nat} {rs : List Rule} (hR : RowR w (.slice a n cap) rs) (hk : k ≤ n) :
    ∃ x, (∀ W, (Instr.sliceAt 26 (.slice a n cap) none (some (.int .i64 k)) none).run Tryd.prog W = .ok x W) ∧ RowR w x (rs.take k) := by
  refine ⟨.slice a k cap, ?_, hR.take hk⟩
  intro W
  obtain ⟨_, hc, hm⟩ := hR.len
  have k2 : (k : Int) ≤ cap := by omega
  have u := Tryd.underlying26
  obtain ⟨a', len', cap', e, h1, h2, h3, h4⟩ := hR
  cases e
  rcases h4 with ⟨rfl, hl, hc0⟩ | ⟨x, rfl, hl⟩ | ⟨b, off, rfl, hlt, hx⟩
  · have k0 : k = 0 := by omega
    subst k0
    subst hc0
    go_simp
  · go_simp
  · go_simp
theorem slice_on {w : World} {a : Option Addr} {n cap k : Nat} {rs : List Rule} (hR : RowR w (.slice a n cap) rs) (hk : k ≤ n) :
    ∃ x, (∀ W, (Instr.sliceAt 26 (.slice a n cap) (some (.int .i64 k)) none none).run Tryd.prog W = .ok x W) ∧ RowR w x (rs.drop k) := by
  obtain ⟨_, hc, hm⟩ := hR.len
  have k2 : (k : Int) ≤ n := by omega
  have k3 : (n : Int) ≤ cap := by omega
  have u := Tryd.underlying26
  by_cases hck : cap ≤ k
  · refine ⟨_, ?_, hR.drop_end hk hck⟩
    intro W
    have e1 : cap = k := by omega
    obtain ⟨a', len', cap', e, h1, h2, h3, h4⟩ := hR
    cases e
    rcases h4 with ⟨rfl, hl, hc0⟩ | ⟨x, rfl, hl⟩ | ⟨b, off, rfl, hlt, hx⟩
    · have k0 : k = 0 := by omega
      subst k0
      subst hc0
      subst hl
      go_simp
    · subst e1
      go_simp
      intro hh; exfalso; omega
    · subst e1
      go_simp
      intro hh; exfalso; omega
  · refine ⟨_, ?_, hR.drop hk⟩
    intro W
    have e1 : ¬ cap = k := by omega
    have e2 : (k : Int) ≤ cap := by omega
    obtain ⟨a', len', cap', e, h1, h2, h3, h4⟩ := hR
    cases e
    rcases h4 with ⟨rfl, hl, hc0⟩ | ⟨x, rfl, hl⟩ | ⟨b, off, rfl, hlt, hx⟩
    · omega
    · go_simp
      intro hh; exfalso; omega
    · go_simp
      intro hh; exfalso; omega

/-- Rules in another order. -/
theorem check_turned (rs : List Rule) (k : Nat) : checkL (rs.drop k ++ rs.take k) = checkL rs := by
  have hp : (rs.drop k ++ rs.take k).Perm rs := by
    have := List.perm_append_comm (l₁ := rs.drop k) (l₂ := rs.take k)
    rw [List.take_append_drop] at this
    exact this
  unfold checkL
  rw [okL_perm hp, hp.length_eq]
theorem check_part {rs qs : List Rule} (h : checkL rs = 0) (hl : qs.length ≤ rs.length) (ho : okL rs = true → okL qs = true) : checkL qs = 0 := by
  unfold checkL at h ⊢
  split at h
  · cases h
  · rename_i h1
    split at h
    · rename_i h2
      rw [if_neg (by omega), ho h2]
      rfl
    · cases h
theorem check_small {rs : List Rule} (h : rs.length ≤ 200) : checkL rs = 0 ∨ checkL rs = 50 := by
  unfold checkL
  rw [if_neg (by omega)]
  split
  · exact .inl rfl
  · exact .inr rfl
theorem FewOK.sub {rs qs : List Rule} (h : FewOK true rs) (hl : qs.length ≤ rs.length) (hm : ∀ r ∈ qs, r ∈ rs) : FewOK true qs :=
  fun _ => ⟨by have := (h rfl).1; omega, fun r hr => (h rfl).2 r (hm r hr)⟩

end Go.Proofs.YtpaeppklkicngaaDoor.Rom
