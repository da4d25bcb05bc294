/-
  Contracts of the automaton's memory of moves.
-/
import Derived.Test.YtmbccolkgephgaaAutW
set_option linter.unusedVariables false
set_option linter.unusedSimpArgs false
set_option maxRecDepth 100000
namespace Go.Proofs.Ytmbccolkgephgaa.Aut
open Go Go.RowKit Go.Proofs.Ytmbccolkgephgaa.Kit Go.Proofs.Ytmbccolkgephgaa.Utf Go.Proofs.Ytmbccolkgephgaa.Rom

/-- What a block of another kind does leaves a row as it is. -/
theorem own_kind {w w' : World} {base n : Nat} {e : TypeId} {sz : Nat} {v : Value} {xs : List Value} {row : Option Nat} (h : w.ownsRow base e sz v n xs) (hg : w.grownBy w' row) (hk : ∀ g, row = some g → ∀ c fz, w.heap[g]? ≠ some (.cells c e fz)) : w'.ownsRow base e sz v n xs := by
  refine h.kept hg ?_
  rcases h.2 with ⟨rfl, h0⟩ | ⟨g, cap, cur, rfl, hb, hg', _⟩
  · exact .inl rfl
  · refine .inr fun e => hk g ?_ _ _ hg'
    exact e.symm

/-- The memory: its variables in blocks c1, c2, c3, its map in block bm, of at most N entries. -/
structure Memo (c1 c2 c3 bm a : Nat) (rs : List Rule) (s : By) (N : Nat) (w : World) : Prop where
  b1 : w.heap[c1]? = some (.cells #[.map (some bm)] 101 (0, 0))
  b2 : w.heap[c2]? = some (.cells #[.pointer (some ⟨a, 0, none⟩)] 24 (0, 0))
  b3 : w.heap[c3]? = some (.cells #[.string (ba s)] 9 (0, 0))
  mp : ∃ n f, n ≤ N ∧ MapF 9 eS w bm n f ∧ ∀ p v, f p = some v → w.ownsRow 0 81 3 v (mvs rs s (bs p) 94).length (mc (mvs rs s (bs p) 94))
theorem Memo.mono {c1 c2 c3 bm a : Nat} {rs : List Rule} {s : By} {N M : Nat} {w : World} (h : Memo c1 c2 c3 bm a rs s N w) (hM : N ≤ M) : Memo c1 c2 c3 bm a rs s M w := by
  obtain ⟨n, f, h1, h2, h3⟩ := h.mp
  exact ⟨h.b1, h.b2, h.b3, n, f, by omega, h2, h3⟩
/-- Another block of another kind turns. -/
theorem Memo.kept {c1 c2 c3 bm a : Nat} {rs : List Rule} {s : By} {N : Nat} {w w' : World} {row : Option Nat} (h : Memo c1 c2 c3 bm a rs s N w) (hg : w.grownBy w' row) (h1 : some c1 ≠ row) (h2 : some c2 ≠ row) (h3 : some c3 ≠ row) (h4 : some bm ≠ row) (hk : ∀ g, row = some g → ∀ c fz, w.heap[g]? ≠ some (.cells c 81 fz)) : Memo c1 c2 c3 bm a rs s N w' := by
  obtain ⟨n, f, hn, hm, hr⟩ := h.mp
  have lt : ∀ {k o}, w.heap[k]? = some o → k < w.heap.size := fun hh => (Array.getElem?_eq_some_iff.1 hh).1
  exact ⟨by rw [hg.block _ (lt h.b1) h1]; exact h.b1, by rw [hg.block _ (lt h.b2) h2]; exact h.b2, by rw [hg.block _ (lt h.b3) h3]; exact h.b3, n, f, hn, hm.kept hg h4, fun p v hv => own_kind (hr p v hv) hg hk⟩
theorem Memo.later {c1 c2 c3 bm a : Nat} {rs : List Rule} {s : By} {N : Nat} {w w' : World} (h : Memo c1 c2 c3 bm a rs s N w) (hb : Below w.heap.size w w') : Memo c1 c2 c3 bm a rs s N w' :=
  h.kept (grown_of_below hb none) (by simp) (by simp) (by simp) (by simp) (fun g e => by cases e)

theorem zeroMvs (w : World) : (zeroValue 79).run Try.prog w = .ok (.slice none 0 0) w := by kernel_rfl

set_option maxHeartbeats 2000000 in
theorem memo_any {rs : List Rule} (hok : okL rs = true) (B a c1 c2 c3 bm N : Nat) (s : By) (p : ByteArray) (w : World) (hA : AutoAt B w a rs) (hB : B ≤ w.heap.size) (hm : MaxL w) (hG : 0 < w.heap.size) (hs : s.length ≤ 1000000) (hp : p.size ≤ 1000) (hk : AllK (bs p)) (hM : Memo c1 c2 c3 bm a rs s N w) (hN : N < 1000000000) :
    Calls Try.prog 58 #[.string p, .pointer (some ⟨c1, 0, none⟩), .pointer (some ⟨c2, 0, none⟩), .pointer (some ⟨c3, 0, none⟩)] w fun e w' => ∃ v, e = .returned v ∧ w'.ownsRow 0 81 3 v (mvs rs s (bs p) 94).length (mc (mvs rs s (bs p) 94)) ∧ Memo c1 c2 c3 bm a rs s (N + 1) w' ∧ w.grownBy w' (some bm) := by
  obtain ⟨n, f, hn, hmf, hr⟩ := hM.mp
  have hpm : p.size ≤ maxLen := by unfold maxLen; omega
  have d1 : w.cell? ⟨c1, 0, none⟩ = some (.map (some bm)) := by rw [cell_of_row w _ 0 _ _ _ hM.b1]; rfl
  have d2 : w.cell? ⟨c2, 0, none⟩ = some (.pointer (some ⟨a, 0, none⟩)) := by rw [cell_of_row w _ 0 _ _ _ hM.b2]; rfl
  have d3 : w.cell? ⟨c3, 0, none⟩ = some (.string (ba s)) := by rw [cell_of_row w _ 0 _ _ _ hM.b3]; rfl
  have hlk := hmf.look law_str Try.underlying101 (zeroMvs w) (key_str hpm)
  unfold eS at hlk
  have HM := Lib.hid hM
  have HR := Lib.hid hr
  cases hf : f p with
  | some v =>
    rw [hf] at hlk
    simp only [Option.getD_some, Option.isSome_some] at hlk
    have HV := Lib.hid (hr p v hf)
    clear hA hm hk hM hr hf hmf
    go_enter Try.func58, Try.ntmps58
    go_wp2
    go_ret
    exact ⟨v, rfl, HV.out, HM.out.mono (Nat.le_succ _), grown_of_below (Below.refl _ _) _⟩
  | none =>
    rw [hf] at hlk
    simp only [Option.getD_none, Option.isSome_none] at hlk
    have HMV := Lib.hid (moves_any hok B a (ba s) p w hA hB hm hG (by rw [ba_size]; exact hs) hp hk)
    rw [bs_ba] at HMV
    have HPUT : Hid (∀ (v : Value) (W : World), Below w.heap.size w W → W.ownsRow w.heap.size 81 3 v (mvs rs s (bs p) 94).length (mc (mvs rs s (bs p) 94)) → ∃ W', (Instr.mapUpdate 101 (.map (some bm)) (.string p) v).run Try.prog W = .ok () W' ∧ W'.ownsRow 0 81 3 v (mvs rs s (bs p) 94).length (mc (mvs rs s (bs p) 94)) ∧ Memo c1 c2 c3 bm a rs s (N + 1) W' ∧ w.grownBy W' (some bm)) := Lib.hid fun v W hW hown => by
      have hMW := hM.later hW
      have hmW := hmf.later hW hmf.lt
      obtain ⟨W', hrun, hM', hg⟩ := hmW.put law_str eS_inj Try.underlying101 (by unfold maxLen; omega) (key_str hpm) v
      obtain ⟨es, cl, hmb⟩ := hmW.is_map
      have hkd : ∀ g, some bm = some g → ∀ c fz, W.heap[g]? ≠ some (.cells c 81 fz) := by
        rintro g e c fz h2
        cases e
        rw [hmb] at h2; cases h2
      have hne : ∀ {k c t}, W.heap[k]? = some (.cells c t (0, 0)) → some k ≠ some bm := by
        rintro k c t h2 e
        cases e
        rw [hmb] at h2; cases h2
      have lt : ∀ {k o}, W.heap[k]? = some o → k < W.heap.size := fun hh => (Array.getElem?_eq_some_iff.1 hh).1
      have hown0 : W'.ownsRow 0 81 3 v (mvs rs s (bs p) 94).length (mc (mvs rs s (bs p) 94)) := own_kind (own_base hown (Nat.zero_le _)) hg hkd
      refine ⟨W', hrun, hown0, ⟨by rw [hg.block _ (lt hMW.b1) (hne hMW.b1)]; exact hMW.b1, by rw [hg.block _ (lt hMW.b2) (hne hMW.b2)]; exact hMW.b2, by rw [hg.block _ (lt hMW.b3) (hne hMW.b3)]; exact hMW.b3, n + 1, _, by omega, hM', fun q u hu => ?_⟩, (grown_of_below hW (some bm)).trans hg⟩
      unfold upd at hu
      split at hu
      · rename_i e
        cases hu
        rw [e]; exact hown0
      · exact own_kind ((own_later (hr q u hu) hW)) hg hkd
    have HD : Hid (∀ W, Below w.heap.size w W → W.cell? ⟨c1, 0, none⟩ = some (.map (some bm))) := Lib.hid fun W hW => by
      rw [hW.cell (p := ⟨c1, 0, none⟩) (Array.getElem?_eq_some_iff.1 hM.b1).1]; exact d1
    clear hA hm hk hM hr hf hmf
    go_enter Try.func58, Try.ntmps58
    go_wp2_with (go_at_call 59; (with_reducible refine HMV.out.mono ?_); rintro e w2 ⟨v, rfl, hown2, hb2⟩; obtain ⟨w3, hrun3, hown3, hM3, hg3⟩ := HPUT.out v w2 hb2 hown2; have d4 := HD.out w2 hb2)
    go_ret
    exact ⟨v, rfl, hown3, hM3, hg3⟩

end Go.Proofs.Ytmbccolkgephgaa.Aut
