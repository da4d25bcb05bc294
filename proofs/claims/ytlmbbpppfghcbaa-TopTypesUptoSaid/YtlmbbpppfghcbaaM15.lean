/-
  Joined texts: CmpFr.
-/
import Derived.Test.YtlmbbpppfghcbaaM14
import Derived.Deep.Slices
import Derived.Deep.SlicePairs
import Derived.Deep.Fields
import Derived.ChangeSame
import Derived.ChangeArms
import Derived.Shelf.Vars
set_option linter.unusedVariables false
set_option linter.unusedSimpArgs false
set_option maxRecDepth 100000
namespace Go.Proofs.Ytlmbbpppfghcbaa.Cmp
open Go Go.RowKit Go.ChangeShapes Go.WideShapes Go.Deep Go.Proofs.Ytlmbbpppfghcbaa Go.Proofs.Ytlmbbpppfghcbaa.Kit Go.Proofs.Ytlmbbpppfghcbaa.Utf Go.Proofs.Ytlmbbpppfghcbaa.Rom Go.Proofs.Ytlmbbpppfghcbaa.Aut

theorem bulk_pos {H : Type} (d : DataW H) : 1 ≤ Rows.uptoBulk d := by
  cases d with
  | lit l => cases l <;> simp [Rows.uptoBulk]
  | _ => simp [Rows.uptoBulk]
theorem bulk_mem {H : Type} {d : DataW H} {l : List (DataW H)} (h : d ∈ l) : Rows.uptoBulk d ≤ Rows.uptoBulkAll l := by
  induction l with
  | nil => cases h
  | cons x r ih =>
    simp only [Rows.uptoBulkAll]
    rcases List.mem_cons.1 h with rfl | h
    · omega
    · have := ih h; omega
theorem bulk_len {H : Type} (l : List (DataW H)) : l.length ≤ Rows.uptoBulkAll l := by
  induction l with
  | nil => simp
  | cons x r ih =>
    simp only [Rows.uptoBulkAll, List.length_cons]
    have := bulk_pos x
    omega
theorem bulk_string {H : Type} (s : ByteArray) : Rows.uptoBulk (H := H) (.lit (.string s.data.toList)) = s.size + 1 := by
  have e : s.data.toList.length = s.size := by rw [Array.length_toList]; rfl
  simp only [Rows.uptoBulk, e]

theorem items_open {H : Type} {enc : TypeId × Value → H} {w : World} {base : Nat} {spare : Nat → Bool} {held : Bool} {fuel : Nat} {cs : List Value} {x : DataW H × List MemPlace}
    (h : DataW.trod enc Try.prog w base spare held fuel 22 cs = some x) : ∃ a len cap is, cs = [.slice a len cap] ∧ ItR w (.slice a len cap) is ∧ ∀ i ∈ is, i.r.size + i.o.size + is.length ≤ Rows.uptoBulk x.1 := by
  have hF : ∃ f0 f1, Try.prog.underlying 65 = some (.struct #[f0, f1]) ∧ f0.offset = 0 ∧ f1.offset = 1 ∧ f0.type = 9 ∧ f1.type = 9 := ⟨_, _, Try.underlying65, rfl, rfl, rfl, rfl⟩
  obtain ⟨f0, f1, hu, o0, o1, t0, t1⟩ := hF
  have cS : Try.prog.cellsOf 9 = 1 := by kernel_rfl
  rcases open_slice_pairs Try.underlying22 hu (by kernel_rfl) o0 o1 (by rw [t0]; exact cS) (by rw [t1]; exact cS) h with ⟨rfl, _⟩ | ⟨a', len, cap, m, n, V0, V1, D0, D1, P0, P1, rfl, hb, hl, hm, hmm, hx, hi⟩
  · exact ⟨none, 0, 0, [], rfl, ItR.nil w, fun i hi => by cases hi⟩
  · have hlm : len ≤ m := by rw [hmm]; split <;> omega
    rw [t0, t1] at hi
    have key : ∀ i, ∃ r : It, i < len → w.cell? (a'.add (i * 2)) = some (.string r.r) ∧ w.cell? (a'.add (i * 2 + 1)) = some (.string r.o) ∧ D0 i = .lit (.string r.r.data.toList) ∧ D1 i = .lit (.string r.o.data.toList) := by
      intro i
      by_cases hil : i < len
      · obtain ⟨c0, c1, h0, h1⟩ := hi i (by omega)
        obtain ⟨s0, e0, d0, _⟩ := DataW.trod_string Try.underlying9 h0
        obtain ⟨s1, e1, d1, _⟩ := DataW.trod_string Try.underlying9 h1
        simp at e0 e1
        rw [e0] at c0
        rw [e1] at c1
        exact ⟨⟨s0, s1⟩, fun _ => ⟨c0, c1, by injection d0, by injection d1⟩⟩
      · exact ⟨default, fun h => absurd h hil⟩
    obtain ⟨f, hf⟩ := Classical.axiomOfChoice key
    have hget : ∀ i, i < len → ii ((List.range len).map f) i = f i := fun i hi2 => by
      unfold ii
      rw [List.getD_eq_getElem?_getD, List.getElem?_map, List.getElem?_range hi2]; rfl
    obtain ⟨b, off, spot⟩ := a'
    refine ⟨_, len, cap, (List.range len).map f, rfl, ⟨_, len, cap, rfl, by simp, hl, hm, ?_⟩, ?_⟩
    · by_cases h0 : len = 0
      · exact .inr (.inl ⟨_, rfl, h0⟩)
      · have hsp := (hf 0 (by omega)).1
        have hspot : spot = none := by simpa [Addr.add] using World.cell?_spot hsp
        subst hspot
        refine .inr (.inr ⟨b, off, rfl, World.block_lt_of_cell? w _ hsp, fun i hi2 => ?_⟩)
        simp only [List.length_map, List.length_range] at hi2
        rw [hget i hi2]
        have := hf i hi2
        simp only [Addr.add_lit] at this
        exact ⟨this.1, this.2.1⟩
    · intro i hi2
      obtain ⟨j, hj, rfl⟩ := List.mem_map.1 hi2
      rw [List.mem_range] at hj
      obtain ⟨_, _, q0, q1⟩ := hf j hj
      rw [hx]
      simp only [Rows.uptoBulk, List.length_map, List.length_range]
      have h1 : Rows.uptoBulk (.agg [D0 j, D1 j]) ≤ Rows.uptoBulkAll ((List.range len).map fun i => .agg [D0 i, D1 i]) := bulk_mem (List.mem_map.2 ⟨j, List.mem_range.2 hj, rfl⟩)
      have h2 : ∀ l : List Nat, j ∈ l → l.Nodup → Rows.uptoBulk (.agg [D0 j, D1 j]) + (l.length - 1) ≤ Rows.uptoBulkAll (l.map fun i => .agg [D0 i, D1 i]) := by
        intro l
        induction l with
        | nil => intro h; cases h
        | cons y r ih =>
          intro hm hnd
          rw [List.nodup_cons] at hnd
          simp only [List.map_cons, Rows.uptoBulkAll, List.length_cons]
          rcases List.mem_cons.1 hm with rfl | hm
          · have := bulk_len (r.map fun i => DataW.agg [D0 i, D1 i])
            rw [List.length_map] at this
            omega
          · have := ih hm hnd.2
            have h3 := bulk_pos (DataW.agg [D0 y, D1 y])
            have h4 : 0 < r.length := List.length_pos_of_mem hm
            omega
      have h3 := h2 (List.range len) (List.mem_range.2 hj) List.nodup_range
      simp only [Rows.uptoBulk, Rows.uptoBulkAll] at h3
      rw [q0, q1, bulk_string, bulk_string, List.length_range] at h3
      omega
theorem three_long2 (l : List Value) (h : l.length = 3) : ∃ a b c, l = [a, b, c] := by
  match l, h with
  | [a, b, c], _ => exact ⟨a, b, c, rfl⟩
theorem buf_open {H : Type} {enc : TypeId × Value → H} {w : World} {base : Nat} {spare : Nat → Bool} {held : Bool} {cs : Array Value} {d : DataW H} {p : List MemPlace} (hcs : cs.size = Try.prog.cellsOf 24)
    (h : DataW.Trod enc Try.prog w base spare held 24 (.agg cs) d p) : ∃ a len cap b, cs = #[.slice a len cap, .int .i64 b.c, .string b.p] ∧ ItR w (.slice a len cap) b.is ∧ (Lit.int .i64 b.c).wf = true ∧ (Rows.uptoBulk d ≤ 1048576 → Sh b) := by
  obtain ⟨fuel, h⟩ := h
  obtain ⟨ys, n', hn', hy, hlen, hyl, hf⟩ := DataW.trod_struct Try.underlying24 h
  have hC : Try.prog.cellsOf 24 = 3 := by kernel_rfl
  rw [hC] at hcs
  have hx : (Value.agg cs).cells.toList = cs.toList := rfl
  rw [hx] at hf
  obtain ⟨v0, v1, v2, hv⟩ := three_long2 cs.toList (by simpa using hcs)
  rw [hv] at hf
  have c0 : Try.prog.cellsOf 22 = 1 := by kernel_rfl
  have c1 : Try.prog.cellsOf 3 = 1 := by kernel_rfl
  have c2 : Try.prog.cellsOf 9 = 1 := by kernel_rfl
  have h0 : DataW.trod enc Try.prog w base spare held n' 22 (([v0, v1, v2].drop 0).take (Try.prog.cellsOf 22)) = ys[0]? := hf 0 _ rfl
  have h1 : DataW.trod enc Try.prog w base spare held n' 3 (([v0, v1, v2].drop 1).take (Try.prog.cellsOf 3)) = ys[1]? := hf 1 _ rfl
  have h2 : DataW.trod enc Try.prog w base spare held n' 9 (([v0, v1, v2].drop 2).take (Try.prog.cellsOf 9)) = ys[2]? := hf 2 _ rfl
  rw [c0] at h0
  rw [c1] at h1
  rw [c2] at h2
  have hys : ys.length = 3 := hyl
  rw [List.getElem?_eq_getElem (by omega)] at h0 h1 h2
  obtain ⟨a, len, cap, is, e0, hI, hbk⟩ := items_open h0
  obtain ⟨c, e1, d1, hwf⟩ := DataW.trod_int Try.underlying3 h1
  obtain ⟨s, e2, d2, _⟩ := DataW.trod_string Try.underlying9 h2
  simp at e0 e1 e2
  refine ⟨a, len, cap, ⟨is, c, s⟩, ?_, hI, hwf, fun hb => ?_⟩
  · apply Array.toList_inj.1
    rw [hv, e0, e1, e2]
  · have hd : d = .agg (ys.map (·.1)) := by injection hy
    have hb0 : Rows.uptoBulk ys[0].1 ≤ Rows.uptoBulkAll (ys.map (·.1)) := bulk_mem (List.mem_map.2 ⟨_, List.getElem_mem (by omega), rfl⟩)
    have hb2 : Rows.uptoBulk ys[2].1 ≤ Rows.uptoBulkAll (ys.map (·.1)) := bulk_mem (List.mem_map.2 ⟨_, List.getElem_mem (by omega), rfl⟩)
    rw [hd] at hb
    simp only [Rows.uptoBulk] at hb
    rw [d2, bulk_string] at hb2
    refine ⟨fun i hi => ?_, by show s.size ≤ _; omega, ?_⟩
    · have := hbk i hi
      exact ⟨by omega, by omega⟩
    · show is.length ≤ _
      by_cases hz : is.length = 0
      · omega
      · have := hbk _ (List.getElem_mem (l := is) (n := 0) (by omega))
        omega

theorem rules_bulk {H : Type} {enc : TypeId × Value → H} {w : World} {base : Nat} {spare : Nat → Bool} {held : Bool} {fuel : Nat} {a : Option Addr} {len cap : Nat} {x : DataW H × List MemPlace}
    (h : DataW.trod enc Try.prog w base spare held fuel 40 [.slice a len cap] = some x) : ∃ rs, RowR w (.slice a len cap) rs ∧ (Rows.uptoBulk x.1 ≤ 1048576 → ∀ r ∈ rs, Short r) := by
  rcases open_slice Try.underlying40 h with ⟨hcs, _⟩ | ⟨a', len', cap', m, n, D, Pl, hcs, hb, hl, hm, hmm, hx, hi⟩
  · simp at hcs
    obtain ⟨rfl, rfl, rfl⟩ := hcs
    exact ⟨[], RowR.nil w, fun _ r hr => by cases hr⟩
  · simp at hcs
    obtain ⟨rfl, rfl, rfl⟩ := hcs
    have hlm : len ≤ m := by rw [hmm]; split <;> omega
    have hC : Try.prog.cellsOf 80 = 3 := by kernel_rfl
    have hS : Try.prog.cellsOf 9 = 1 := by kernel_rfl
    rw [hC] at hi
    obtain ⟨b, off, spot⟩ := a'
    have key : ∀ i, ∃ r : Rule, i < len → w.cell? ((⟨b, off, spot⟩ : Addr).add (i * 3)) = some (.string r.k) ∧ w.cell? ((⟨b, off, spot⟩ : Addr).add (i * 3 + 1)) = some (.string r.o) ∧ w.cell? ((⟨b, off, spot⟩ : Addr).add (i * 3 + 2)) = some (.string r.n) ∧ D i = .agg [.lit (.string r.k.data.toList), .lit (.string r.o.data.toList), .lit (.string r.n.data.toList)] := by
      intro i
      by_cases hil : i < len
      · obtain ⟨cs', hc, ht'⟩ := hi i (by omega)
        obtain ⟨ys, n', hn', hy, hlen, hyl, hf⟩ := DataW.trod_struct Try.underlying80 ht'
        obtain ⟨_, hcl, hat⟩ := World.cells?_some hc
        obtain ⟨v0, v1, v2, rfl⟩ := three_long2 cs' hcl
        have h0 : DataW.trod enc Try.prog w base spare held n' 9 (([v0, v1, v2].drop 0).take (Try.prog.cellsOf 9)) = ys[0]? := hf 0 _ rfl
        have h1 : DataW.trod enc Try.prog w base spare held n' 9 (([v0, v1, v2].drop 1).take (Try.prog.cellsOf 9)) = ys[1]? := hf 1 _ rfl
        have h2 : DataW.trod enc Try.prog w base spare held n' 9 (([v0, v1, v2].drop 2).take (Try.prog.cellsOf 9)) = ys[2]? := hf 2 _ rfl
        rw [hS] at h0 h1 h2
        have hys : ys.length = 3 := hyl
        rw [List.getElem?_eq_getElem (by omega)] at h0 h1 h2
        obtain ⟨s0, e0, g0, _⟩ := DataW.trod_string Try.underlying9 h0
        obtain ⟨s1, e1, g1, _⟩ := DataW.trod_string Try.underlying9 h1
        obtain ⟨s2, e2, g2, _⟩ := DataW.trod_string Try.underlying9 h2
        have hD : D i = .agg (ys.map (·.1)) := by injection hy
        have hys3 : ys = [ys[0], ys[1], ys[2]] := by
          apply List.ext_getElem
          · simp; omega
          · intro k hk _
            have : k = 0 ∨ k = 1 ∨ k = 2 := by omega
            rcases this with rfl | rfl | rfl <;> rfl
        have hD2 : D i = .agg [.lit (.string s0.data.toList), .lit (.string s1.data.toList), .lit (.string s2.data.toList)] := by
          rw [hD, hys3, g0, g1, g2]; rfl
        simp at e0 e1 e2
        have c0 := hat 0 (by omega)
        have c1 := hat 1 (by omega)
        have c2 := hat 2 (by omega)
        rw [Go.Deep.add_add] at c0 c1 c2
        refine ⟨⟨s0, s1, s2⟩, fun _ => ⟨?_, ?_, ?_, hD2⟩⟩
        · rw [Nat.add_zero] at c0; rw [c0]; simp [e0]
        · rw [c1]; simp [e1]
        · rw [c2]; simp [e2]
      · exact ⟨default, fun h => absurd h hil⟩
    obtain ⟨f, hf⟩ := Classical.axiomOfChoice key
    refine ⟨(List.range len).map f, ⟨_, len, cap, rfl, by simp, hl, hm, ?_⟩, ?_⟩
    rotate_left
    · intro hbk r hr
      obtain ⟨j, hj, rfl⟩ := List.mem_map.1 hr
      rw [List.mem_range] at hj
      obtain ⟨_, _, _, q⟩ := hf j hj
      rw [hx] at hbk
      simp only [Rows.uptoBulk] at hbk
      have h1 : Rows.uptoBulk (D j) ≤ Rows.uptoBulkAll ((List.range len).map D) := bulk_mem (List.mem_map.2 ⟨j, List.mem_range.2 hj, rfl⟩)
      rw [q] at h1
      simp only [Rows.uptoBulk, Rows.uptoBulkAll] at h1
      simp only [Array.length_toList] at h1
      exact ⟨by show (f j).k.data.size ≤ _; omega, by show (f j).o.data.size ≤ _; omega, by show (f j).n.data.size ≤ _; omega⟩
    by_cases h0 : len = 0
    · exact .inr (.inl ⟨_, rfl, h0⟩)
    · have hsp := (hf 0 (by omega)).1
      have hspot : spot = none := by simpa [Addr.add] using World.cell?_spot hsp
      subst hspot
      refine .inr (.inr ⟨b, off, rfl, World.block_lt_of_cell? w _ hsp, fun i hi2 => ?_⟩)
      simp only [List.length_map, List.length_range] at hi2
      have e : ri ((List.range len).map f) i = f i := by
        unfold ri
        rw [List.getD_eq_getElem?_getD, List.getElem?_map, List.getElem?_range hi2]; rfl
      rw [e]
      have := hf i hi2
      simp only [Addr.add_lit] at this
      exact ⟨this.1, this.2.1, this.2.2.1⟩


end Go.Proofs.Ytlmbbpppfghcbaa.Cmp
