/-
  Contract of the reference's pieces.
-/
import Derived.Test.YtpaeppklkicngaaDoorRomP
import Derived.Test.YtpaeppklkicngaaDoorRomG
set_option linter.unusedVariables false
set_option linter.unusedSimpArgs false
set_option maxRecDepth 100000
namespace Go.Proofs.YtpaeppklkicngaaDoor.Rom
open Go Go.RowKit Go.Shelf Go.Proofs.YtpaeppklkicngaaDoor.Kit Go.Proofs.YtpaeppklkicngaaDoor.Utf

theorem info_str2 : (Tryd.prog.info? 9).map (fun i => (i.zero, i.size, i.bytes)) = some (some (.string { data := #[] }), 1, 16) := by kernel_rfl
/-- Pieces as cells. -/
def pcells (ps : List (List UInt8)) : List Value := ps.map fun p => Value.string (ba p)
theorem pcells_snoc (ps : List (List UInt8)) (p : List UInt8) : pcells (ps ++ [p]) = pcells ps ++ [.string (ba p)] := by simp [pcells]
theorem pcells_len (ps : List (List UInt8)) : (pcells ps).length = ps.length := by simp [pcells]
theorem ext_ba (s : ByteArray) (f i : Nat) (hi : i ≤ s.size) (hf : f ≤ i) : s.extract f i = ba (((bs s).drop f).take (i - f)) := by
  apply ba_ext
  simp [ba, bs, ByteArray.data_extract, List.extract_eq_take_drop]
theorem free_step {c b : UInt8} {l : List UInt8} {f i : Nat} (h : c ∉ (l.drop f).take (i - f)) (hf : f ≤ i) (hi : l[i]? = some b) (hb : b ≠ c) : c ∉ (l.drop f).take (i + 1 - f) := by
  rw [show i + 1 - f = (i - f) + 1 by omega, List.take_add_one, List.getElem?_drop, show f + (i - f) = i by omega, hi]
  intro hm
  rcases List.mem_append.1 hm with h1 | h1
  · exact h h1
  · simp at h1; exact hb h1.symm
theorem cut_step {c : UInt8} {l : List UInt8} {f i : Nat} (h : c ∉ (l.drop f).take (i - f)) (hf : f ≤ i) (hi : l[i]? = some c) : pc c (l.drop f) = (l.drop f).take (i - f) :: pc c (l.drop (i + 1)) := by
  have hil : i < l.length := (List.getElem?_eq_some_iff.1 hi).1
  have e : l.drop f = (l.drop f).take (i - f) ++ c :: l.drop (i + 1) := by
    conv => lhs; rw [← List.take_append_drop (i - f) (l.drop f)]
    congr 1
    rw [List.drop_drop, show f + (i - f) = i by omega, List.drop_eq_getElem_cons hil]
    congr 1
    rw [List.getElem?_eq_getElem hil] at hi
    exact Option.some.inj hi
  conv => lhs; rw [e]
  exact pc_cut h

/-- Where the loop over the bytes stands. -/
structure PRel (s : ByteArray) (c : UInt8) (w : World) (iv fv out : Value) (wr : World) : Prop where
  ex : ∃ (i f : Nat) (done : List (List UInt8)), iv = .int .i64 i ∧ fv = .int .i64 f ∧ f ≤ i ∧ i ≤ s.size ∧ wr.ownsRow w.heap.size 9 1 out done.length (pcells done) ∧ Below w.heap.size w wr ∧ done.length ≤ f ∧ Hid (c ∉ ((bs s).drop f).take (i - f)) ∧ Hid (pc c (bs s) = done ++ pc c ((bs s).drop f))

set_option maxHeartbeats 4000000 in
theorem pieces_any (s : ByteArray) (c : UInt8) (z : Int) (hz : z = (c.toNat : Int)) (w : World) (hs : s.size ≤ 1048576) :
    Calls Tryd.prog 36 #[.string s, .int .u8 z] w fun e w' => ∃ v, e = .returned v ∧ w'.ownsRow w.heap.size 9 1 v (pc c (bs s)).length (pcells (pc c (bs s))) ∧ Below w.heap.size w w' := by
  obtain ⟨i0, hi0, hz0, hz1, hz2⟩ := info_parts info_str2
  have HZ := Lib.hid hz
  clear hz
  go_enter Tryd.func36, Tryd.ntmps36
  go_wp2
  go_loopw [7, 6, 5] (fun iv fv out wr => PRel s c w iv fv out wr) (fun iv _ _ _ => s.size - (intOf iv).toNat)
  case atStart => exact ⟨0, 0, [], rfl, rfl, Nat.le_refl _, Nat.zero_le _, World.ownsRow_nil _ _ _ _, Below.refl _ _, Nat.le_refl _, Lib.hid (by simp), Lib.hid rfl⟩
  case round =>
    obtain ⟨i, f, done, rfl, rfl, hfi, his, hown, hbw, hdl, hfree, hpc⟩ := hrel.ex
    clear hrel
    by_cases hil : i < s.size
    · have hrun := run_byte s i hil
      have hget : (bs s)[i]? = some ((bs s).getD i 0) := by
        rw [List.getD_eq_getElem?_getD, List.getElem?_eq_getElem (by rw [bs_len]; exact hil)]; rfl
      have hbz : bz s i = (((bs s).getD i 0).toNat : Int) := rfl
      have k0 : (0 : Int) ≤ i := by omega
      have k1 : (i : Int) < s.size := by omega
      have f0 : (0 : Int) ≤ f := by omega
      have f1 : (f : Int) ≤ i := by omega
      have k2 : (i : Int) ≤ s.size := by omega
      by_cases hb : (bs s).getD i 0 = c
      · rw [hb] at hget hbz
        have HX := Lib.hid (ext_ba s f i his hfi)
        have HC := Lib.hid (hpc.out.trans (by rw [cut_step hfree.out hfi hget]))
        have hzz : (bz s i == z) = true := by rw [hbz, HZ.out]; simp
        generalize bz s i = y at hrun hzz
        generalize ((bs s).drop f).take (i - f) = p at HX HC
        clear hfree hpc hget hbz hb
        go_wp2_with (at_builtin; refine wpList_append_own _ rfl _ _ _ rfl w.heap.size 9 i0 (.string { data := #[] }) 1 16 Tryd.underlying52 hi0 hz0 hz1 hz2 rfl (by decide) _ done.length (pcells done) rfl (hown.alloc _) ⟨wr.heap.size, 0, none⟩ 1 1 [.string (s.extract f i)] rfl rfl (cell_one_new _ _ _) ?c2 ?c3 ?c4 ?c5 ?_)
        case c2 => simp [Value.oneCell']
        case c3 => unfold maxLen; omega
        case c4 => omega
        case c5 => have := hbw.size; simp; omega
        intro v' w5 hown5 hg5 _
        have hb5 := below_own (hbw.alloc hbw.size _) (hown.alloc _) (Nat.le_refl _) (by have := hbw.size; simp; omega) hg5
        have hown6 : w5.ownsRow w.heap.size 9 1 v' (done ++ [p]).length (pcells (done ++ [p])) := by rw [pcells_snoc, ← HX.out, List.length_append]; exact hown5
        clear hown5 hg5 hbw hown
        go_wp2
        go_roundw
        case rel => exact ⟨i + 1, i + 1, done ++ [p], by go_num, by go_num, Nat.le_refl _, by omega, hown6, hb5, by rw [List.length_append]; simp; omega, Lib.hid (by simp), Lib.hid (by rw [HC.out]; simp)⟩
        case measure => simp [intOf]; omega
      · have HF := Lib.hid (free_step hfree.out hfi hget hb)
        have hzz : (bz s i == z) = false := by
          rw [hbz, HZ.out]
          simp only [beq_eq_false_iff_ne, ne_eq]
          intro e
          exact hb (UInt8.toNat_inj.1 (by omega))
        generalize bz s i = y at hrun hzz
        clear hfree hget hbz hb
        go_wp2
        go_roundw
        case rel => exact ⟨i + 1, f, done, by go_num, rfl, by omega, by omega, hown, hbw, hdl, HF, hpc⟩
        case measure => simp [intOf]; omega
    · obtain rfl : i = s.size := by omega
      have HX := Lib.hid (ext_ba s f s.size (Nat.le_refl _) hfi)
      have hfull : ((bs s).drop f).take (s.size - f) = (bs s).drop f := List.take_of_length_le (by rw [List.length_drop, bs_len]; exact Nat.le_refl _)
      have hq := hpc.out
      have hfr := hfree.out
      rw [hfull] at hfr HX
      rw [pc_none hfr] at hq
      have HC := Lib.hid hq
      have f0 : (0 : Int) ≤ f := by omega
      have f1 : (f : Int) ≤ s.size := by omega
      clear hq hfr hfull hfree hpc
      generalize (bs s).drop f = p at HX HC
      go_wp2_with (at_builtin; refine wpList_append_own _ rfl _ _ _ rfl w.heap.size 9 i0 (.string { data := #[] }) 1 16 Tryd.underlying52 hi0 hz0 hz1 hz2 rfl (by decide) _ done.length (pcells done) rfl (hown.alloc _) ⟨wr.heap.size, 0, none⟩ 1 1 [.string (s.extract f s.size)] rfl rfl (cell_one_new _ _ _) ?c2 ?c3 ?c4 ?c5 ?_)
      case c2 => simp [Value.oneCell']
      case c3 => unfold maxLen; omega
      case c4 => omega
      case c5 => have := hbw.size; simp; omega
      intro v' w5 hown5 hg5 _
      have hb5 := below_own (hbw.alloc hbw.size _) (hown.alloc _) (Nat.le_refl _) (by have := hbw.size; simp; omega) hg5
      go_wp2
      go_ret
      exact ⟨v', rfl, by rw [HC.out, pcells_snoc, ← HX.out, List.length_append]; exact hown5, hb5⟩

end Go.Proofs.YtpaeppklkicngaaDoor.Rom
