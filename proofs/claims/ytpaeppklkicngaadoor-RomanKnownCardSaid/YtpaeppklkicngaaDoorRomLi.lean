/-
  Contracts of the laws' lines and joined.
-/
import Derived.Test.YtpaeppklkicngaaDoorRomS
import Derived.Test.YtpaeppklkicngaaDoorRomLm
set_option linter.unusedVariables false
set_option linter.unusedSimpArgs false
set_option maxRecDepth 100000
namespace Go.Proofs.YtpaeppklkicngaaDoor.Rom
open Go Go.RowKit Go.Shelf Go.Proofs.YtpaeppklkicngaaDoor.Kit Go.Proofs.YtpaeppklkicngaaDoor.Utf

set_option maxHeartbeats 4000000 in
theorem lines_any (s : ByteArray) (w : World) (hs : s.size ≤ 1048576) :
    Calls Tryd.prog 28 #[.string s] w fun e w' => ∃ v, e = .returned v ∧ w'.ownsRow w.heap.size 9 1 v (pc 10 (bs s)).length (pcells (pc 10 (bs s))) ∧ Below w.heap.size w w' := by
  obtain ⟨i0, hi0, hz0, hz1, hz2⟩ := info_parts info_str2
  go_enter Tryd.func28, Tryd.ntmps28
  go_wp2
  go_loopw [5, 4, 3] (fun iv fv out wr => PRel s 10 w iv fv out wr) (fun iv _ _ _ => s.size - (intOf iv).toNat)
  case atStart => exact ⟨0, 0, [], rfl, rfl, Nat.le_refl _, Nat.zero_le _, World.ownsRow_nil _ _ _ _, Below.refl _ _, Nat.le_refl _, Lib.hid (by simp), Lib.hid rfl⟩
  case round =>
    obtain ⟨i, f, done, rfl, rfl, hfi, his, hown, hbw, hdl, hfree, hpc⟩ := hrel.ex
    clear hrel
    by_cases hil : i < s.size
    · have hrun := run_byte s i hil
      have hget : (bs s)[i]? = some ((bs s).getD i 0) := by
        rw [List.getD_eq_getElem?_getD, List.getElem?_eq_getElem (by rw [bs_len]; exact hil)]; rfl
      have hbz : bz s i = (((bs s).getD i 0).toNat : Int) := rfl
      have k0 : (0 : Int) ≤ i := by omega
      have k1 : (i : Int) < s.size := by omega
      have f0 : (0 : Int) ≤ f := by omega
      have f1 : (f : Int) ≤ i := by omega
      have k2 : (i : Int) ≤ s.size := by omega
      by_cases hb : (bs s).getD i 0 = 10
      · rw [hb] at hget hbz
        have HX := Lib.hid (ext_ba s f i his hfi)
        have HC := Lib.hid (hpc.out.trans (by rw [cut_step hfree.out hfi hget]))
        have hzz : (bz s i == 10) = true := by rw [hbz]; rfl
        generalize bz s i = y at hrun hzz
        generalize ((bs s).drop f).take (i - f) = p at HX HC
        clear hfree hpc hget hbz hb
        go_wp2_with (at_builtin; refine wpList_append_own _ rfl _ _ _ rfl w.heap.size 9 i0 (.string { data := #[] }) 1 16 Tryd.underlying52 hi0 hz0 hz1 hz2 rfl (by decide) _ done.length (pcells done) rfl (hown.alloc _) ⟨wr.heap.size, 0, none⟩ 1 1 [.string (s.extract f i)] rfl rfl (cell_one_new _ _ _) ?c2 ?c3 ?c4 ?c5 ?_)
        case c2 => simp [Value.oneCell']
        case c3 => unfold maxLen; omega
        case c4 => omega
        case c5 => have := hbw.size; simp; omega
        intro v' w5 hown5 hg5 _
        have hb5 := below_own (hbw.alloc hbw.size _) (hown.alloc _) (Nat.le_refl _) (by have := hbw.size; simp; omega) hg5
        have hown6 : w5.ownsRow w.heap.size 9 1 v' (done ++ [p]).length (pcells (done ++ [p])) := by rw [pcells_snoc, ← HX.out, List.length_append]; exact hown5
        clear hown5 hg5 hbw hown
        go_wp2
        go_roundw
        case rel => exact ⟨i + 1, i + 1, done ++ [p], by go_num, by go_num, Nat.le_refl _, by omega, hown6, hb5, by rw [List.length_append]; simp; omega, Lib.hid (by simp), Lib.hid (by rw [HC.out]; simp)⟩
        case measure => simp [intOf]; omega
      · have HF := Lib.hid (free_step hfree.out hfi hget hb)
        have hzz : (bz s i == 10) = false := by
          rw [hbz]
          simp only [beq_eq_false_iff_ne, ne_eq]
          intro e
          exact hb (UInt8.toNat_inj.1 (by show _ = 10; omega))
        generalize bz s i = y at hrun hzz
        clear hfree hget hbz hb
        go_wp2
        go_roundw
        case rel => exact ⟨i + 1, f, done, by go_num, rfl, by omega, by omega, hown, hbw, hdl, HF, hpc⟩
        case measure => simp [intOf]; omega
    · obtain rfl : i = s.size := by omega
      have HX := Lib.hid (ext_ba s f s.size (Nat.le_refl _) hfi)
      have hfull : ((bs s).drop f).take (s.size - f) = (bs s).drop f := List.take_of_length_le (by rw [List.length_drop, bs_len]; exact Nat.le_refl _)
      have hq := hpc.out
      have hfr := hfree.out
      rw [hfull] at hfr HX
      rw [pc_none hfr] at hq
      have HC := Lib.hid hq
      have f0 : (0 : Int) ≤ f := by omega
      have f1 : (f : Int) ≤ s.size := by omega
      clear hq hfr hfull hfree hpc
      generalize (bs s).drop f = p at HX HC
      go_wp2_with (at_builtin; refine wpList_append_own _ rfl _ _ _ rfl w.heap.size 9 i0 (.string { data := #[] }) 1 16 Tryd.underlying52 hi0 hz0 hz1 hz2 rfl (by decide) _ done.length (pcells done) rfl (hown.alloc _) ⟨wr.heap.size, 0, none⟩ 1 1 [.string (s.extract f s.size)] rfl rfl (cell_one_new _ _ _) ?c2 ?c3 ?c4 ?c5 ?_)
      case c2 => simp [Value.oneCell']
      case c3 => unfold maxLen; omega
      case c4 => omega
      case c5 => have := hbw.size; simp; omega
      intro v' w5 hown5 hg5 _
      have hb5 := below_own (hbw.alloc hbw.size _) (hown.alloc _) (Nat.le_refl _) (by have := hbw.size; simp; omega) hg5
      go_wp2
      go_ret
      exact ⟨v', rfl, by rw [HC.out, pcells_snoc, ← HX.out, List.length_append]; exact hown5, hb5⟩


theorem reads_at {w : World} {a : Option Addr} {n cap : Nat} {ps : List (List UInt8)} (h : Reads w (.slice a n cap) (pcells ps)) (h0 : 0 < ps.length) :
    ∃ b off, a = some ⟨b, off, none⟩ ∧ b < w.heap.size ∧ ∀ k, k < ps.length → w.cell? ⟨b, off + k, none⟩ = some (.string (ba (ps.getD k []))) := by
  obtain ⟨a, len, cap, e, h1, h2, h3, h4⟩ := h
  cases e
  rw [pcells_len] at h1
  rcases h4 with ⟨rfl, hl, _⟩ | ⟨x, rfl, hl⟩ | ⟨b, off, rfl, hlt, hx⟩
  · omega
  · omega
  · refine ⟨b, off, rfl, hlt, fun k hk => hx k _ ?_⟩
    unfold pcells
    rw [List.getElem?_map, List.getD_eq_getElem?_getD, List.getElem?_eq_getElem hk]
    rfl

set_option maxHeartbeats 4000000 in
theorem joined_any (v : Value) (ps : List (List UInt8)) (w : World) (hR : Reads w v (pcells ps)) (hl : tl ps ≤ 100000) :
    Calls Tryd.prog 29 #[v] w fun e w' => e = .returned (.string (ba (jn 10 ps))) ∧ Below w.heap.size w w' := by
  obtain ⟨a, len, cap, rfl, hlen, hcap, hmax, _⟩ := id hR
  rw [pcells_len] at hlen
  subst hlen
  have HR := Lib.hid hR
  have HTL := Lib.hid (fun k => Nat.le_trans (jn_le 10 (ps.take k)) (Nat.le_trans (tl_take ps k) hl))
  have HTG := Lib.hid (fun k => Nat.le_trans (tl_getD ps k) hl)
  have hmx : ps.length ≤ 9223372036854775807 := by unfold maxLen at hmax; omega
  clear hR hl
  go_enter Tryd.func29, Tryd.ntmps29
  go_wp2
  go_loopw [4, 3] (fun i sv wr => ∃ k : Nat, i = .int .i64 k ∧ k ≤ ps.length ∧ sv = .string (ba (jn 10 (ps.take k))) ∧ Below w.heap.size w wr) (fun i _ _ => ps.length - (intOf i).toNat)
  case atStart => exact ⟨0, rfl, Nat.zero_le _, rfl, Below.refl _ _⟩
  case round =>
    obtain ⟨k, rfl, hk, rfl, hbw⟩ := hrel
    by_cases hkl : k < ps.length
    · obtain ⟨b, off, rfl, hb, hx⟩ := reads_at HR.out (by omega)
      have x0 := hx k hkl
      rw [← hbw.cell (p := ⟨b, _, none⟩) hb] at x0
      have k0 : (0 : Int) ≤ k := by omega
      have k1 : (k : Int) < ps.length := by omega
      have z1 : (ba (jn 10 (ps.take k))).size ≤ 100000 := by rw [ba_size]; exact HTL.out k
      have z2 : (ba (ps.getD k [])).size ≤ 100000 := by rw [ba_size]; exact HTG.out k
      clear hx
      by_cases hz : k = 0
      · subst hz
        have HJ := Lib.hid (show ba (jn 10 (ps.take 0)) ++ ba (ps.getD 0 []) = ba (jn 10 (ps.take (0 + 1))) by rw [jn_first hkl, ba_app]; rfl)
        rw [Nat.add_zero] at x0
        generalize ps.getD 0 [] = p at *
        generalize jn 10 (ps.take 0) = acc at *
        go_wp2
        go_roundw
        case rel => exact ⟨1, by go_num, by omega, by rw [← HJ.out], hbw⟩
        case measure => simp [intOf]; omega
      · have hkp : (0 : Int) < k := by omega
        have HJ := Lib.hid (show ba (jn 10 (ps.take k)) ++ { data := #[10] } ++ ba (ps.getD k []) = ba (jn 10 (ps.take (k + 1))) by
          rw [jn_more hkl (by omega), ba_lit, ba_app, ba_app]; simp)
        generalize ps.getD k [] = p at *
        generalize jn 10 (ps.take k) = acc at *
        go_wp2
        go_roundw
        case rel => exact ⟨k + 1, by go_num, by omega, by rw [← HJ.out], hbw⟩
        case measure => simp [intOf]; omega
    · rw [List.take_of_length_le (by omega)]
      go_wp2
      go_ret
      exact ⟨rfl, hbw⟩

end Go.Proofs.YtpaeppklkicngaaDoor.Rom
