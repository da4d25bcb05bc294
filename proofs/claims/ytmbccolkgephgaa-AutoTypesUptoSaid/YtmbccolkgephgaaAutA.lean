/-
  Contracts of the automaton's onlyKeys and rule.
-/
import Derived.Test.YtmbccolkgephgaaAutM
import Derived.Test.YtmbccolkgephgaaClone
import Derived.Laws.MakeOwn
set_option linter.unusedVariables false
set_option linter.unusedSimpArgs false
set_option maxRecDepth 100000
namespace Go.Proofs.Ytmbccolkgephgaa.Aut
open Go Go.RowKit Go.Proofs.Ytmbccolkgephgaa.Kit Go.Proofs.Ytmbccolkgephgaa.Utf Go.Proofs.Ytmbccolkgephgaa.Rom

/-- Byte i of a string, as a byte. -/
def bt8 (s : ByteArray) (i : Nat) : UInt8 := (bs s).getD i 0
theorem bz_bt8 (s : ByteArray) (i : Nat) : bz s i = ((bt8 s i).toNat : Int) := rfl
theorem bs_at (s : ByteArray) (i : Nat) (h : i < s.size) : (bs s).take (i + 1) = (bs s).take i ++ [bt8 s i] := by
  unfold bt8
  rw [List.take_add_one, List.getD_eq_getElem?_getD, List.getElem?_eq_getElem (by rw [bs_len]; exact h)]
  rfl
theorem keysOf_succ (s : ByteArray) (i : Nat) (h : i < s.size) : keysOf ((bs s).take (i + 1)) = keysOf ((bs s).take i) ++ (if isKb (bt8 s i) then [bt8 s i] else []) := by
  rw [bs_at s i h, keysOf_append]
  congr 1
  unfold keysOf
  rw [List.filter_cons]
  rfl

set_option maxHeartbeats 2000000 in
theorem only_any (s : ByteArray) (w : World) (hs : s.size ≤ 140737488351232) :
    Calls Try.prog 36 #[.string s] w fun e w' => e = .returned (.string (ba (keysOf (bs s)))) ∧ Below w.heap.size w w' := by
  obtain ⟨i0, hi, hz0, hz1, hz2⟩ := info_parts Clone.info_u8
  have hml : s.size ≤ maxLen := by unfold maxLen; omega
  go_enter Try.func36, Try.ntmps36
  go_wp2_with (at_make; refine wpList_make_own _ rfl _ _ _ rfl w.heap.size 5 i0 (.int .u8 0) 1 Try.underlying47 hi hz0 hz1 _ _ _ s.size rfl rfl rfl (by rw [hz2]; omega) hml (Nat.le_refl _) ?_; intro w2 hown2 hg2)
  have hb2 := (Below.refl w.heap.size w).grown hg2 (Nat.le_refl _) (fun k hk => by cases hk)
  go_loopw [3, 10, 4] (fun v i _ wr => ∃ k : Nat, i = .int .i64 k ∧ k ≤ s.size ∧ wr.ownsRow w.heap.size 5 1 v (keysOf ((bs s).take k)).length (u8s (keysOf ((bs s).take k))) ∧ Below w.heap.size w wr) (fun _ i _ _ => s.size - (intOf i).toNat)
  case atStart => exact ⟨0, rfl, Nat.zero_le _, hown2, hb2⟩
  case round =>
    obtain ⟨k, rfl, hk, hown, hbw⟩ := hrel
    have hws := hbw.size
    by_cases hkl : k < s.size
    · have hrun := run_byte s k hkl
      have hbz := bz_bound s k
      have hsu := Lib.hid (keysOf_succ s k hkl)
      have hln : (keysOf ((bs s).take k)).length ≤ k := by
        have := keysOf_le ((bs s).take k)
        rw [List.length_take] at this; omega
      have hbt := Lib.hid (bz_bt8 s k)
      generalize keysOf ((bs s).take k) = xs at hown hsu hln
      obtain ⟨L, hL⟩ : ∃ L, xs.length = L := ⟨_, rfl⟩
      rw [hL] at hown hln
      have HL := Lib.hid hL
      clear hL
      generalize bz s k = x at hrun hbz hbt
      generalize bt8 s k = c at hsu hbt
      obtain ⟨hb0, hb1⟩ := hbz
      by_cases h1 : (33 : Int) ≤ x ∧ x ≤ 126
      · obtain ⟨h1, h2⟩ := h1
        have hK : isKb c = true := by unfold isKb; rw [decide_eq_true_eq]; have := hbt.out; omega
        have hs2 := hsu.out
        rw [hK, if_pos rfl] at hs2
        have HS := Lib.hid hs2
        clear hs2 hsu hK
        go_wp2_with (at_builtin; refine wpList_append_own _ rfl _ _ _ rfl w.heap.size 5 i0 (.int .u8 0) 1 1 Try.underlying47 hi hz0 hz1 hz2 rfl (by decide) _ L (u8s xs) rfl (hown.alloc _) ⟨wr.heap.size, 0, none⟩ 1 1 [.int .u8 x] rfl rfl (cell_one_new _ _ _) ?c2 ?c3 ?c4 ?c5 ?_)
        case c2 => intro u hu; rw [List.mem_singleton] at hu; subst hu; rfl
        case c3 => unfold maxLen; omega
        case c4 => omega
        case c5 => simp; omega
        intro v' w5 hown5 hg5 _
        have hb5 : Below w.heap.size w w5 := (hbw.alloc hws _).grown hg5 (by simp; omega) (fun j hj => by have := hown.lt j hj; omega)
        go_wp2
        go_roundw
        case rel => exact ⟨k + 1, by go_num, by omega, by rw [HS.out, List.length_append, List.length_singleton, HL.out, u8s_append, show u8s [c] = [.int .u8 x] by simp [u8s, hbt.out]]; exact hown5, hb5⟩
        case measure => simp [intOf]; omega
      · have hK : isKb c = false := by unfold isKb; rw [decide_eq_false_iff_not]; have := hbt.out; omega
        have hs2 := hsu.out
        rw [hK] at hs2
        simp only [Bool.false_eq_true, if_false, List.append_nil] at hs2
        have HS := Lib.hid hs2
        clear hs2 hsu hK
        by_cases h2 : (33 : Int) ≤ x
        · have h3 : ¬ x ≤ 126 := by omega
          clear h1
          go_wp2
          go_roundw
          case rel => exact ⟨k + 1, by go_num, by omega, by rw [HS.out, HL.out]; exact hown, hbw⟩
          case measure => simp [intOf]; omega
        · clear h1
          go_wp2
          go_roundw
          case rel => exact ⟨k + 1, by go_num, by omega, by rw [HS.out, HL.out]; exact hown, hbw⟩
          case measure => simp [intOf]; omega
    · have e1 : (bs s).take k = bs s := List.take_of_length_le (by rw [bs_len]; omega)
      rw [e1] at hown
      have hc := Lib.hid (conv_bytes (P := Try.prog) (src := 47) (dst := 9) hown Try.underlying47 Try.underlying5 Try.underlying9)
      have hcr := hc.out
      clear e1 hown
      go_wp2
      go_ret
      exact ⟨rfl, hbw⟩

end Go.Proofs.Ytmbccolkgephgaa.Aut
