/-
  The examples of the chapter, and the limits.
-/
import Derived.Test.YtpaeppklkicngaaDoorRomKn
import Derived.Test.YtpaeppklkicngaaDoorRomDp
import Derived.Test.YtpaeppklkicngaaDoorRomW
import Derived.Test.YtpaeppklkicngaaDoorRomX
import Derived.OpenShut
import Derived.ShutString
import Derived.ChangeOld
import Derived.LaidMore
import Derived.Lay
import Derived.SevenTiedAt
import Derived.SizedLaws
import Derived.Test.YtpaeppklkicngaaDoorCards
import Derived.Test.YtpaeppklkicngaaDoorTie
set_option linter.unusedVariables false
set_option linter.unusedSimpArgs false
namespace Go.Proofs.YtpaeppklkicngaaDoor.romanKnown
open Go Go.RowKit Go.ChangeShapes Go.WideShapes Go.ChangeAt Go.Proofs.YtpaeppklkicngaaDoor Go.Proofs.YtpaeppklkicngaaDoor.Kit
open Go.ChangeMaps (open_string shut_string)
open Go.Proofs.YtpaeppklkicngaaDoor.Utf Go.Proofs.YtpaeppklkicngaaDoor.Rom
set_option maxRecDepth 100000

/-- Parse of a text that is refused, or has no rule. -/
theorem parse_no (s : ByteArray) (ln : Nat) (er : Int) (h : parseL s = ([], ln, er)) (hs : s.size ≤ 140737488351232) (n : Int) (hn : (ln : Int) = n) (W : World) :
    Calls Tryd.prog 11 #[.string s] W fun e w' => ∃ a cap, e = .returned (.tuple #[.slice a 0 cap, .int .i64 n, .int .i64 er]) ∧ Below W.heap.size W w' := by
  subst hn
  exact (parse_is s [] ln er h hs W).mono fun e w' ⟨a, cap, he, _, hb, _⟩ => ⟨a, cap, he, hb⟩
theorem bad_at (m : Nat) (hm : m < 13) (W : World) :
    Calls Tryd.prog 11 #[.string (ba (badL.getD m []))] W fun e w' => ∃ a cap, e = .returned (.tuple #[.slice a 0 cap, .int .i64 1, .int .i64 50]) ∧ Below W.heap.size W w' := by
  have hlen : m < badL.length := hm
  have hmem : badL.getD m [] ∈ badL := by
    rw [List.getD_eq_getElem?_getD, List.getElem?_eq_getElem hlen]; exact List.getElem_mem _
  exact parse_no _ 1 50 (bad_parse _ hmem) (by rw [ba_size]; have := bad_len _ hmem; omega) 1 rfl W
theorem gap_at (W : World) :
    Calls Tryd.prog 11 #[.string { data := #[97, 9, 227, 129, 130, 10, 10, 97, 9, 227, 129, 132] }] W fun e w' => ∃ a cap, e = .returned (.tuple #[.slice a 0 cap, .int .i64 3, .int .i64 50]) ∧ Below W.heap.size W w' :=
  parse_no _ 3 50 gap_parse (by decide) 3 rfl W
theorem kk_at (W : World) :
    Calls Tryd.prog 11 #[.string { data := #[107, 107, 9, 9, 107, 10, 35, 32, 255, 10, 10, 35] }] W fun e w' => ∃ a cap, e = .returned (.tuple #[.slice a 1 cap, .int .i64 0, .int .i64 0]) ∧ RowR w' (.slice a 1 cap) [kk1] ∧ Below W.heap.size W w' :=
  (parse_is _ [kk1] 0 0 kk_parse (by decide) W).mono fun e w' ⟨a, cap, he, hR, hb, _⟩ => ⟨a, cap, he, hR, hb⟩
theorem none_at (W : World) :
    Calls Tryd.prog 11 #[.string { data := #[] }] W fun e w' => ∃ a cap, e = .returned (.tuple #[.slice a 0 cap, .int .i64 0, .int .i64 0]) ∧ Below W.heap.size W w' :=
  parse_no _ 0 0 none_parse (by decide) 0 rfl W

theorem full_at (T : ByteArray) (hT : ba (txt 500) = T) (W : World) :
    Calls Tryd.prog 11 #[.string T] W fun e w' => ∃ a cap, e = .returned (.tuple #[.slice a 500 cap, .int .i64 0, .int .i64 0]) ∧ Below W.heap.size W w' := by
  subst hT
  refine (parse_is _ fullL 0 0 txt_parse (by rw [ba_size, txt_len]; omega) W).mono ?_
  rw [full_len]
  exact fun e w' ⟨a, cap, he, _, hb, _⟩ => ⟨a, cap, he, hb⟩
theorem late_at (T : ByteArray) (hT : ba (txt 500) = T) (W : World) :
    Calls Tryd.prog 11 #[.string (T ++ { data := #[122, 122, 9, 227, 130, 147] })] W fun e w' => ∃ a cap, e = .returned (.tuple #[.slice a 0 cap, .int .i64 501, .int .i64 50]) ∧ Below W.heap.size W w' := by
  subst hT
  rw [app_lit (txt 500) zzL { data := #[122, 122, 9, 227, 130, 147] } rfl]
  exact parse_no _ 501 50 late_parse (by rw [ba_size, List.length_append, txt_len]; simp [zzL]) 501 rfl W
theorem much_at (W : World) :
    Calls Tryd.prog 11 #[.string (ba (hb 1048577))] W fun e w' => ∃ a cap, e = .returned (.tuple #[.slice a 0 cap, .int .i64 0, .int .i64 2]) ∧ Below W.heap.size W w' :=
  parse_no _ 0 2 hash_much (by rw [ba_size, List.length_replicate]; omega) 0 rfl W
theorem fits_at (W : World) :
    Calls Tryd.prog 11 #[.string (ba (hb 1048576))] W fun e w' => ∃ a cap, e = .returned (.tuple #[.slice a 0 cap, .int .i64 0, .int .i64 0]) ∧ Below W.heap.size W w' :=
  parse_no _ 0 0 hash_fits (by rw [ba_size, List.length_replicate]; omega) 0 rfl W
theorem conv_part {w : World} {base n k g cap : Nat} (h : w.ownsRow base 5 1 (.slice (some ⟨g, 0, none⟩) n cap) n (u8s (hb n))) (hk : k ≤ n) :
    (convert 58 9 (.slice (some ⟨g, 0, none⟩) k cap)).run Tryd.prog w = .ok (.string (ba (hb k))) w := by
  have h2 := own_part h hk
  rw [hb_take hk] at h2
  exact conv_row h2
theorem more_short : ∀ r ∈ fullL ++ [noRule], Short r := by
  intro r hr
  rcases List.mem_append.1 hr with h | h
  · exact full_short r h
  · rw [List.mem_singleton] at h
    subst h
    exact ⟨by decide, by decide, by decide⟩
theorem def_short : ∀ r ∈ defL, Short r := by
  have h : ∀ t ∈ def3, t.1.length ≤ 10 ∧ t.2.1.length ≤ 10 ∧ t.2.2.length ≤ 10 := by decide +kernel
  intro r hr
  obtain ⟨t, ht, rfl⟩ := List.mem_map.1 hr
  have := h t ht
  refine ⟨?_, ?_, ?_⟩
  · show (ba t.1).size ≤ _; rw [ba_size]; omega
  · show (ba t.2.1).size ≤ _; rw [ba_size]; omega
  · show (ba t.2.2).size ≤ _; rw [ba_size]; omega

theorem check_full (v : Value) (W : World) (hR : RowR W v fullL) :
    Calls Tryd.prog 19 #[v] W fun e w' => e = .returned (.int .i64 0) ∧ Below W.heap.size W w' := by
  have h := check_any v fullL W hR full_short
  rw [full_check] at h
  exact h
theorem check_more (v : Value) (W : World) (hR : RowR W v (fullL ++ [noRule])) :
    Calls Tryd.prog 19 #[v] W fun e w' => e = .returned (.int .i64 2) ∧ Below W.heap.size W w' := by
  have h := check_any v _ W hR more_short
  rw [more_check] at h
  exact h
theorem check_nil (W : World) :
    Calls Tryd.prog 19 #[.slice none 0 0] W fun e w' => e = .returned (.int .i64 0) ∧ Below W.heap.size W w' := by
  have h := check_any (.slice none 0 0) [] W (RowR.nil W) (by simp)
  exact h
theorem tsu_at (v : Value) (W : World) (hR : RowR W v defL) :
    Calls Tryd.prog 21 #[v, .string { data := #[120, 116, 115, 117] }] W fun e w' => e = .returned (.tuple #[.agg #[.string { data := #[120, 116, 115, 117] }, .string { data := #[227, 129, 163] }, .string { data := #[] }], .bool true]) ∧ Below W.heap.size W w' := by
  have h := find_any v defL (ba [120, 116, 115, 117]) W hR def_short
  rw [def_tsu] at h
  exact h
theorem empty_at (v : Value) (W : World) (hR : RowR W v defL) :
    Calls Tryd.prog 21 #[v, .string { data := #[] }] W fun e w' => e = .returned (.tuple #[.agg #[.string { data := #[] }, .string { data := #[] }, .string { data := #[] }], .bool false]) ∧ Below W.heap.size W w' := by
  have h := find_any v defL (ba []) W hR def_short
  rw [def_no] at h
  exact h
theorem long_n (v : Value) (W : World) (hR : RowR W v defL) :
    Calls Tryd.prog 23 #[v, .string { data := #[110] }] W fun e w' => e = .returned (.bool true) ∧ Below W.heap.size W w' := by
  have h := longer_any v defL (ba [110]) W hR
  rw [def_n] at h
  exact h
theorem long_e (v : Value) (W : World) (hR : RowR W v defL) :
    Calls Tryd.prog 23 #[v, .string { data := #[] }] W fun e w' => e = .returned (.bool true) ∧ Below W.heap.size W w' := by
  have h := longer_any v defL (ba []) W hR
  rw [def_e] at h
  exact h
theorem long_nn (v : Value) (W : World) (hR : RowR W v defL) :
    Calls Tryd.prog 23 #[v, .string { data := #[110, 110] }] W fun e w' => e = .returned (.bool false) ∧ Below W.heap.size W w' := by
  have h := longer_any v defL (ba [110, 110]) W hR
  rw [def_nn] at h
  exact h
theorem same_kk (v1 v2 : Value) (W : World) (h1 : RowR W v1 [kk1]) (h2 : RowR W v2 [kk1]) :
    Calls Tryd.prog 13 #[v1, v2] W fun e w' => e = .returned (.bool true) ∧ Below W.heap.size W w' := by
  have h := same_any v1 v2 [kk1] [kk1] W h1 h2 (by simp)
  rw [decide_eq_true rfl] at h
  exact h

set_option maxHeartbeats 16000000 in
theorem walk (w : World) :
    Calls Tryd.prog 10 #[] w fun e w' => e = .returned (.bool true) ∧ Below w.heap.size w w' := by
  obtain ⟨i0, hi0, hz0, hz1, hz2⟩ := info_parts info_rule
  have HBAD := Lib.hid bad_at
  have HGAP := Lib.hid gap_at
  have HKK := Lib.hid kk_at
  have HNO := Lib.hid none_at
  have HNUM := Lib.hid number_any
  go_enter Tryd.func10, Tryd.ntmps10
  go_wp2
  obtain ⟨w1, hw1⟩ : ∃ w1, w.alloc (.cells #[.string { data := #[107, 97] }, .string { data := #[107, 97, 9, 227, 129, 139, 9] }, .string { data := #[107, 97, 32] }, .string { data := #[75, 65, 9, 227, 129, 139] }, .string { data := #[107, 121, 97, 97, 97, 9, 227, 129, 139] }, .string { data := #[107, 97, 9, 227, 130, 171] }, .string { data := #[107, 9] }, .string { data := #[107, 9, 9, 107] }, .string { data := #[107, 97, 9, 227, 129, 139, 9, 107, 9, 107] }, .string { data := #[9, 227, 129, 139] }, .string { data := #[107, 97, 9, 227, 129, 139, 227, 129, 139, 227, 129, 139, 227, 129, 139, 227, 129, 139] }, .string { data := #[107, 97, 9, 255] }, .string { data := #[107, 97, 9, 227, 129, 139, 13] }] 9) = w1 := ⟨_, rfl⟩
  have hb1 : Below w.heap.size w w1 := by rw [← hw1]; exact (Below.refl _ _).alloc (Nat.le_refl _) _
  have hs1 : w1.heap.size = w.heap.size + 1 := by rw [← hw1]; simp
  have hcells : ∀ j, j < 13 → w1.cell? ⟨w.heap.size, j, none⟩ = some (.string (ba (badL.getD j []))) := by
    intro j hj
    rw [cell_of_row w1 w.heap.size j _ _ (0, 0) (by rw [← hw1]; exact heap_alloc_new w _)]
    match j, hj with
    | 0, _ => rfl
    | 1, _ => rfl
    | 2, _ => rfl
    | 3, _ => rfl
    | 4, _ => rfl
    | 5, _ => rfl
    | 6, _ => rfl
    | 7, _ => rfl
    | 8, _ => rfl
    | 9, _ => rfl
    | 10, _ => rfl
    | 11, _ => rfl
    | 12, _ => rfl
  rw [hw1]
  clear hw1
  obtain ⟨g, hg⟩ : ∃ g, w.heap.size = g := ⟨_, rfl⟩
  rw [hg] at hs1 hcells
  rw [hg]
  have H1 := Lib.hid hb1
  have HCE := Lib.hid hcells
  clear hb1 hcells
  go_loopw [2] (fun i wr => ∃ m : Nat, i = .int .i64 m ∧ m ≤ 13 ∧ Below w1.heap.size w1 wr) (fun i _ => 13 - (intOf i).toNat)
  case atStart => exact ⟨0, rfl, by omega, Below.refl _ _⟩
  case round =>
    obtain ⟨m, rfl, hm, hbw⟩ := hrel
    by_cases hml : m < 13
    · have z0 : wr.cell? ⟨g, m, none⟩ = some (.string (ba (badL.getD m []))) := (hbw.cell (p := ⟨g, m, none⟩) (by show g < _; omega)).trans (HCE.out m hml)
      have k0 : (0 : Int) ≤ m := by omega
      have k1 : (m : Int) < 13 := by omega
      have HP := Lib.hid (HBAD.out m hml)
      generalize badL.getD m [] = bt at *
      have HB := Lib.hid hbw
      clear hbw
      go_wp2_with (go_at_call 11; (refine (HP.out _).mono ?_); rintro e w2 ⟨a2, cap2, rfl, hb2⟩)
      go_roundw
      case rel => exact ⟨m + 1, by go_num, by omega, HB.out.trans (hb2.mono HB.out.size)⟩
      case measure => simp [intOf]; omega
    · have HB := Lib.hid (H1.out.trans (hbw.mono H1.out.size))
      clear hbw
      go_wp2_with (first
        | (go_at_call 11; (with_reducible refine (HGAP.out _).mono ?_); rintro e w2 ⟨a2, cap2, rfl, hb2⟩; have HB2 := Lib.hid (HB.out.trans (hb2.mono HB.out.size)); clear hb2 HGAP)
        | (go_at_call 11; (with_reducible refine (HKK.out _).mono ?_); rintro e w3 ⟨a3, cap3, rfl, hR3, hb3⟩; have RK := Lib.hid hR3; have HB3 := Lib.hid (HB2.out.trans (hb3.mono HB2.out.size)); clear hb3 hR3 HKK)
        | (go_at_call 11; (with_reducible refine (HNO.out _).mono ?_); rintro e w4 ⟨a4, cap4, rfl, hb4⟩; have RK4 := Lib.hid (RK.out.later hb4 (Nat.le_refl _)); have HB4 := Lib.hid (HB3.out.trans (hb4.mono HB3.out.size)); clear hb4 HNO))
      clear HB HB2 HB3 RK
      go_loopw [17, 15, 16] (fun i tx l wr => ∃ m : Nat, i = .int .i64 m ∧ m ≤ 500 ∧ tx = .string (ba (txt m)) ∧ wr.ownsRow w4.heap.size 40 3 l ((nums m).map mk3).length (rc ((nums m).map mk3)) ∧ Below w4.heap.size w4 wr) (fun i _ _ _ => 500 - (intOf i).toNat)
      case atStart => exact ⟨0, rfl, by omega, rfl, World.ownsRow_nil _ _ _ _, Below.refl _ _⟩
      case round =>
        obtain ⟨m, rfl, hm, rfl, hown, hbw⟩ := hrel
        by_cases hml : m < 500
        · have k0 : (0 : Int) ≤ m := by omega
          have k1 : (m : Int) < 500 := by omega
          have HT := Lib.hid (txt_succ m)
          have HN : Hid ((nums (m + 1)).map mk3 = (nums m).map mk3 ++ [⟨ba (nk m), ⟨#[227, 130, 147]⟩, ⟨#[]⟩⟩]) := Lib.hid (by rw [nums_succ, List.map_append]; rfl)
          have hl0 : (ba (txt m)).size ≤ 3500 := by rw [ba_size, txt_len]; omega
          have hl1 : (ba (nk m)).size ≤ 2 := by rw [ba_size]; exact Nat.le_refl _
          have HP := Lib.hid (HNUM.out m hml)
          have HL := Lib.hid (show ((nums m).map mk3).length ≤ 500 by rw [List.length_map, nums_len]; omega)
          have HO := Lib.hid hown
          have HB := Lib.hid hbw
          clear hown hbw
          generalize txt m = tm at *
          generalize (nums m).map mk3 = rsm at *
          generalize nk m = nkm at *
          go_wp2_with (first
            | (go_at_call 30; (refine (HP.out _).mono ?_); rintro e w5 ⟨rfl, hb5⟩; have HX := HB; clear HB; have HB := Lib.hid (HX.out.trans (hb5.mono HX.out.size)); have HY := HO; clear HO; have HO := Lib.hid (own_later HY.out hb5); clear HX HY hb5)
            | (at_builtin; refine wpList_append_own _ rfl _ _ _ rfl w4.heap.size 40 i0 _ 3 48 Tryd.underlying22 hi0 hz0 hz1 hz2 rfl (by decide) _ rsm.length (rc rsm) rfl (HO.out.alloc _) ⟨w5.heap.size, 0, none⟩ 1 1 (rc [⟨ba nkm, ⟨#[227, 130, 147]⟩, ⟨#[]⟩⟩]) rfl rfl (news_rule (r := ⟨ba nkm, ⟨#[227, 130, 147]⟩, ⟨#[]⟩⟩) (heap_alloc_new w5 _)) (rc_oneCell _) (by have := HL.out; unfold maxLen; first | omega | (simp; omega)) (by have := HL.out; first | omega | (simp; omega)) (by have := HB.out.size; first | omega | (simp; omega)) ?_; intro v7 w7 hown7 hg7 _))
          have HB7 : Below w4.heap.size w4 w7 := (HB.out.alloc HB.out.size _).grown hg7 (by have := HB.out.size; simp; omega) (fun j hj => (HO.out.lt j hj).1)
          go_roundw
          case rel => exact ⟨m + 1, by go_num, by omega, by rw [HT.out, ← app_lit tm _ _ (app_lit nkm [9, 227, 130, 147, 10] _ rfl), ByteArray.append_assoc]; exact rfl, by rw [HN.out, rc_append, List.length_append]; exact hown7, HB7⟩
          case measure => simp [intOf]; omega
        · have e5 : m = 500 := by omega
          subst e5
          have HL0 : Hid (wr.ownsRow w4.heap.size 40 3 u16 fullL.length (rc fullL)) := Lib.hid hown
          have HB0 := Lib.hid hbw
          clear hown hbw
          obtain ⟨T, hT⟩ : ∃ T, ba (txt 500) = T := ⟨_, rfl⟩
          rw [hT]
          have hTs : T.size ≤ 3500 := by rw [← hT, ba_size, txt_len]; exact Nat.le_refl _
          have HF := Lib.hid (full_at T hT)
          have HL := Lib.hid (late_at T hT)
          clear hT
          obtain ⟨j0, hj0, hk0, hk1, hk2⟩ := info_parts info_byte
          go_wp2_with (first
            | (go_at_call 11; (with_reducible refine (HF.out _).mono ?_); rintro e w8 ⟨a8, cap8, rfl, hb8⟩; have HB8 := Lib.hid (HB0.out.trans (hb8.mono HB0.out.size)); have HL8 := Lib.hid (own_later HL0.out hb8); clear hb8 HF HL0 HB0)
            | (go_at_call 11; (with_reducible refine (HL.out _).mono ?_); rintro e w9 ⟨a9, cap9, rfl, hb9⟩; have HB9 := Lib.hid (HB8.out.trans (hb9.mono HB8.out.size)); have HL9 := Lib.hid (own_later HL8.out hb9); clear hb9 HL HL8 HB8)
            | (at_make; refine wpList_make_full _ rfl _ _ _ rfl w9.heap.size 5 j0 (.int .u8 0) 1 Tryd.underlying58 hj0 hk0 hk1 _ _ _ _ 1048577 rfl rfl rfl rfl (by rw [hk2]; omega) (by unfold maxLen; omega) (Nat.le_refl _) ?_; intro w10 hown10 hg10))
          rw [hv_zero 1048577] at hown10
          have HO10 := Lib.hid hown10
          have HB10 : Hid (Below w9.heap.size w9 w10) := Lib.hid ((Below.refl _ w9).grown hg10 (Nat.le_refl _) (fun j hj => by cases hj))
          clear hown10 hg10
          obtain ⟨gq, hgq⟩ : ∃ gq, w9.heap.size = gq := ⟨_, rfl⟩
          have HGQ := Lib.hid hgq
          rw [hgq] at HO10 ⊢
          clear hgq
          go_loopw [25] (fun i wr => ∃ z : Int, i = .int .i64 z ∧ 0 ≤ z ∧ z ≤ 1048577 ∧ wr.ownsRow gq 5 1 (.slice (some ⟨gq, 0, none⟩) 1048577 1048577) 1048577 (hv 1048577 z.toNat) ∧ Below gq w9 wr) (fun i _ => (1048577 - intOf i).toNat)
          case atStart => exact ⟨0, rfl, by omega, by omega, HO10.out, by rw [← HGQ.out]; exact HB10.out⟩
          case round =>
            obtain ⟨z, rfl, hz0', hz1', hown, hbw⟩ := hrel
            by_cases hzl : z < 1048577
            · have hcell : ∃ x, wr.cell? ⟨gq, z.toNat, none⟩ = some x := by
                obtain ⟨g', e1, _, _, hc, _⟩ := own_cells hown (by omega)
                have hl : z.toNat < (hv 1048577 z.toNat).length := by rw [hv_len (by omega)]; omega
                cases e1
                exact ⟨_, hc z.toNat _ (List.getElem?_eq_getElem hl)⟩
              have hfr : wr.frozen? ⟨gq, z.toNat, none⟩ = false := by
                obtain ⟨g', e1, _, _, _, hf⟩ := own_cells hown (by omega)
                cases e1
                exact hf _
              obtain ⟨x, hx⟩ := hcell
              have HS : Hid ((wr.setCell ⟨gq, z.toNat, none⟩ (.int .u8 35)).ownsRow gq 5 1 (.slice (some ⟨gq, 0, none⟩) 1048577 1048577) 1048577 (hv 1048577 (z + 1).toNat)) := by
                have h := own_set hown (k := z.toNat) (by omega) (.int .u8 35)
                rw [hv_set (by omega)] at h
                rw [show (z + 1).toNat = z.toNat + 1 by omega]
                exact h
              have HW := Lib.hid (hbw.setCell (p := ⟨gq, z.toNat, none⟩) (Nat.le_refl gq) (.int .u8 35))
              clear hown hbw
              go_wp2
              go_roundw
              case rel => exact ⟨z + 1, by go_num, by omega, by omega, HS.out, HW.out⟩
              case measure => show (1048577 - (z + 1)).toNat < (1048577 - z).toNat; omega
            · have ez : z = 1048577 := by omega
              subst ez
              rw [show ((1048577 : Int)).toNat = 1048577 by omega, hv_full] at hown
              have HR := Lib.hid hown
              have hg4 : w4.heap.size ≤ w9.heap.size := HB9.out.size
              have HLR := Lib.hid (own_later HL9.out (by rw [HGQ.out]; exact hbw))
              have HBR := Lib.hid (HB9.out.trans (hbw.mono (by rw [← HGQ.out]; exact hg4)))
              have hcv1 := conv_row HR.out
              have HMU := Lib.hid much_at
              have HFI := Lib.hid fits_at
              have HC1 := Lib.hid check_full
              have HC2 := Lib.hid check_more
              have HC3 := Lib.hid check_nil
              have HDE := Lib.hid default_any
              have HF1 := Lib.hid tsu_at
              have HF2 := Lib.hid empty_at
              have HL1 := Lib.hid long_n
              have HL2 := Lib.hid long_e
              have HL3 := Lib.hid long_nn
              have HSA := Lib.hid same_kk
              have HWO := Lib.hid works_any
              have hfl := Lib.hid full_len
              clear hown hbw HB9 HL9 HO10 HB10
              go_wp2_with (first
                | (go_at_call 11; (with_reducible refine (HMU.out _).mono ?_); rintro e w11 ⟨a11, cap11, rfl, hb11⟩; have HR11 := Lib.hid (own_later HR.out hb11); have hcv2 := conv_part (k := 1048576) HR11.out (by omega); have HL11 := Lib.hid (own_later HLR.out hb11); have HB11 := Lib.hid (HBR.out.trans (hb11.mono HBR.out.size)); clear hb11 HMU HLR HBR)
                | (go_at_call 11; (with_reducible refine (HFI.out _).mono ?_); rintro e w12 ⟨a12, cap12, rfl, hb12⟩; have HL12 := Lib.hid (own_later HL11.out hb12); have HB12 := Lib.hid (HB11.out.trans (hb12.mono HB11.out.size)); clear hb12 HFI HL11 HB11)
                | (go_at_call 19; (with_reducible refine (HC1.out _ _ (row_of_own HL12.out).1).mono ?_); rintro e w13 ⟨rfl, hb13⟩; have HL13 := Lib.hid (own_later HL12.out hb13); have HB13 := Lib.hid (HB12.out.trans (hb13.mono HB12.out.size)); clear hb13 HC1 HL12 HB12)
                | (at_builtin; refine wpList_append_own_g _ rfl _ _ _ rfl w4.heap.size 40 i0 _ 3 48 Tryd.underlying22 hi0 hz0 hz1 hz2 rfl (by decide) _ fullL.length (rc fullL) rfl (HL13.out.alloc _) ⟨w13.heap.size, 0, none⟩ 1 1 (rc [noRule]) rfl rfl (news_rule (r := noRule) (heap_alloc_new w13 _)) (rc_oneCell _) (by rw [hfl.out]; unfold maxLen; omega) (by rw [hfl.out]; omega) (by have := HB13.out.size; simp; omega) ?_; intro v14 w14 hown14 hg14 _; have HL14 : Hid (w14.ownsRow w4.heap.size 40 3 v14 (fullL ++ [noRule]).length (rc (fullL ++ [noRule]))) := Lib.hid (by rw [rc_append, List.length_append]; exact hown14); have HB14 : Hid (Below w4.heap.size w4 w14) := Lib.hid ((HB13.out.alloc HB13.out.size _).grown hg14 (by have := HB13.out.size; simp; omega) (fun j hj => (HL13.out.lt j hj).1)); clear hown14 hg14 HL13 HB13)
                | (go_at_call 19; (with_reducible refine (HC2.out _ _ (row_of_own HL14.out).1).mono ?_); rintro e w15 ⟨rfl, hb15⟩; have HB15 := Lib.hid (HB14.out.trans (hb15.mono HB14.out.size)); clear hb15 HC2 HL14 HB14)
                | (go_at_call 26; (with_reducible refine (HDE.out _).mono ?_); rintro e w16 ⟨v16, rfl, own16, hb16⟩; have RD16 := Lib.hid (row_of_own own16).1; have HB16 := Lib.hid (HB15.out.trans (hb16.mono HB15.out.size)); clear hb16 own16 HDE HB15)
                | (go_at_call 21; (with_reducible refine (HF1.out _ _ RD16.out).mono ?_); rintro e w17 ⟨rfl, hb17⟩; have RD17 := Lib.hid ((RD16.out.later hb17 (Nat.le_refl _)).later ((Below.refl w17.heap.size w17).alloc (Nat.le_refl _) (.cells #[.string { data := #[120, 116, 115, 117] }, .string { data := #[227, 129, 163] }, .string { data := #[] }] 40)) (Nat.le_refl _)); have HB17 := Lib.hid ((HB16.out.trans (hb17.mono HB16.out.size)).alloc (Nat.le_trans HB16.out.size hb17.size) (.cells #[.string { data := #[120, 116, 115, 117] }, .string { data := #[227, 129, 163] }, .string { data := #[] }] 40)); have hq17 : Hid ((w17.alloc (.cells #[.string { data := #[120, 116, 115, 117] }, .string { data := #[227, 129, 163] }, .string { data := #[] }] 40)).cell? ⟨w17.heap.size, 1, none⟩ = some (.string { data := #[227, 129, 163] })) := Lib.hid (by rw [cell_of_row _ _ 1 _ _ (0, 0) (heap_alloc_new w17 _)]; rfl); clear hb17 HF1 RD16 HB16)
                | (go_at_call 21; (with_reducible refine (HF2.out _ _ RD17.out).mono ?_); rintro e w18 ⟨rfl, hb18⟩; have RD18 := Lib.hid ((RD17.out.later hb18 (Nat.le_refl _)).later ((Below.refl w18.heap.size w18).alloc (Nat.le_refl _) (.cells #[.string { data := #[] }, .string { data := #[] }, .string { data := #[] }] 40)) (Nat.le_refl _)); have HB18 := Lib.hid ((HB17.out.trans (hb18.mono HB17.out.size)).alloc (Nat.le_trans HB17.out.size hb18.size) (.cells #[.string { data := #[] }, .string { data := #[] }, .string { data := #[] }] 40)); have hlt17 : w17.heap.size < w18.heap.size := (by have := hb18.size; simp at this; omega); have HQ18 : Hid ((w18.alloc (.cells #[.string { data := #[] }, .string { data := #[] }, .string { data := #[] }] 40)).cell? ⟨w17.heap.size, 1, none⟩ = some (.string { data := #[227, 129, 163] })) := Lib.hid ((World.cell?_alloc_lt _ _ _ hlt17).trans ((hb18.cell (p := ⟨w17.heap.size, 1, none⟩) (by simp)).trans hq17.out)); clear hb18 HF2 RD17 HB17 hq17)
                | (go_at_call 13; (have RX := (RK4.out.later HB18.out (Nat.le_refl _)).later ((Below.refl (w18.alloc (.cells #[.string { data := #[] }, .string { data := #[] }, .string { data := #[] }] 40)).heap.size (w18.alloc (.cells #[.string { data := #[] }, .string { data := #[] }, .string { data := #[] }] 40))).alloc (Nat.le_refl _) (.cells #[.string { data := #[107, 107] }, .string { data := #[] }, .string { data := #[107] }] 43)) (Nat.le_refl _)); (have RY : RowR ((w18.alloc (.cells #[.string { data := #[] }, .string { data := #[] }, .string { data := #[] }] 40)).alloc (.cells #[.string { data := #[107, 107] }, .string { data := #[] }, .string { data := #[107] }] 43)) (.slice (some ⟨w18.heap.size + 1, 0, none⟩) 1 1) [kk1] := row_one (r := kk1) (heap_new_at _ _ _ (by simp))); (refine (HSA.out _ _ _ RX RY).mono ?_); rintro e w19 ⟨rfl, hb19⟩
                   have hb19' := ((Below.refl (w18.alloc (.cells #[.string { data := #[] }, .string { data := #[] }, .string { data := #[] }] 40)).heap.size (w18.alloc (.cells #[.string { data := #[] }, .string { data := #[] }, .string { data := #[] }] 40))).alloc (Nat.le_refl _) (.cells #[.string { data := #[107, 107] }, .string { data := #[] }, .string { data := #[107] }] 43)).trans (hb19.mono (by simp))
                   have RD19 := Lib.hid (RD18.out.later hb19' (Nat.le_refl _))
                   have HB19 := Lib.hid (HB18.out.trans (hb19'.mono HB18.out.size))
                   have hq19 : w19.cell? ⟨w17.heap.size, 1, none⟩ = some (.string { data := #[227, 129, 163] }) := (hb19'.cell (p := ⟨w17.heap.size, 1, none⟩) (by simp; omega)).trans HQ18.out
                   clear hb19 hb19' HSA RD18 HB18 HQ18)
                | (go_at_call 23; (with_reducible refine (HL1.out _ _ RD19.out).mono ?_); rintro e w20 ⟨rfl, hb20⟩; have RD20 := Lib.hid (RD19.out.later hb20 (Nat.le_refl _)); have HB20 := Lib.hid (HB19.out.trans (hb20.mono HB19.out.size)); clear hb20 HL1 RD19 HB19)
                | (go_at_call 23; (with_reducible refine (HL2.out _ _ RD20.out).mono ?_); rintro e w21 ⟨rfl, hb21⟩; have RD21 := Lib.hid (RD20.out.later hb21 (Nat.le_refl _)); have HB21 := Lib.hid (HB20.out.trans (hb21.mono HB20.out.size)); clear hb21 HL2 RD20 HB20)
                | (go_at_call 23; (with_reducible refine (HL3.out _ _ RD21.out).mono ?_); rintro e w22 ⟨rfl, hb22⟩; have HB22 := Lib.hid (HB21.out.trans (hb22.mono HB21.out.size)); clear hb22 HL3 RD21 HB21)
                | (go_at_call 19; (with_reducible refine (HC3.out _).mono ?_); rintro e w23 ⟨rfl, hb23⟩; have HB23 := Lib.hid (HB22.out.trans (hb23.mono HB22.out.size)); clear hb23 HC3 HB22)
                | (go_at_call 14; (refine (HWO.out _).mono ?_); rintro e w24 ⟨rfl, hb24⟩))
              go_ret
              first
                | exact ⟨rfl, HB4.out.trans ((HB23.out.trans (hb24.mono HB23.out.size)).mono HB4.out.size)⟩
                | exact ⟨rfl, by rw [← hg]; exact HB4.out.trans ((HB23.out.trans (hb24.mono HB23.out.size)).mono HB4.out.size)⟩
theorem own : ownKnob Tryd.prog.godebug = none := by kernel_rfl
theorem laidOut : laidOutB Tryd.prog = true := by kernel_rfl

set_option maxRecDepth 100000 in
theorem lifted (os : Os) (started : os.Started) (H : Type) (enc : TypeId × Value → H) :
    ReturnsInHanded {} Tryd.checked os 10 .any (fun w args => (Rows.romanKnownSpec.pre enc Tryd.prog Tryd.f10 Rows.romanKnownRow.domain false w args ∧ laidMetH Tryd.prog Rows.romanKnownRow.laid w) ∧ sizedMet enc Tryd.prog Tryd.f10 (OpenSpec.ofChange Rows.romanKnownSpec) false w args)
      (Rows.romanKnownSpec.post enc Tryd.prog Tryd.f10 false true false false) := by
  refine returnsInHanded_of_change_and (C := Tryd.checked) (X := fun w _ => laidMetH Tryd.prog Rows.romanKnownRow.laid w) (fun _ _ _ hh h => h.of_heap hh) own started (by kernel_rfl) Tryd.func10
    (ChangeSpec.witness_shaped (enc := enc) (C := Tryd.checked) (os := os) (X := fun w _ => laidMetH Tryd.prog Rows.romanKnownRow.laid w) false (World.laidAll Tryd.prog os Rows.romanKnownRow.laid) #[] 8 (World.laidAll_os _ _ _)
      (World.shaped_of_ZipB (by kernel_rfl) (by kernel_rfl)) (by kernel_rfl) (by kernel_rfl) (by kernel_rfl)
      (by rw [MakeChecks.laidMetH_plain _ _ _ (by kernel_rfl)]; exact laidMet_laidAll _ (by kernel_rfl) (by kernel_rfl))) ?_
  intro W base args ds gs before hval0 hW hcnd hsz0 hL _
  have hval : ∀ (j : Nat) t v, Tryd.f10.params[j]? = some t → args[j]? = some v → Value.okWide Tryd.prog W .any base t v := hval0
  have hW' := hW
  obtain ⟨p, q, hA0, hV, rfl, hfz, hnd⟩ := hW
  have hA : DataW.TrodAll enc Tryd.prog W 0 (fun _ => true) true Tryd.f10.params.toList args.toList ds p := hA0
  rw [Tryd.params10] at hA hval
  obtain ⟨rfl, rfl, rfl⟩ := trodAll_none hA
  obtain ⟨rfl, rfl⟩ := trodVars_none hV
  skip
  clear hA0 hval0
  refine (walk W).mono fun e W' ⟨he, bel⟩ => ?_
  subst he
  exact ⟨_, rfl, _, _, _, [], _, [], hW', trodAll_mk1 (shut_bool Tryd.underlying4 _), trodAll_mk0, rfl, bel.frame _, fun h => by cases h⟩

theorem over : Rows.romanKnownRow.holds Tryd.pinned (OpenSpec.ofChange Rows.romanKnownSpec) :=
  OpenClaim.holds_of_wide 10 Tryd.f10 rfl rfl rfl rfl rfl rfl rfl ⟨rfl, rfl, rfl, rfl, rfl⟩ rfl rfl rfl rfl rfl (by kernel_rfl) Tryd.func10 (by kernel_rfl)
    (of_decide_eq_true (by kernel_rfl)) (by unfold Func.isWrapper; first | (rw [if_pos (by decide +kernel)]; kernel_rfl) | (rw [if_neg (by decide +kernel)]; exact ⟨rfl, rfl⟩))
    (fun os started H enc _ => lifted os started H enc)

theorem proved : Rows.RomanKnownCardSaid :=
  Claim7.holds_tied_plain_at .later [] Rows.romanKnownCard.laidKinds true Rows.romanKnownCard.stood.harness false over (fun _ h => by cases h) (by kernel_rfl) (fun _ h => by cases h) romanKnown_row_tie rfl ⟨rfl, rfl⟩ (by kernel_rfl) rfl
    (fun f fn hf hfn => by
      obtain rfl : f = 10 := Option.some.inj ((show Tryd.prog.funcNamed "henkan/henkanlaw05.RomanKnown" = some 10 by kernel_rfl).symm.trans hf) |>.symm
      obtain rfl : fn = Tryd.f10 := (Option.some.inj (Tryd.func10.symm.trans hfn)).symm
      exact ⟨by kernel_rfl, fun j t ht => by
        rw [Tryd.params10] at ht
        have hm : t ∈ ([] : List TypeId) := by simpa using Array.mem_of_getElem? ht
        have hall : (([] : List TypeId).all fun u => !Tryd.prog.wantsStandIn u) = true := by kernel_rfl
        exact (show Tryd.prog.wantsStandIn t = false by simpa using List.all_eq_true.1 hall t hm)⟩)
    (by kernel_rfl)
end Go.Proofs.YtpaeppklkicngaaDoor.romanKnown
