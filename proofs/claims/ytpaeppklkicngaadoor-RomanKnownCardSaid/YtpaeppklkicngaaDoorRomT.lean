/-
  Contract of the reference's Parse.
-/
import Derived.Test.YtpaeppklkicngaaDoorRomS
import Derived.Test.YtpaeppklkicngaaDoorRomR
import Derived.Test.YtpaeppklkicngaaDoorRomD
import Derived.Deep.RegionHeld3
set_option linter.unusedVariables false
set_option linter.unusedSimpArgs false
set_option maxRecDepth 100000
namespace Go.Proofs.YtpaeppklkicngaaDoor.Rom
open Go Go.RowKit Go.Shelf Go.Proofs.YtpaeppklkicngaaDoor.Kit Go.Proofs.YtpaeppklkicngaaDoor.Utf

/-- What an owned row of pieces holds. -/
theorem pc_cells {w : World} {base : Nat} {v : Value} {ps : List (List UInt8)} (h : w.ownsRow base 9 1 v ps.length (pcells ps)) (h0 : 0 < ps.length) :
    ∃ g cap, v = .slice (some ⟨g, 0, none⟩) ps.length cap ∧ base ≤ g ∧ g < w.heap.size ∧ ∀ k, k < ps.length → w.cell? ⟨g, k, none⟩ = some (.string (ba (ps.getD k []))) := by
  rcases h.2 with ⟨_, h1⟩ | ⟨g, cap, cur, rfl, hb, hg, _⟩
  · omega
  · obtain ⟨g', e, _, hg', hx, _⟩ := own_cells (a := some ⟨g, 0, none⟩) (cap := cap) h h0
    obtain rfl : g = g' := by simpa using e
    refine ⟨g, cap, rfl, hb, hg', fun k hk => hx k _ ?_⟩
    unfold pcells
    rw [List.getElem?_map, List.getD_eq_getElem?_getD, List.getElem?_eq_getElem hk]
    rfl

theorem fold_none {acc : List Rule} {k : Nat} {line : List UInt8} {rest : List (List UInt8)} (h : stepP acc line = none) : foldP acc k (line :: rest) = ([], k + 1, 50) := by
  show (match stepP acc line with | some acc' => foldP acc' (k + 1) rest | none => ([], k + 1, 50)) = _
  rw [h]
theorem fold_some {acc acc2 : List Rule} {k : Nat} {line : List UInt8} {rest : List (List UInt8)} (h : stepP acc line = some acc2) : foldP acc k (line :: rest) = foldP acc2 (k + 1) rest := by
  show (match stepP acc line with | some acc' => foldP acc' (k + 1) rest | none => ([], k + 1, 50)) = _
  rw [h]
/-- A line of rules in the reference's words. -/
theorem step_none {acc : List Rule} {line : List UInt8} (h : skips line = false) (hr : ruleOf line = none) : stepP acc line = none := by
  unfold stepP; rw [h, hr]; rfl
theorem step_rule {acc : List Rule} {line : List UInt8} {r : Rule} (h : skips line = false) (hr : ruleOf line = some r) : stepP acc line = if (!(findL acc r.k).2 && okR r && decide (acc.length < 500)) then some (acc ++ [r]) else none := by
  unfold stepP
  rw [h, hr]
  simp only [Bool.false_eq_true, if_false]
  rw [findL_iff, Bool.not_not, Bool.and_comm (okR r)]

/-- The words of a line. -/
inductive Words : List (List UInt8) → Option Rule → Prop
  | one (a) : Words [a] none
  | two (a b) : Words [a, b] (some ⟨ba a, ba b, ba []⟩)
  | three (a b) : Words [a, b, []] none
  | full (a b n) (h : n ≠ []) : Words [a, b, n] (some ⟨ba a, ba b, ba n⟩)
  | more (a b c d l) : Words (a :: b :: c :: d :: l) none
theorem words_of (line : List UInt8) : Words (pc 9 line) (ruleOf line) := by
  unfold ruleOf
  match h : pc 9 line with
  | [] => exact absurd h (pc_ne 9 line)
  | [a] => exact .one a
  | [a, b] => exact .two a b
  | [a, b, n] =>
    by_cases hn : n = []
    · subst hn; exact .three a b
    · simp only [if_neg hn]; exact .full a b n hn
  | a :: b :: c :: d :: l => exact .more a b c d l

theorem run_byte0 (s : ByteArray) (h : 0 < s.size) (w : World) : (Instr.index 9 (.string s) (.int .i64 0)).run Tryd.prog w = .ok (.int .u8 (bz s 0)) w := by
  have := run_byte s 0 h w
  simpa using this
theorem bz0 (b : UInt8) (l : List UInt8) : bz (ba (b :: l)) 0 = (b.toNat : Int) := by unfold bz; rw [bs_ba]; rfl

set_option maxHeartbeats 16000000 in
theorem rparse_any (s : ByteArray) (w : World) (hs0 : s.size ≤ 140737488351232) :
    Calls Tryd.prog 12 #[.string s] w (ParsePost 43 (parseL s) w) := by
  by_cases hs : s.size > 1048576
  · have hp : ParsePost 43 (parseL s) w (.returned (.tuple #[.slice none 0 0, .int .i64 0, .int .i64 2])) w := by
      unfold parseL; rw [if_pos hs]
      exact ⟨_, rfl, World.ownsRow_nil _ _ _ _, Below.refl _ _, by simp, by simp⟩
    have HP := Lib.hid hp
    clear hp
    go_enter Tryd.func12, Tryd.ntmps12
    go_wp2
    go_ret3
    exact HP.out
  obtain ⟨i0, hi0, hz0, hz1, hz2⟩ := info_parts info_rrule
  have HSP := fun w => pieces_any s 10 10 rfl w (by omega)
  obtain ⟨ls, hls⟩ : ∃ ls, pc 10 (bs s) = ls := ⟨_, rfl⟩
  have hlen : ∀ p ∈ ls, p.length ≤ 1048576 := by rw [← hls]; intro p hp; have := pc_len_le 10 (bs s) p hp; rw [bs_len] at this; omega
  have hcount : ls.length ≤ 1048577 := by rw [← hls]; have := pc_count_le 10 (bs s); rw [bs_len] at this; omega
  have hpos : 0 < ls.length := by rw [← hls]; exact List.length_pos_iff.2 (pc_ne _ _)
  have hP : parseL s = foldP [] 0 ls := by unfold parseL; rw [if_neg hs, hls]
  rw [hP]
  rw [hls] at HSP
  have HSP := Lib.hid HSP
  have HLEN := Lib.hid hlen
  clear hls hP hlen
  go_enter Tryd.func12, Tryd.ntmps12
  go_wp2_with (go_at_call 36; (refine (HSP.out _).mono ?_); rintro e w1 ⟨lv, rfl, hown1, hb1⟩; obtain ⟨g, cap, rfl, hg0, hg1, hcell⟩ := pc_cells hown1 hpos)
  obtain ⟨n, hn⟩ : ∃ n, ls.length = n := ⟨_, rfl⟩
  rw [hn] at hcount ⊢
  have HCELL := Lib.hid hcell
  have HN := Lib.hid hn
  clear hn hcell hown1 hpos HSP
  have hw1 := hb1.size
  go_loopw [7, 5] (fun i lv wr => ∃ (k : Nat) (acc : List Rule), i = .int .i64 k ∧ k ≤ n ∧ wr.ownsRow w1.heap.size 43 3 lv acc.length (rc acc) ∧ Below w1.heap.size w1 wr ∧ acc.length ≤ 500 ∧ Hid (∀ r ∈ acc, Short r) ∧ Hid (foldP [] 0 ls = foldP acc k (ls.drop k))) (fun i _ _ => n - (intOf i).toNat)
  case atStart => exact ⟨0, [], rfl, Nat.zero_le _, World.ownsRow_nil _ _ _ _, Below.refl _ _, by simp, Lib.hid (by simp), Lib.hid rfl⟩
  case round =>
    obtain ⟨k, acc, rfl, hk, hown, hbw, hal, hshort, hfold⟩ := hrel
    have hws := hbw.size
    obtain ⟨a5, n5, cap5, rfl, hn5, hn5c, hn5m, hcells5⟩ := (row_of_own hown).1
    subst hn5
    clear hcells5
    by_cases hkl : k < n
    · have hx : wr.cell? ⟨g, k, none⟩ = some (.string (ba (ls.getD k []))) := by
        rw [hbw.cell (p := ⟨g, k, none⟩) hg1]
        exact HCELL.out k (by rw [HN.out]; exact hkl)
      have hf := hfold.out
      rw [drop_line (by rw [HN.out]; exact hkl)] at hf
      have hll : (ls.getD k []).length ≤ 1048576 := by
        have hkk : k < ls.length := by rw [HN.out]; exact hkl
        rw [List.getD_eq_getElem?_getD, List.getElem?_eq_getElem hkk]
        exact HLEN.out _ (List.getElem_mem hkk)
      clear hfold
      generalize ls.getD k [] = line at hx hf hll
      have k0 : (0 : Int) ≤ k := by omega
      have k1 : (k : Int) < n := by omega
      have hE : (ba line).toList.isEmpty = decide (line.length = 0) := by rw [empty_str, ba_size]
      cases hsk : skips line
      · have hne : line ≠ [] := (skip_no hsk).1
        have hE1 : (ba line).toList.isEmpty = false := by rw [hE]; cases line with | nil => exact absurd rfl hne | cons _ _ => simp
        have hb0 : (bz (ba line) 0 == 35) = false := by
          cases line with
          | nil => exact absurd rfl hne
          | cons b l =>
            rw [bz0]
            unfold skips at hsk
            rw [decide_eq_false_iff_not] at hsk
            simp only [beq_eq_false_iff_ne, ne_eq]
            intro e
            exact hsk (UInt8.toNat_inj.1 (by show b.toNat = 35; omega))
        have hrb := run_byte0 (ba line) (by rw [ba_size]; cases line with | nil => exact absurd rfl hne | cons _ _ => simp)
        generalize bz (ba line) 0 = y at hb0 hrb
        have HPI := fun w => pieces_any (ba line) 9 9 rfl w (by rw [ba_size]; exact hll)
        rw [bs_ba] at HPI
        have hW := words_of line
        have hwl : (pc 9 line).length ≤ 1048577 := Nat.le_trans (pc_count_le 9 line) (by omega)
        have hplen : ∀ p ∈ pc 9 line, p.length ≤ 1048576 := fun p hp => Nat.le_trans (pc_len_le 9 line p hp) hll
        have hbad : stepP acc line = none → ∀ w', Below w1.heap.size w1 w' → ParsePost 43 (foldP [] 0 ls) w (.returned (.tuple #[.slice none 0 0, .int .i64 ((k : Int) + 1), .int .i64 50])) w' := fun hn w' hb => by
          rw [hf, fold_none hn]
          refine ⟨_, ?_, World.ownsRow_nil _ _ _ _, hb1.trans (hb.mono hw1), by simp, by simp⟩
          simp
        have hgood : ∀ r, stepP acc line = some (acc ++ [r]) → foldP [] 0 ls = foldP (acc ++ [r]) (k + 1) (ls.drop (k + 1)) := fun r hn => by rw [hf, fold_some hn]
        have hnone := step_none (acc := acc) hsk
        have hrule := fun r => step_rule (acc := acc) (line := line) (r := r) hsk
        generalize stepP acc line = st at hbad hgood hnone hrule
        generalize ruleOf line = ro at hW hnone hrule
        generalize pc 9 line = ws at HPI hW hplen hwl
        clear hf hE hne hsk
        generalize ba line = sl at hx hE1 hrb HPI
        have HPI := Lib.hid HPI
        have HBAD := Lib.hid hbad
        have HGOOD := Lib.hid hgood
        clear hbad hgood
        cases hW with
        | one a =>
          have HB := Lib.hid (HBAD.out (hnone rfl))
          clear hnone hrule HBAD HGOOD hplen
          have hnx : ∀ c d e : List UInt8, 0 < 1 := fun _ _ _ => Nat.one_pos
          clear hnx
          go_wp2_with (go_at_call 36; (refine (HPI.out _).mono ?_); rintro e w2 ⟨pv, rfl, hown2, hb2⟩; obtain ⟨g2, cap2, rfl, hg20, hg21, hcell2⟩ := pc_cells hown2 (by simp); have hb2' := hbw.trans (hb2.mono hws); simp only [List.length_cons, List.length_nil, Nat.zero_add])
          go_ret3
          exact HB.out _ hb2'
        | three a b =>
          have HB := Lib.hid (HBAD.out (hnone rfl))
          clear hnone hrule HBAD HGOOD hplen
          have hnx : ∀ c d e : List UInt8, 0 < 1 := fun _ _ _ => Nat.one_pos
          clear hnx
          have e2 : (ba []).toList.isEmpty = true := by rw [empty_str, ba_size]; rfl
          generalize hz : ba [] = z at e2
          go_wp2_with (go_at_call 36; (refine (HPI.out _).mono ?_); rintro e w2 ⟨pv, rfl, hown2, hb2⟩; obtain ⟨g2, cap2, rfl, hg20, hg21, hcell2⟩ := pc_cells hown2 (by simp); have hb2' := hbw.trans (hb2.mono hws); have d2 := hcell2 2 (by simp); simp only [List.getD_cons_succ, List.getD_cons_zero] at d2; rw [hz] at d2; simp only [List.length_cons, List.length_nil, Nat.zero_add, Nat.reduceAdd])
          go_ret3
          exact HB.out _ hb2'
        | more a b c d l =>
          have HB := Lib.hid (HBAD.out (hnone rfl))
          clear hnone hrule HBAD HGOOD hplen
          have hnx : ∀ c d e : List UInt8, 0 < 1 := fun _ _ _ => Nat.one_pos
          clear hnx
          simp only [List.length_cons] at hwl
          go_wp2_with (go_at_call 36; (refine (HPI.out _).mono ?_); rintro e w2 ⟨pv, rfl, hown2, hb2⟩; obtain ⟨g2, cap2, rfl, hg20, hg21, hcell2⟩ := pc_cells hown2 (by simp); have hb2' := hbw.trans (hb2.mono hws); clear hcell2; (try simp only [List.length_cons]); obtain ⟨q, hq⟩ : ∃ q, l.length + 1 + 1 + 1 + 1 = q := ⟨_, rfl⟩; rw [hq]; have hq4 : 4 ≤ q := (by omega); have hq5 : q ≤ 1048577 := (by omega); clear hq)
          go_ret3
          exact HB.out _ hb2'
        | two a b =>
          have hsr : Short ⟨ba a, ba b, ba []⟩ := by
            have p0 := hplen a (by simp)
            have p1 := hplen b (by simp)
            exact ⟨by rw [ba_size]; exact p0, by rw [ba_size]; exact p1, by rw [ba_size]; simp⟩
          have hst := hrule ⟨ba a, ba b, ba []⟩ rfl
          clear hnone hrule hplen hwl
          have HCELLS := HPI
          generalize hka : ba a = ra at hsr hst
          generalize hob : ba b = rb at hsr hst
          generalize hnn : ba [] = rn at hsr hst
          have HRF := fun v W hR => rfind_any v acc ra W hR
          obtain ⟨f1, hf1⟩ : ∃ f1, (findL acc ra).1 = f1 := ⟨_, rfl⟩
          obtain ⟨f2, hf2⟩ : ∃ f2, (findL acc ra).2 = f2 := ⟨_, rfl⟩
          simp only at hst
          rw [hf1, hf2] at HRF
          rw [hf2] at hst
          have HRF := Lib.hid HRF
          have HAL := fun W => rallowed_any ⟨ra, rb, rn⟩ W hsr
          obtain ⟨okr, hok⟩ : ∃ okr, okR ⟨ra, rb, rn⟩ = okr := ⟨_, rfl⟩
          rw [hok] at hst HAL
          unfold ragg at HAL
          simp only at HAL
          have HAL := Lib.hid HAL
          have HSR := Lib.hid hsr
          clear hf1 hf2 hok hsr
          have HST := Lib.hid hst
          clear hst
          cases f2
          rotate_left
          · go_wp2_with (go_at_call 36; (refine (HPI.out _).mono ?_); rintro e w2 ⟨pv, rfl, hown2, hb2⟩; obtain ⟨g2, cap2, rfl, hg20, hg21, hcell2⟩ := pc_cells hown2 (by simp); have hb2' := hbw.trans (hb2.mono hws); have d0 := hcell2 0 (by simp); have d1 := hcell2 1 (by simp); simp only [List.getD_cons_succ, List.getD_cons_zero] at d0 d1; rw [hka] at d0; rw [hob] at d1; simp only [List.length_cons, List.length_nil, Nat.zero_add, Nat.reduceAdd])
            have own2 := own_later hown hb2
            have hR2 := (row_of_own own2).1
            have hw2 : w1.heap.size ≤ w2.heap.size := hb2'.size
            go_region_held3 (fun w' => w'.cell? ⟨g2, 0, none⟩ = some (.string ra) ∧ w'.cell? ⟨g2, 1, none⟩ = some (.string rb))
              (first
                | exact ⟨by rw [World.cell?_drew]; exact d0, by rw [World.cell?_drew]; exact d1⟩
                | go_keep)
              (fail)
            all_goals (rename_i hH; clear hH hcell2)
            all_goals go_wp2_with (first
              | (go_at_call 22; (refine (HRF.out _ _ (hR2.later (((Below.refl _ _).alloc (Nat.le_refl _) _).drew) (Nat.le_refl _))).mono ?_); rintro e w3 ⟨rfl, hb3⟩; unfold ragg
                 have hlt : w2.heap.size < w3.heap.size := (by have := hb3.size; simp at this; omega)
                 have d0' : ∀ o, (w3.alloc o).cell? ⟨w2.heap.size, 0, none⟩ = some (.string ra) := (fun o => by rw [World.cell?_alloc_old _ _ _ (Nat.ne_of_lt hlt), hb3.cell (by simp)]; simp)
                 have d1' : ∀ o, (w3.alloc o).cell? ⟨w2.heap.size, 1, none⟩ = some (.string rb) := (fun o => by rw [World.cell?_alloc_old _ _ _ (Nat.ne_of_lt hlt), hb3.cell (by simp)]; simp)
                 have d2' : ∀ o, (w3.alloc o).cell? ⟨w2.heap.size, 2, none⟩ = some (.string rn) := (fun o => by rw [World.cell?_alloc_old _ _ _ (Nat.ne_of_lt hlt), hb3.cell (by simp)]; simp; try exact hnn)
                 have own3 := own_later ((own2.alloc _).drew) hb3
                 have hB3 := ((hb2'.alloc hw2 _).drew).trans (hb3.mono (by simp; omega)))
              | (go_at_call 37; (refine (HAL.out _).mono ?_); rintro e w4 ⟨rfl, hb4⟩
                 have c0 : w4.cell? ⟨w2.heap.size, 0, none⟩ = some (.string ra) := (by rw [hb4.cell (by simp; omega)]; exact d0' _)
                 have c1 : w4.cell? ⟨w2.heap.size, 1, none⟩ = some (.string rb) := (by rw [hb4.cell (by simp; omega)]; exact d1' _)
                 have c2 : w4.cell? ⟨w2.heap.size, 2, none⟩ = some (.string rn) := (by rw [hb4.cell (by simp; omega)]; exact d2' _)
                 have own4 := own_later (own3.alloc _) hb4
                 have hB4 := (hB3.alloc (by omega) _).trans (hb4.mono (by simp; omega))))
            all_goals
              go_ret3
              exact HBAD.out (HST.out.trans (by simp)) _ (hB3.alloc hB3.size _)
          cases okr
          · go_wp2_with (go_at_call 36; (refine (HPI.out _).mono ?_); rintro e w2 ⟨pv, rfl, hown2, hb2⟩; obtain ⟨g2, cap2, rfl, hg20, hg21, hcell2⟩ := pc_cells hown2 (by simp); have hb2' := hbw.trans (hb2.mono hws); have d0 := hcell2 0 (by simp); have d1 := hcell2 1 (by simp); simp only [List.getD_cons_succ, List.getD_cons_zero] at d0 d1; rw [hka] at d0; rw [hob] at d1; simp only [List.length_cons, List.length_nil, Nat.zero_add, Nat.reduceAdd])
            have own2 := own_later hown hb2
            have hR2 := (row_of_own own2).1
            have hw2 : w1.heap.size ≤ w2.heap.size := hb2'.size
            go_region_held3 (fun w' => w'.cell? ⟨g2, 0, none⟩ = some (.string ra) ∧ w'.cell? ⟨g2, 1, none⟩ = some (.string rb))
              (first
                | exact ⟨by rw [World.cell?_drew]; exact d0, by rw [World.cell?_drew]; exact d1⟩
                | go_keep)
              (fail)
            all_goals (rename_i hH; clear hH hcell2)
            all_goals go_wp2_with (first
              | (go_at_call 22; (refine (HRF.out _ _ (hR2.later (((Below.refl _ _).alloc (Nat.le_refl _) _).drew) (Nat.le_refl _))).mono ?_); rintro e w3 ⟨rfl, hb3⟩; unfold ragg
                 have hlt : w2.heap.size < w3.heap.size := (by have := hb3.size; simp at this; omega)
                 have d0' : ∀ o, (w3.alloc o).cell? ⟨w2.heap.size, 0, none⟩ = some (.string ra) := (fun o => by rw [World.cell?_alloc_old _ _ _ (Nat.ne_of_lt hlt), hb3.cell (by simp)]; simp)
                 have d1' : ∀ o, (w3.alloc o).cell? ⟨w2.heap.size, 1, none⟩ = some (.string rb) := (fun o => by rw [World.cell?_alloc_old _ _ _ (Nat.ne_of_lt hlt), hb3.cell (by simp)]; simp)
                 have d2' : ∀ o, (w3.alloc o).cell? ⟨w2.heap.size, 2, none⟩ = some (.string rn) := (fun o => by rw [World.cell?_alloc_old _ _ _ (Nat.ne_of_lt hlt), hb3.cell (by simp)]; simp; try exact hnn)
                 have own3 := own_later ((own2.alloc _).drew) hb3
                 have hB3 := ((hb2'.alloc hw2 _).drew).trans (hb3.mono (by simp; omega)))
              | (go_at_call 37; (refine (HAL.out _).mono ?_); rintro e w4 ⟨rfl, hb4⟩
                 have c0 : w4.cell? ⟨w2.heap.size, 0, none⟩ = some (.string ra) := (by rw [hb4.cell (by simp; omega)]; exact d0' _)
                 have c1 : w4.cell? ⟨w2.heap.size, 1, none⟩ = some (.string rb) := (by rw [hb4.cell (by simp; omega)]; exact d1' _)
                 have c2 : w4.cell? ⟨w2.heap.size, 2, none⟩ = some (.string rn) := (by rw [hb4.cell (by simp; omega)]; exact d2' _)
                 have own4 := own_later (own3.alloc _) hb4
                 have hB4 := (hB3.alloc (by omega) _).trans (hb4.mono (by simp; omega))))
            all_goals
              go_ret3
              exact HBAD.out (HST.out.trans (by simp)) _ hB4
          by_cases h500 : acc.length < 500
          rotate_left
          · have h500c : (500 : Int) ≤ (acc.length : Int) := by omega
            have H500 := Lib.hid h500
            clear h500
            go_wp2_with (go_at_call 36; (refine (HPI.out _).mono ?_); rintro e w2 ⟨pv, rfl, hown2, hb2⟩; obtain ⟨g2, cap2, rfl, hg20, hg21, hcell2⟩ := pc_cells hown2 (by simp); have hb2' := hbw.trans (hb2.mono hws); have d0 := hcell2 0 (by simp); have d1 := hcell2 1 (by simp); simp only [List.getD_cons_succ, List.getD_cons_zero] at d0 d1; rw [hka] at d0; rw [hob] at d1; simp only [List.length_cons, List.length_nil, Nat.zero_add, Nat.reduceAdd])
            have own2 := own_later hown hb2
            have hR2 := (row_of_own own2).1
            have hw2 : w1.heap.size ≤ w2.heap.size := hb2'.size
            go_region_held3 (fun w' => w'.cell? ⟨g2, 0, none⟩ = some (.string ra) ∧ w'.cell? ⟨g2, 1, none⟩ = some (.string rb))
              (first
                | exact ⟨by rw [World.cell?_drew]; exact d0, by rw [World.cell?_drew]; exact d1⟩
                | go_keep)
              (fail)
            all_goals (rename_i hH; clear hH hcell2)
            all_goals go_wp2_with (first
              | (go_at_call 22; (refine (HRF.out _ _ (hR2.later (((Below.refl _ _).alloc (Nat.le_refl _) _).drew) (Nat.le_refl _))).mono ?_); rintro e w3 ⟨rfl, hb3⟩; unfold ragg
                 have hlt : w2.heap.size < w3.heap.size := (by have := hb3.size; simp at this; omega)
                 have d0' : ∀ o, (w3.alloc o).cell? ⟨w2.heap.size, 0, none⟩ = some (.string ra) := (fun o => by rw [World.cell?_alloc_old _ _ _ (Nat.ne_of_lt hlt), hb3.cell (by simp)]; simp)
                 have d1' : ∀ o, (w3.alloc o).cell? ⟨w2.heap.size, 1, none⟩ = some (.string rb) := (fun o => by rw [World.cell?_alloc_old _ _ _ (Nat.ne_of_lt hlt), hb3.cell (by simp)]; simp)
                 have d2' : ∀ o, (w3.alloc o).cell? ⟨w2.heap.size, 2, none⟩ = some (.string rn) := (fun o => by rw [World.cell?_alloc_old _ _ _ (Nat.ne_of_lt hlt), hb3.cell (by simp)]; simp; try exact hnn)
                 have own3 := own_later ((own2.alloc _).drew) hb3
                 have hB3 := ((hb2'.alloc hw2 _).drew).trans (hb3.mono (by simp; omega)))
              | (go_at_call 37; (refine (HAL.out _).mono ?_); rintro e w4 ⟨rfl, hb4⟩
                 have c0 : w4.cell? ⟨w2.heap.size, 0, none⟩ = some (.string ra) := (by rw [hb4.cell (by simp; omega)]; exact d0' _)
                 have c1 : w4.cell? ⟨w2.heap.size, 1, none⟩ = some (.string rb) := (by rw [hb4.cell (by simp; omega)]; exact d1' _)
                 have c2 : w4.cell? ⟨w2.heap.size, 2, none⟩ = some (.string rn) := (by rw [hb4.cell (by simp; omega)]; exact d2' _)
                 have own4 := own_later (own3.alloc _) hb4
                 have hB4 := (hB3.alloc (by omega) _).trans (hb4.mono (by simp; omega))))
            all_goals
              go_ret3
              exact HBAD.out (HST.out.trans (by have := H500.out; simp; omega)) _ hB4
          · have HG := Lib.hid (HGOOD.out ⟨ra, rb, rn⟩ (HST.out.trans (by simp [h500])))
            have h500c : (acc.length : Int) < 500 := by omega
            have h500d : ¬ (500 : Int) ≤ (acc.length : Int) := by omega
            clear h500
            have HSH := Lib.hid (show ∀ x ∈ acc ++ [(⟨ra, rb, rn⟩ : Rule)], Short x from fun x hx => by
              rcases List.mem_append.1 hx with h | h
              · exact hshort.out x h
              · rw [List.mem_singleton] at h; rw [h]; exact HSR.out)
            go_wp2_with (go_at_call 36; (refine (HPI.out _).mono ?_); rintro e w2 ⟨pv, rfl, hown2, hb2⟩; obtain ⟨g2, cap2, rfl, hg20, hg21, hcell2⟩ := pc_cells hown2 (by simp); have hb2' := hbw.trans (hb2.mono hws); have d0 := hcell2 0 (by simp); have d1 := hcell2 1 (by simp); simp only [List.getD_cons_succ, List.getD_cons_zero] at d0 d1; rw [hka] at d0; rw [hob] at d1; simp only [List.length_cons, List.length_nil, Nat.zero_add, Nat.reduceAdd])
            have own2 := own_later hown hb2
            have hR2 := (row_of_own own2).1
            have hw2 : w1.heap.size ≤ w2.heap.size := hb2'.size
            go_region_held3 (fun w' => w'.cell? ⟨g2, 0, none⟩ = some (.string ra) ∧ w'.cell? ⟨g2, 1, none⟩ = some (.string rb))
              (first
                | exact ⟨by rw [World.cell?_drew]; exact d0, by rw [World.cell?_drew]; exact d1⟩
                | go_keep)
              (fail)
            all_goals (rename_i hH; clear hH hcell2)
            all_goals go_wp2_with (first
              | (go_at_call 22; (refine (HRF.out _ _ (hR2.later (((Below.refl _ _).alloc (Nat.le_refl _) _).drew) (Nat.le_refl _))).mono ?_); rintro e w3 ⟨rfl, hb3⟩; unfold ragg
                 have hlt : w2.heap.size < w3.heap.size := (by have := hb3.size; simp at this; omega)
                 have d0' : ∀ o, (w3.alloc o).cell? ⟨w2.heap.size, 0, none⟩ = some (.string ra) := (fun o => by rw [World.cell?_alloc_old _ _ _ (Nat.ne_of_lt hlt), hb3.cell (by simp)]; simp)
                 have d1' : ∀ o, (w3.alloc o).cell? ⟨w2.heap.size, 1, none⟩ = some (.string rb) := (fun o => by rw [World.cell?_alloc_old _ _ _ (Nat.ne_of_lt hlt), hb3.cell (by simp)]; simp)
                 have d2' : ∀ o, (w3.alloc o).cell? ⟨w2.heap.size, 2, none⟩ = some (.string rn) := (fun o => by rw [World.cell?_alloc_old _ _ _ (Nat.ne_of_lt hlt), hb3.cell (by simp)]; simp; try exact hnn)
                 have own3 := own_later ((own2.alloc _).drew) hb3
                 have hB3 := ((hb2'.alloc hw2 _).drew).trans (hb3.mono (by simp; omega)))
              | (go_at_call 37; (refine (HAL.out _).mono ?_); rintro e w4 ⟨rfl, hb4⟩
                 have c0 : w4.cell? ⟨w2.heap.size, 0, none⟩ = some (.string ra) := (by rw [hb4.cell (by simp; omega)]; exact d0' _)
                 have c1 : w4.cell? ⟨w2.heap.size, 1, none⟩ = some (.string rb) := (by rw [hb4.cell (by simp; omega)]; exact d1' _)
                 have c2 : w4.cell? ⟨w2.heap.size, 2, none⟩ = some (.string rn) := (by rw [hb4.cell (by simp; omega)]; exact d2' _)
                 have own4 := own_later (own3.alloc _) hb4
                 have hB4 := (hB3.alloc (by omega) _).trans (hb4.mono (by simp; omega)))
              | (at_builtin; refine wpList_append_own _ rfl _ _ _ rfl w1.heap.size 43 i0 _ 3 48 Tryd.underlying26 hi0 hz0 hz1 hz2 rfl (by decide) _ acc.length (rc acc) rfl (own4.alloc _) ⟨w4.heap.size, 0, none⟩ 1 1 (rc [⟨ra, rb, rn⟩]) rfl rfl (news_rule (r := ⟨ra, rb, rn⟩) (heap_alloc_new w4 _)) (rc_oneCell _) (by unfold maxLen; omega) (by omega) (by have := hB4.size; simp; omega) ?_; intro v' w5 hown5 hg5 _))
            all_goals
              have hB5 := (hB4.alloc hB4.size _).grown hg5 (by have := hB4.size; simp; omega) (fun j hj => (own4.lt j hj).1)
              have own5 : w5.ownsRow w1.heap.size 43 3 v' (acc ++ [(⟨ra, rb, rn⟩ : Rule)]).length (rc (acc ++ [⟨ra, rb, rn⟩])) := by rw [rc_append, List.length_append]; exact hown5
              go_wp2
              go_roundw
              case rel => exact ⟨k + 1, acc ++ [⟨ra, rb, rn⟩], by go_num, by omega, own5, hB5, by rw [List.length_append]; simp; omega, HSH, HG⟩
              case measure => simp [intOf]; omega
        | full a b n hn =>
          have hsr : Short ⟨ba a, ba b, ba n⟩ := by
            have p0 := hplen a (by simp)
            have p1 := hplen b (by simp)
            have p2 := hplen n (by simp)
            exact ⟨by rw [ba_size]; exact p0, by rw [ba_size]; exact p1, by rw [ba_size]; exact p2⟩
          have hst := hrule ⟨ba a, ba b, ba n⟩ rfl
          clear hnone hrule hplen hwl
          have e2 : (ba n).toList.isEmpty = false := by rw [empty_str, ba_size]; cases n with | nil => exact absurd rfl hn | cons _ _ => simp
          have HCELLS := HPI
          generalize hka : ba a = ra at hsr hst
          generalize hob : ba b = rb at hsr hst
          generalize hnn : ba n = rn at hsr hst e2
          have HRF := fun v W hR => rfind_any v acc ra W hR
          obtain ⟨f1, hf1⟩ : ∃ f1, (findL acc ra).1 = f1 := ⟨_, rfl⟩
          obtain ⟨f2, hf2⟩ : ∃ f2, (findL acc ra).2 = f2 := ⟨_, rfl⟩
          simp only at hst
          rw [hf1, hf2] at HRF
          rw [hf2] at hst
          have HRF := Lib.hid HRF
          have HAL := fun W => rallowed_any ⟨ra, rb, rn⟩ W hsr
          obtain ⟨okr, hok⟩ : ∃ okr, okR ⟨ra, rb, rn⟩ = okr := ⟨_, rfl⟩
          rw [hok] at hst HAL
          unfold ragg at HAL
          simp only at HAL
          have HAL := Lib.hid HAL
          have HSR := Lib.hid hsr
          clear hf1 hf2 hok hsr
          have HST := Lib.hid hst
          clear hst
          cases f2
          rotate_left
          · go_wp2_with (go_at_call 36; (refine (HPI.out _).mono ?_); rintro e w2 ⟨pv, rfl, hown2, hb2⟩; obtain ⟨g2, cap2, rfl, hg20, hg21, hcell2⟩ := pc_cells hown2 (by simp); have hb2' := hbw.trans (hb2.mono hws); have d0 := hcell2 0 (by simp); have d1 := hcell2 1 (by simp); have d2 := hcell2 2 (by simp); simp only [List.getD_cons_succ, List.getD_cons_zero] at d0 d1 d2; rw [hka] at d0; rw [hob] at d1; rw [hnn] at d2; simp only [List.length_cons, List.length_nil, Nat.zero_add, Nat.reduceAdd])
            have own2 := own_later hown hb2
            have hR2 := (row_of_own own2).1
            have hw2 : w1.heap.size ≤ w2.heap.size := hb2'.size
            go_region_held3 (fun w' => w'.cell? ⟨g2, 0, none⟩ = some (.string ra) ∧ w'.cell? ⟨g2, 1, none⟩ = some (.string rb) ∧ w'.cell? ⟨g2, 2, none⟩ = some (.string rn))
              (first
                | exact ⟨by rw [World.cell?_drew]; exact d0, by rw [World.cell?_drew]; exact d1, by rw [World.cell?_drew]; exact d2⟩
                | go_keep)
              (fail)
            all_goals (rename_i hH; clear hH hcell2)
            all_goals go_wp2_with (first
              | (go_at_call 22; (refine (HRF.out _ _ (hR2.later (((Below.refl _ _).alloc (Nat.le_refl _) _).drew) (Nat.le_refl _))).mono ?_); rintro e w3 ⟨rfl, hb3⟩; unfold ragg
                 have hlt : w2.heap.size < w3.heap.size := (by have := hb3.size; simp at this; omega)
                 have d0' : ∀ o, (w3.alloc o).cell? ⟨w2.heap.size, 0, none⟩ = some (.string ra) := (fun o => by rw [World.cell?_alloc_old _ _ _ (Nat.ne_of_lt hlt), hb3.cell (by simp)]; simp)
                 have d1' : ∀ o, (w3.alloc o).cell? ⟨w2.heap.size, 1, none⟩ = some (.string rb) := (fun o => by rw [World.cell?_alloc_old _ _ _ (Nat.ne_of_lt hlt), hb3.cell (by simp)]; simp)
                 have d2' : ∀ o, (w3.alloc o).cell? ⟨w2.heap.size, 2, none⟩ = some (.string rn) := (fun o => by rw [World.cell?_alloc_old _ _ _ (Nat.ne_of_lt hlt), hb3.cell (by simp)]; simp; try exact hnn)
                 have own3 := own_later ((own2.alloc _).drew) hb3
                 have hB3 := ((hb2'.alloc hw2 _).drew).trans (hb3.mono (by simp; omega)))
              | (go_at_call 37; (refine (HAL.out _).mono ?_); rintro e w4 ⟨rfl, hb4⟩
                 have c0 : w4.cell? ⟨w2.heap.size, 0, none⟩ = some (.string ra) := (by rw [hb4.cell (by simp; omega)]; exact d0' _)
                 have c1 : w4.cell? ⟨w2.heap.size, 1, none⟩ = some (.string rb) := (by rw [hb4.cell (by simp; omega)]; exact d1' _)
                 have c2 : w4.cell? ⟨w2.heap.size, 2, none⟩ = some (.string rn) := (by rw [hb4.cell (by simp; omega)]; exact d2' _)
                 have own4 := own_later (own3.alloc _) hb4
                 have hB4 := (hB3.alloc (by omega) _).trans (hb4.mono (by simp; omega))))
            all_goals
              go_ret3
              exact HBAD.out (HST.out.trans (by simp)) _ (hB3.alloc hB3.size _)
          cases okr
          · go_wp2_with (go_at_call 36; (refine (HPI.out _).mono ?_); rintro e w2 ⟨pv, rfl, hown2, hb2⟩; obtain ⟨g2, cap2, rfl, hg20, hg21, hcell2⟩ := pc_cells hown2 (by simp); have hb2' := hbw.trans (hb2.mono hws); have d0 := hcell2 0 (by simp); have d1 := hcell2 1 (by simp); have d2 := hcell2 2 (by simp); simp only [List.getD_cons_succ, List.getD_cons_zero] at d0 d1 d2; rw [hka] at d0; rw [hob] at d1; rw [hnn] at d2; simp only [List.length_cons, List.length_nil, Nat.zero_add, Nat.reduceAdd])
            have own2 := own_later hown hb2
            have hR2 := (row_of_own own2).1
            have hw2 : w1.heap.size ≤ w2.heap.size := hb2'.size
            go_region_held3 (fun w' => w'.cell? ⟨g2, 0, none⟩ = some (.string ra) ∧ w'.cell? ⟨g2, 1, none⟩ = some (.string rb) ∧ w'.cell? ⟨g2, 2, none⟩ = some (.string rn))
              (first
                | exact ⟨by rw [World.cell?_drew]; exact d0, by rw [World.cell?_drew]; exact d1, by rw [World.cell?_drew]; exact d2⟩
                | go_keep)
              (fail)
            all_goals (rename_i hH; clear hH hcell2)
            all_goals go_wp2_with (first
              | (go_at_call 22; (refine (HRF.out _ _ (hR2.later (((Below.refl _ _).alloc (Nat.le_refl _) _).drew) (Nat.le_refl _))).mono ?_); rintro e w3 ⟨rfl, hb3⟩; unfold ragg
                 have hlt : w2.heap.size < w3.heap.size := (by have := hb3.size; simp at this; omega)
                 have d0' : ∀ o, (w3.alloc o).cell? ⟨w2.heap.size, 0, none⟩ = some (.string ra) := (fun o => by rw [World.cell?_alloc_old _ _ _ (Nat.ne_of_lt hlt), hb3.cell (by simp)]; simp)
                 have d1' : ∀ o, (w3.alloc o).cell? ⟨w2.heap.size, 1, none⟩ = some (.string rb) := (fun o => by rw [World.cell?_alloc_old _ _ _ (Nat.ne_of_lt hlt), hb3.cell (by simp)]; simp)
                 have d2' : ∀ o, (w3.alloc o).cell? ⟨w2.heap.size, 2, none⟩ = some (.string rn) := (fun o => by rw [World.cell?_alloc_old _ _ _ (Nat.ne_of_lt hlt), hb3.cell (by simp)]; simp; try exact hnn)
                 have own3 := own_later ((own2.alloc _).drew) hb3
                 have hB3 := ((hb2'.alloc hw2 _).drew).trans (hb3.mono (by simp; omega)))
              | (go_at_call 37; (refine (HAL.out _).mono ?_); rintro e w4 ⟨rfl, hb4⟩
                 have c0 : w4.cell? ⟨w2.heap.size, 0, none⟩ = some (.string ra) := (by rw [hb4.cell (by simp; omega)]; exact d0' _)
                 have c1 : w4.cell? ⟨w2.heap.size, 1, none⟩ = some (.string rb) := (by rw [hb4.cell (by simp; omega)]; exact d1' _)
                 have c2 : w4.cell? ⟨w2.heap.size, 2, none⟩ = some (.string rn) := (by rw [hb4.cell (by simp; omega)]; exact d2' _)
                 have own4 := own_later (own3.alloc _) hb4
                 have hB4 := (hB3.alloc (by omega) _).trans (hb4.mono (by simp; omega))))
            all_goals
              go_ret3
              exact HBAD.out (HST.out.trans (by simp)) _ hB4
          by_cases h500 : acc.length < 500
          rotate_left
          · have h500c : (500 : Int) ≤ (acc.length : Int) := by omega
            have H500 := Lib.hid h500
            clear h500
            go_wp2_with (go_at_call 36; (refine (HPI.out _).mono ?_); rintro e w2 ⟨pv, rfl, hown2, hb2⟩; obtain ⟨g2, cap2, rfl, hg20, hg21, hcell2⟩ := pc_cells hown2 (by simp); have hb2' := hbw.trans (hb2.mono hws); have d0 := hcell2 0 (by simp); have d1 := hcell2 1 (by simp); have d2 := hcell2 2 (by simp); simp only [List.getD_cons_succ, List.getD_cons_zero] at d0 d1 d2; rw [hka] at d0; rw [hob] at d1; rw [hnn] at d2; simp only [List.length_cons, List.length_nil, Nat.zero_add, Nat.reduceAdd])
            have own2 := own_later hown hb2
            have hR2 := (row_of_own own2).1
            have hw2 : w1.heap.size ≤ w2.heap.size := hb2'.size
            go_region_held3 (fun w' => w'.cell? ⟨g2, 0, none⟩ = some (.string ra) ∧ w'.cell? ⟨g2, 1, none⟩ = some (.string rb) ∧ w'.cell? ⟨g2, 2, none⟩ = some (.string rn))
              (first
                | exact ⟨by rw [World.cell?_drew]; exact d0, by rw [World.cell?_drew]; exact d1, by rw [World.cell?_drew]; exact d2⟩
                | go_keep)
              (fail)
            all_goals (rename_i hH; clear hH hcell2)
            all_goals go_wp2_with (first
              | (go_at_call 22; (refine (HRF.out _ _ (hR2.later (((Below.refl _ _).alloc (Nat.le_refl _) _).drew) (Nat.le_refl _))).mono ?_); rintro e w3 ⟨rfl, hb3⟩; unfold ragg
                 have hlt : w2.heap.size < w3.heap.size := (by have := hb3.size; simp at this; omega)
                 have d0' : ∀ o, (w3.alloc o).cell? ⟨w2.heap.size, 0, none⟩ = some (.string ra) := (fun o => by rw [World.cell?_alloc_old _ _ _ (Nat.ne_of_lt hlt), hb3.cell (by simp)]; simp)
                 have d1' : ∀ o, (w3.alloc o).cell? ⟨w2.heap.size, 1, none⟩ = some (.string rb) := (fun o => by rw [World.cell?_alloc_old _ _ _ (Nat.ne_of_lt hlt), hb3.cell (by simp)]; simp)
                 have d2' : ∀ o, (w3.alloc o).cell? ⟨w2.heap.size, 2, none⟩ = some (.string rn) := (fun o => by rw [World.cell?_alloc_old _ _ _ (Nat.ne_of_lt hlt), hb3.cell (by simp)]; simp; try exact hnn)
                 have own3 := own_later ((own2.alloc _).drew) hb3
                 have hB3 := ((hb2'.alloc hw2 _).drew).trans (hb3.mono (by simp; omega)))
              | (go_at_call 37; (refine (HAL.out _).mono ?_); rintro e w4 ⟨rfl, hb4⟩
                 have c0 : w4.cell? ⟨w2.heap.size, 0, none⟩ = some (.string ra) := (by rw [hb4.cell (by simp; omega)]; exact d0' _)
                 have c1 : w4.cell? ⟨w2.heap.size, 1, none⟩ = some (.string rb) := (by rw [hb4.cell (by simp; omega)]; exact d1' _)
                 have c2 : w4.cell? ⟨w2.heap.size, 2, none⟩ = some (.string rn) := (by rw [hb4.cell (by simp; omega)]; exact d2' _)
                 have own4 := own_later (own3.alloc _) hb4
                 have hB4 := (hB3.alloc (by omega) _).trans (hb4.mono (by simp; omega))))
            all_goals
              go_ret3
              exact HBAD.out (HST.out.trans (by have := H500.out; simp; omega)) _ hB4
          · have HG := Lib.hid (HGOOD.out ⟨ra, rb, rn⟩ (HST.out.trans (by simp [h500])))
            have h500c : (acc.length : Int) < 500 := by omega
            have h500d : ¬ (500 : Int) ≤ (acc.length : Int) := by omega
            clear h500
            have HSH := Lib.hid (show ∀ x ∈ acc ++ [(⟨ra, rb, rn⟩ : Rule)], Short x from fun x hx => by
              rcases List.mem_append.1 hx with h | h
              · exact hshort.out x h
              · rw [List.mem_singleton] at h; rw [h]; exact HSR.out)
            go_wp2_with (go_at_call 36; (refine (HPI.out _).mono ?_); rintro e w2 ⟨pv, rfl, hown2, hb2⟩; obtain ⟨g2, cap2, rfl, hg20, hg21, hcell2⟩ := pc_cells hown2 (by simp); have hb2' := hbw.trans (hb2.mono hws); have d0 := hcell2 0 (by simp); have d1 := hcell2 1 (by simp); have d2 := hcell2 2 (by simp); simp only [List.getD_cons_succ, List.getD_cons_zero] at d0 d1 d2; rw [hka] at d0; rw [hob] at d1; rw [hnn] at d2; simp only [List.length_cons, List.length_nil, Nat.zero_add, Nat.reduceAdd])
            have own2 := own_later hown hb2
            have hR2 := (row_of_own own2).1
            have hw2 : w1.heap.size ≤ w2.heap.size := hb2'.size
            go_region_held3 (fun w' => w'.cell? ⟨g2, 0, none⟩ = some (.string ra) ∧ w'.cell? ⟨g2, 1, none⟩ = some (.string rb) ∧ w'.cell? ⟨g2, 2, none⟩ = some (.string rn))
              (first
                | exact ⟨by rw [World.cell?_drew]; exact d0, by rw [World.cell?_drew]; exact d1, by rw [World.cell?_drew]; exact d2⟩
                | go_keep)
              (fail)
            all_goals (rename_i hH; clear hH hcell2)
            all_goals go_wp2_with (first
              | (go_at_call 22; (refine (HRF.out _ _ (hR2.later (((Below.refl _ _).alloc (Nat.le_refl _) _).drew) (Nat.le_refl _))).mono ?_); rintro e w3 ⟨rfl, hb3⟩; unfold ragg
                 have hlt : w2.heap.size < w3.heap.size := (by have := hb3.size; simp at this; omega)
                 have d0' : ∀ o, (w3.alloc o).cell? ⟨w2.heap.size, 0, none⟩ = some (.string ra) := (fun o => by rw [World.cell?_alloc_old _ _ _ (Nat.ne_of_lt hlt), hb3.cell (by simp)]; simp)
                 have d1' : ∀ o, (w3.alloc o).cell? ⟨w2.heap.size, 1, none⟩ = some (.string rb) := (fun o => by rw [World.cell?_alloc_old _ _ _ (Nat.ne_of_lt hlt), hb3.cell (by simp)]; simp)
                 have d2' : ∀ o, (w3.alloc o).cell? ⟨w2.heap.size, 2, none⟩ = some (.string rn) := (fun o => by rw [World.cell?_alloc_old _ _ _ (Nat.ne_of_lt hlt), hb3.cell (by simp)]; simp; try exact hnn)
                 have own3 := own_later ((own2.alloc _).drew) hb3
                 have hB3 := ((hb2'.alloc hw2 _).drew).trans (hb3.mono (by simp; omega)))
              | (go_at_call 37; (refine (HAL.out _).mono ?_); rintro e w4 ⟨rfl, hb4⟩
                 have c0 : w4.cell? ⟨w2.heap.size, 0, none⟩ = some (.string ra) := (by rw [hb4.cell (by simp; omega)]; exact d0' _)
                 have c1 : w4.cell? ⟨w2.heap.size, 1, none⟩ = some (.string rb) := (by rw [hb4.cell (by simp; omega)]; exact d1' _)
                 have c2 : w4.cell? ⟨w2.heap.size, 2, none⟩ = some (.string rn) := (by rw [hb4.cell (by simp; omega)]; exact d2' _)
                 have own4 := own_later (own3.alloc _) hb4
                 have hB4 := (hB3.alloc (by omega) _).trans (hb4.mono (by simp; omega)))
              | (at_builtin; refine wpList_append_own _ rfl _ _ _ rfl w1.heap.size 43 i0 _ 3 48 Tryd.underlying26 hi0 hz0 hz1 hz2 rfl (by decide) _ acc.length (rc acc) rfl (own4.alloc _) ⟨w4.heap.size, 0, none⟩ 1 1 (rc [⟨ra, rb, rn⟩]) rfl rfl (news_rule (r := ⟨ra, rb, rn⟩) (heap_alloc_new w4 _)) (rc_oneCell _) (by unfold maxLen; omega) (by omega) (by have := hB4.size; simp; omega) ?_; intro v' w5 hown5 hg5 _))
            all_goals
              have hB5 := (hB4.alloc hB4.size _).grown hg5 (by have := hB4.size; simp; omega) (fun j hj => (own4.lt j hj).1)
              have own5 : w5.ownsRow w1.heap.size 43 3 v' (acc ++ [(⟨ra, rb, rn⟩ : Rule)]).length (rc (acc ++ [⟨ra, rb, rn⟩])) := by rw [rc_append, List.length_append]; exact hown5
              go_wp2
              go_roundw
              case rel => exact ⟨k + 1, acc ++ [⟨ra, rb, rn⟩], by go_num, by omega, own5, hB5, by rw [List.length_append]; simp; omega, HSH, HG⟩
              case measure => simp [intOf]; omega
      · by_cases h0 : line = []
        · subst h0
          have hE1 : (ba []).toList.isEmpty = true := by rw [hE]; rfl
          have HF := Lib.hid (hf.trans (fold_skip hsk))
          generalize ba [] = sl at hx hE1
          clear hf hE hsk
          go_wp2
          go_roundw
          case rel => exact ⟨k + 1, acc, by go_num, by omega, hown, hbw, hal, hshort, HF⟩
          case measure => simp [intOf]; omega
        · have hE1 : (ba line).toList.isEmpty = false := by rw [hE]; cases line with | nil => exact absurd rfl h0 | cons _ _ => simp
          have hb0 : (bz (ba line) 0 == 35) = true := by
            cases line with
            | nil => exact absurd rfl h0
            | cons b l =>
              rw [bz0]
              unfold skips at hsk
              rw [decide_eq_true_eq] at hsk
              subst hsk
              rfl
          have hrb := run_byte0 (ba line) (by rw [ba_size]; cases line with | nil => exact absurd rfl h0 | cons _ _ => simp)
          generalize bz (ba line) 0 = y at hb0 hrb
          have HF := Lib.hid (hf.trans (fold_skip hsk))
          clear hf hE hsk h0
          generalize ba line = sl at hx hE1 hrb
          go_wp2
          go_roundw
          case rel => exact ⟨k + 1, acc, by go_num, by omega, hown, hbw, hal, hshort, HF⟩
          case measure => simp [intOf]; omega
    · have hf := hfold.out
      rw [List.drop_of_length_le (by rw [HN.out]; omega)] at hf
      have HP := Lib.hid (show ∀ lv, wr.ownsRow w1.heap.size 43 3 lv acc.length (rc acc) → ParsePost 43 (foldP [] 0 ls) w (.returned (.tuple #[lv, .int .i64 0, .int .i64 0])) wr from fun lv h => by
        rw [hf]
        exact ⟨lv, rfl, own_base h (by omega), hb1.trans (hbw.mono hw1), hshort.out, hal⟩)
      clear hf hfold
      go_wp2
      go_ret3
      exact HP.out _ hown

end Go.Proofs.YtpaeppklkicngaaDoor.Rom
