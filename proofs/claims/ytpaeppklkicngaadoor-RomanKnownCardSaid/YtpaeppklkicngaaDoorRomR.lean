/-
  Contract of the program's Parse.
-/
import Derived.Test.YtpaeppklkicngaaDoorRomQ
import Derived.Test.YtpaeppklkicngaaDoorRomE
set_option linter.unusedVariables false
set_option linter.unusedSimpArgs false
set_option maxRecDepth 100000
namespace Go.Proofs.YtpaeppklkicngaaDoor.Rom
open Go Go.RowKit Go.Shelf Go.Proofs.YtpaeppklkicngaaDoor.Kit Go.Proofs.YtpaeppklkicngaaDoor.Utf

/-- An owned row stays so while another block below its base is written. -/
theorem own_grown {w w' : World} {base B : Nat} {e : TypeId} {size : Nat} {v : Value} {n : Nat} {xs : List Value} (h : w.ownsRow base e size v n xs) (hg : w.grownBy w' (some B)) (hB : B < base) : w'.ownsRow base e size v n xs := by
  refine ⟨h.1, ?_⟩
  rcases h.2 with h0 | ⟨g, cap, cur, rfl, hb, hgg, rest⟩
  · exact .inl h0
  · refine .inr ⟨g, cap, cur, rfl, hb, ?_, rest⟩
    rw [hg.block g (Array.getElem?_eq_some_iff.1 hgg).1 (by simp; omega)]
    exact hgg
theorem own_kept {w w' : World} {base : Nat} {e : TypeId} {size : Nat} {v : Value} {n : Nat} {xs : List Value} (h : w.ownsRow base e size v n xs) (hb : Below w.heap.size w w') : w'.ownsRow base e size v n xs := own_later h hb

theorem pc_len_le (c : UInt8) (l : List UInt8) : ∀ p ∈ pc c l, p.length ≤ l.length := by
  obtain ⟨n, hn⟩ : ∃ n, l.length = n := ⟨_, rfl⟩
  induction n using Nat.strongRecOn generalizing l with
  | ind n ih =>
    intro p hp
    rcases cut_cases c l with h | ⟨q, r, rfl, h⟩
    · rw [pc_none h, List.mem_singleton] at hp; rw [hp]; exact Nat.le_refl _
    · rw [pc_cut h] at hp
      rcases List.mem_cons.1 hp with rfl | hp
      · simp
      · have := ih r.length (by rw [← hn]; simp; omega) r rfl p hp
        simp; omega
theorem pc_count_le (c : UInt8) (l : List UInt8) : (pc c l).length ≤ l.length + 1 := by
  obtain ⟨n, hn⟩ : ∃ n, l.length = n := ⟨_, rfl⟩
  induction n using Nat.strongRecOn generalizing l with
  | ind n ih =>
    rcases cut_cases c l with h | ⟨q, r, rfl, h⟩
    · rw [pc_none h]; simp
    · rw [pc_cut h]
      have := ih r.length (by rw [← hn]; simp; omega) r rfl
      simp; omega

theorem fold_skip {acc : List Rule} {k : Nat} {line : List UInt8} {rest : List (List UInt8)} (h : skips line = true) : foldP acc k (line :: rest) = foldP acc (k + 1) rest := by
  show (match stepP acc line with | some acc' => foldP acc' (k + 1) rest | none => ([], k + 1, 50)) = _
  have : stepP acc line = some acc := by unfold stepP; rw [h, if_pos rfl]
  rw [this]
theorem fold_err {acc : List Rule} {k : Nat} {line : List UInt8} {rest : List (List UInt8)} (h : skips line = false) (hl : acc.length ≤ 500) (hn : ((lineR line).2 && accB (acc.map Rule.k) (lineR line).1) = false) : foldP acc k (line :: rest) = ([], k + 1, 50) := by
  show (match stepP acc line with | some acc' => foldP acc' (k + 1) rest | none => ([], k + 1, 50)) = _
  rw [lineR_is acc line h hl, hn]
  rfl
theorem fold_add {acc : List Rule} {k : Nat} {line : List UInt8} {rest : List (List UInt8)} (h : skips line = false) (hl : acc.length ≤ 500) (hn : ((lineR line).2 && accB (acc.map Rule.k) (lineR line).1) = true) : foldP acc k (line :: rest) = foldP (acc ++ [(lineR line).1]) (k + 1) rest := by
  show (match stepP acc line with | some acc' => foldP acc' (k + 1) rest | none => ([], k + 1, 50)) = _
  rw [lineR_is acc line h hl, hn]
  rfl
theorem skip_yes {line : List UInt8} (h : skips line = true) (hn : line ≠ []) : Lib.hasPrefix line [35] = true := by
  cases line with
  | nil => exact absurd rfl hn
  | cons b l => unfold skips at h; rw [decide_eq_true_eq] at h; subst h; simp [Lib.hasPrefix]
theorem skip_no {line : List UInt8} (h : skips line = false) : line ≠ [] ∧ Lib.hasPrefix line [35] = false := by
  cases line with
  | nil => cases h
  | cons b l => unfold skips at h; rw [decide_eq_false_iff_not] at h; refine ⟨by simp, ?_⟩; show ((35 : UInt8) == b && List.isPrefixOf [] l) = false; rw [show ((35 : UInt8) == b) = false from by simp; exact fun e => h e.symm]; rfl
theorem drop_line {ls : List (List UInt8)} {k : Nat} (h : k < ls.length) : ls.drop k = ls.getD k [] :: ls.drop (k + 1) := by
  rw [List.drop_eq_getElem_cons h, List.getD_eq_getElem?_getD, List.getElem?_eq_getElem h]; rfl
theorem row_kept {w w' : World} {g B : Nat} {o : Obj} (h : w.heap[g]? = some o) (hg : w.grownBy w' (some B)) (hne : g ≠ B) : w'.heap[g]? = some o := by
  rw [hg.block g (Array.getElem?_eq_some_iff.1 h).1 (by simpa using hne)]; exact h
theorem row_below {w w' : World} {g : Nat} {o : Obj} (h : w.heap[g]? = some o) (hb : Below w.heap.size w w') : w'.heap[g]? = some o := by
  rw [hb.block g (Array.getElem?_eq_some_iff.1 h).1]; exact h
theorem row_alloc {w : World} {g : Nat} {o : Obj} (h : w.heap[g]? = some o) (o2 : Obj) : (w.alloc o2).heap[g]? = some o := by
  rw [Below.heap_alloc w o2 g (Array.getElem?_eq_some_iff.1 h).1]; exact h

/-- What Parse leaves: the rules in new memory, the line, the error. -/
def ParsePost (E : TypeId) (p : List Rule × Nat × Int) (w : World) (e : Ending) (w' : World) : Prop :=
  ∃ v, e = .returned (.tuple #[v, .int .i64 (p.2.1 : Nat), .int .i64 p.2.2]) ∧ w'.ownsRow w.heap.size E 3 v p.1.length (rc p.1) ∧ Below w.heap.size w w' ∧ (∀ r ∈ p.1, Short r) ∧ p.1.length ≤ 500

set_option maxHeartbeats 8000000 in
theorem parse_any (s : ByteArray) (w : World) (hs0 : s.size ≤ 140737488351232) :
    Calls Tryd.prog 11 #[.string s] w (ParsePost 40 (parseL s) w) := by
  by_cases hs : s.size > 1048576
  · have hp : ParsePost 40 (parseL s) w (.returned (.tuple #[.slice none 0 0, .int .i64 0, .int .i64 2])) w := by
      unfold parseL; rw [if_pos hs]
      exact ⟨_, rfl, World.ownsRow_nil _ _ _ _, Below.refl _ _, by simp, by simp⟩
    have HP := Lib.hid hp
    clear hp
    go_enter Tryd.func11, Tryd.ntmps11
    go_wp2
    go_ret3
    exact HP.out
  obtain ⟨i0, hi0, hz0, hz1, hz2⟩ := info_parts info_rule
  have HSP := Lib.hid (fun w => split_one s 10 w (by omega))
  obtain ⟨ls, hls⟩ : ∃ ls, pc 10 (bs s) = ls := ⟨_, rfl⟩
  have hlen : ∀ p ∈ ls, p.length ≤ 1048576 := by rw [← hls]; intro p hp; have := pc_len_le 10 (bs s) p hp; rw [bs_len] at this; omega
  have hcount : ls.length ≤ 1048577 := by rw [← hls]; have := pc_count_le 10 (bs s); rw [bs_len] at this; omega
  have hP : parseL s = foldP [] 0 ls := by unfold parseL; rw [if_neg hs, hls]
  rw [hP]
  rw [hls] at HSP
  obtain ⟨CS, hCS⟩ : ∃ CS, ((ls.map ba).map Value.string).toArray = CS := ⟨_, rfl⟩
  rw [hCS] at HSP
  have hcs : ∀ k, k < ls.length → CS[k]? = some (.string (ba (ls.getD k []))) := fun k hk => by
    rw [← hCS, List.getElem?_toArray, List.getElem?_map, List.getElem?_map, List.getD_eq_getElem?_getD, List.getElem?_eq_getElem hk]; rfl
  have HCS := Lib.hid hcs
  have HPF := Lib.hid (fun (s : ByteArray) w => Tryd.strings_HasPrefix s { data := #[35] } w)
  have hmm := @run_makeMap Tryd.prog
  have HLEN := Lib.hid hlen
  clear hls hP hlen hcs hCS
  go_enter Tryd.func11, Tryd.ntmps11
  go_wp2_with (go_at_call 31; (with_reducible refine (HSP.out _).mono ?_); rintro e w1 ⟨rfl, hw1⟩; obtain rfl := hw1.symm)
  obtain ⟨n, hn⟩ : ∃ n, ls.length = n := ⟨_, rfl⟩
  rw [hn] at hcount ⊢
  have HN := Lib.hid hn
  clear hn hmm
  have hln0 : ((w.alloc (.map #[] 0)).alloc (.cells CS 9)).heap[w.heap.size + 1]? = some (.cells CS 9 (0, 0)) := by
    have := heap_alloc_new (w.alloc (.map #[] 0)) (.cells CS 9 (0, 0))
    simpa using this
  have hset0 : OwnSet ((w.alloc (.map #[] 0)).alloc (.cells CS 9)) w.heap.size [] := (OwnSet.made w).alloc _
  have hb0 : Below w.heap.size w ((w.alloc (.map #[] 0)).alloc (.cells CS 9)) := ((Below.refl _ _).alloc (Nat.le_refl _) _).alloc (by simp) _
  have hsz0 : w.heap.size + 2 ≤ ((w.alloc (.map #[] 0)).alloc (.cells CS 9)).heap.size := by simp
  obtain ⟨W, hW⟩ : ∃ W, (w.alloc (.map #[] 0)).alloc (.cells CS 9) = W := ⟨_, rfl⟩
  rw [hW] at hln0 hset0 hb0 hsz0 ⊢
  clear hW
  go_loopw [18, 5] (fun i lv wr => ∃ (k : Nat) (acc : List Rule), i = .int .i64 k ∧ k ≤ n ∧ wr.ownsRow (w.heap.size + 2) 40 3 lv acc.length (rc acc) ∧ OwnSet wr w.heap.size (acc.map Rule.k) ∧ wr.heap[w.heap.size + 1]? = some (.cells CS 9 (0, 0)) ∧ Below w.heap.size w wr ∧ w.heap.size + 2 ≤ wr.heap.size ∧ acc.length ≤ 500 ∧ Hid (∀ r ∈ acc, Short r) ∧ Hid (foldP [] 0 ls = foldP acc k (ls.drop k))) (fun i _ _ => n - (intOf i).toNat)
  case atStart => exact ⟨0, [], rfl, Nat.zero_le _, World.ownsRow_nil _ _ _ _, hset0, hln0, hb0, hsz0, by simp, Lib.hid (by simp), Lib.hid rfl⟩
  case round =>
    obtain ⟨k, acc, rfl, hk, hown, hset, hln, hbw, hws, hal, hshort, hfold⟩ := hrel
    by_cases hkl : k < n
    · have hx : wr.cell? ⟨w.heap.size + 1, k, none⟩ = some (.string (ba (ls.getD k []))) := by
        rw [cell_of_row wr _ k _ _ _ hln]
        exact HCS.out k (by rw [HN.out]; exact hkl)
      have hf := hfold.out
      rw [drop_line (by rw [HN.out]; exact hkl)] at hf
      have hll : (ls.getD k []).length ≤ 1048576 := by
        have hkk : k < ls.length := by rw [HN.out]; exact hkl
        rw [List.getD_eq_getElem?_getD, List.getElem?_eq_getElem hkk]
        exact HLEN.out _ (List.getElem_mem hkk)
      clear hfold
      generalize ls.getD k [] = line at hx hf hll
      have hE : (ba line).toList.isEmpty = decide (line.length = 0) := by rw [empty_str, ba_size]
      have k0 : (0 : Int) ≤ k := by omega
      have k1 : (k : Int) < n := by omega
      cases hsk : skips line
      · obtain ⟨hne, hpf⟩ := skip_no hsk
        have hE1 : (ba line).toList.isEmpty = false := by rw [hE]; cases line with | nil => exact absurd rfl hne | cons _ _ => simp
        have HPF1 := HPF.out (ba line)
        rw [show (ba line).data.toList = line from bs_ba line, hpf] at HPF1
        have HPF1 := Lib.hid HPF1
        have HRL := fun w => readLine_any (ba line) w (by rw [ba_size]; exact hll)
        rw [bs_ba] at HRL
        have hsr := lineR_short hll
        have hbad : ((lineR line).2 && accB (acc.map Rule.k) (lineR line).1) = false → ∀ w', Below w.heap.size w w' → ParsePost 40 (foldP [] 0 ls) w (.returned (.tuple #[.slice none 0 0, .int .i64 ((k : Int) + 1), .int .i64 50])) w' := fun hn w' hb => by
          rw [hf, fold_err hsk hal hn]
          refine ⟨_, ?_, World.ownsRow_nil _ _ _ _, hb, by simp, by simp⟩
          simp
        have hgood : ((lineR line).2 && accB (acc.map Rule.k) (lineR line).1) = true → foldP [] 0 ls = foldP (acc ++ [(lineR line).1]) (k + 1) (ls.drop (k + 1)) := fun hn => by rw [hf, fold_add hsk hal hn]
        clear hf hE hpf hne hsk
        generalize (lineR line).2 = ok at HRL hbad hgood
        generalize (lineR line).1 = r at HRL hbad hgood hsr
        generalize ba line = sl at hx hE1 HPF1 HRL
        have HRL := Lib.hid HRL
        cases ok
        · have HB := Lib.hid (hbad rfl)
          clear hbad hgood
          go_wp2_with (first
            | (go_at_call 32; (with_reducible refine (HPF1.out _).mono ?_); rintro e w2 ⟨rfl, hw2⟩; obtain rfl := hw2.symm)
            | (go_at_call 33; (with_reducible refine (HRL.out _).mono ?_); rintro e w2 ⟨rfl, hb2⟩; unfold ragg))
          go_ret3
          exact HB.out _ (Below.alloc (hbw.trans (hb2.mono hbw.size)) (Nat.le_trans hbw.size hb2.size) _)
        · rw [Bool.true_and] at hbad hgood
          have hset2 : ∀ w2 o, Below wr.heap.size wr w2 → OwnSet (w2.alloc o) w.heap.size (acc.map Rule.k) := fun w2 o hb2 => (hset.later hb2).alloc o
          have HS2 := Lib.hid hset2
          have hkl2 : (acc.map Rule.k).length ≤ 1000000 := by rw [List.length_map]; omega
          have hmap : (acc ++ [r]).map Rule.k = acc.map Rule.k ++ [r.k] := by simp
          have HM := Lib.hid hmap
          have HKE := Lib.hid (show (acc.map Rule.k).length = acc.length from List.length_map _)
          clear hset2 hmap
          generalize acc.map Rule.k = ks at hbad hgood HS2 hkl2 HM HKE
          cases hq : accB ks r
          · have HB := Lib.hid (hbad hq)
            have HQ := Lib.hid hq
            have HSR := Lib.hid hsr
            clear hbad hgood hq hsr
            go_wp2_with (first
              | (go_at_call 32; (with_reducible refine (HPF1.out _).mono ?_); rintro e w2 ⟨rfl, hw2⟩; obtain rfl := hw2.symm)
              | (go_at_call 33; (with_reducible refine (HRL.out _).mono ?_); rintro e w2 ⟨rfl, hb2⟩; unfold ragg)
              | (go_at_call 34; (refine (accept_no w.heap.size ks r _ HSR.out (HS2.out _ _ hb2) HQ.out).mono ?_); rintro e w3 ⟨rfl, hs3, hg3⟩))
            go_ret3
            exact HB.out _ ((Below.alloc (hbw.trans (hb2.mono hbw.size)) (Nat.le_trans hbw.size hb2.size) _).grown hg3 (by simp; have := hbw.size; have := hb2.size; omega) (fun j hj => by cases hj; exact Nat.le_refl _))
          · have HG := Lib.hid (hgood hq)
            have hal2 : acc.length + 1 ≤ 500 := by
              have h1 := hq
              unfold accB at h1
              simp only [Bool.and_eq_true, decide_eq_true_eq] at h1
              have := HKE.out
              omega
            have hsh2 := Lib.hid (show ∀ x ∈ acc ++ [r], Short x from fun x hx => by
              rcases List.mem_append.1 hx with h | h
              · exact hshort.out x h
              · rw [List.mem_singleton] at h; rw [h]; exact hsr)
            have HQ := Lib.hid hq
            have HSR := Lib.hid hsr
            clear hbad hgood hq hsr
            go_wp2_with (first
              | (go_at_call 32; (with_reducible refine (HPF1.out _).mono ?_); rintro e w2 ⟨rfl, hw2⟩; obtain rfl := hw2.symm)
              | (go_at_call 33; (with_reducible refine (HRL.out _).mono ?_); rintro e w2 ⟨rfl, hb2⟩; unfold ragg)
              | (go_at_call 34; (refine (accept_yes w.heap.size ks r _ HSR.out (HS2.out _ _ hb2) hkl2 HQ.out).mono ?_); rintro e w3 ⟨rfl, hs3, hg3⟩; have hw2 : w.heap.size + 2 ≤ w2.heap.size := Nat.le_trans hws hb2.size; have hne : some w2.heap.size ≠ some w.heap.size := by simp; omega
                 have c0 := hg3.cell (a := ⟨w2.heap.size, 0, none⟩) (v := .string r.k) (by simp) hne
                 have c1 := hg3.cell (a := ⟨w2.heap.size, 1, none⟩) (v := .string r.o) (by simp) hne
                 have c2 := hg3.cell (a := ⟨w2.heap.size, 2, none⟩) (v := .string r.n) (by simp) hne
                 have own3 := own_grown ((own_later hown hb2).alloc _) hg3 (by omega)
                 have ln3 := row_kept (row_alloc (row_below hln hb2) _) hg3 (by omega)
                 have bw3 := (Below.alloc (hbw.trans (hb2.mono hbw.size)) (Nat.le_trans hbw.size hb2.size) _).grown hg3 (by simp; have := hbw.size; have := hb2.size; omega) (fun j hj => by cases hj; exact Nat.le_refl _))
              | (go_at_call 35; (refine (fresh_any r _ HSR.out).mono ?_); rintro e w4 ⟨rfl, hb4⟩; unfold ragg
                 have own4 := own_later own3 hb4
                 have ln4 := row_below ln3 hb4
                 have hs4 := hs3.later hb4
                 have bw4 := bw3.trans (hb4.mono bw3.size))
              | (at_builtin; refine wpList_append_own _ rfl _ _ _ rfl (w.heap.size + 2) 40 i0 _ 3 48 Tryd.underlying22 hi0 hz0 hz1 hz2 rfl (by decide) _ acc.length (rc acc) rfl (own4.alloc _) ⟨w4.heap.size, 0, none⟩ 1 1 (rc [r]) rfl rfl (news_rule (heap_alloc_new w4 _)) ?c2 ?c3 ?c4 ?c5 ?_))
            case c2 => exact rc_oneCell _
            case c3 => unfold maxLen; omega
            case c4 => omega
            case c5 => simp; have := hb4.size; have := hg3.size; simp at this; omega
            intro v' w5 hown5 hg5 _
            have hne5 : some w.heap.size ≠ Value.ownBlock _ := fun e => by have := (own4.lt _ e.symm).1; omega
            have hne6 : some (w.heap.size + 1) ≠ Value.ownBlock _ := fun e => by have := (own4.lt _ e.symm).1; omega
            have hs5 := (hs4.alloc _).kept hg5 hne5
            have ln5 : w5.heap[w.heap.size + 1]? = some (.cells CS 9 (0, 0)) := by
              rw [hg5.block _ (Array.getElem?_eq_some_iff.1 (row_alloc ln4 _)).1 hne6]; exact row_alloc ln4 _
            have hw4 : w.heap.size + 2 ≤ w4.heap.size := by have := hb4.size; have := hg3.size; simp at this; omega
            have bw5 := (bw4.alloc (by omega) (Obj.cells #[Value.string r.k, Value.string r.o, Value.string r.n] 40)).grown hg5 (by simp; omega) (fun j hj => by have := (own4.lt j hj).1; omega)
            have hw5 : w.heap.size + 2 ≤ w5.heap.size := by have := hg5.size; simp at this; omega
            have own5 : w5.ownsRow (w.heap.size + 2) 40 3 v' (acc ++ [r]).length (rc (acc ++ [r])) := by rw [rc_append, List.length_append]; exact hown5
            have hs6 : OwnSet w5 w.heap.size ((acc ++ [r]).map Rule.k) := by rw [HM.out]; exact hs5
            clear hown5 hg5 hs5 own4 ln4 hs4 bw4 own3 ln3 bw3 hs3 hg3 hb4 hb2
            go_wp2
            go_roundw
            case rel => exact ⟨k + 1, acc ++ [r], by go_num, by omega, own5, hs6, ln5, bw5, hw5, by rw [List.length_append]; exact hal2, hsh2, HG⟩
            case measure => simp [intOf]; omega
      · by_cases h0 : line = []
        · subst h0
          have hE1 : (ba []).toList.isEmpty = true := by rw [hE]; rfl
          have HF := Lib.hid (hf.trans (fold_skip hsk))
          generalize ba [] = sl at hx hE1
          clear hf hE hsk
          go_wp2
          go_roundw
          case rel => exact ⟨k + 1, acc, by go_num, by omega, hown, hset, hln, hbw, hws, hal, hshort, HF⟩
          case measure => simp [intOf]; omega
        · have hpf := skip_yes hsk h0
          have hE1 : (ba line).toList.isEmpty = false := by rw [hE]; cases line with | nil => exact absurd rfl h0 | cons _ _ => simp
          have HPF1 := HPF.out (ba line)
          rw [show (ba line).data.toList = line from bs_ba line, hpf] at HPF1
          have HPF1 := Lib.hid HPF1
          have HF := Lib.hid (hf.trans (fold_skip hsk))
          clear hf hE hpf hsk h0
          generalize ba line = sl at hx hE1 HPF1
          go_wp2_with (go_at_call 32; (with_reducible refine (HPF1.out _).mono ?_); rintro e w2 ⟨rfl, hw2⟩; obtain rfl := hw2.symm)
          go_roundw
          case rel => exact ⟨k + 1, acc, by go_num, by omega, hown, hset, hln, hbw, hws, hal, hshort, HF⟩
          case measure => simp [intOf]; omega
    · have hf := hfold.out
      rw [List.drop_of_length_le (by rw [HN.out]; omega)] at hf
      have HP := Lib.hid (show ∀ lv, wr.ownsRow (w.heap.size + 2) 40 3 lv acc.length (rc acc) → ParsePost 40 (foldP [] 0 ls) w (.returned (.tuple #[lv, .int .i64 0, .int .i64 0])) wr from fun lv h => by
        rw [hf]
        exact ⟨lv, rfl, own_base h (by omega), hbw, hshort.out, hal⟩)
      clear hf hfold
      go_wp2
      go_ret3
      exact HP.out _ hown

end Go.Proofs.YtpaeppklkicngaaDoor.Rom
