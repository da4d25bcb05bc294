/-
  Joined texts: NumW.
-/
import Derived.Test.YteelmjmiankflaaGreatDoorM8
import Derived.Deep.RegionWith
set_option linter.unusedVariables false
set_option linter.unusedSimpArgs false
namespace Go.Proofs.YteelmjmiankflaaGreatDoor.Num
open Go Go.RowKit Go.Proofs.YteelmjmiankflaaGreatDoor.Kit Go.Proofs.YteelmjmiankflaaGreatDoor.Utf

theorem written_zero (v1 v2 : Value) (ones : Bool) (w : World) :
    Calls Tryz.prog 109 #[.string { data := #[48] }, v1, v2, .bool ones] w fun e w' => e = .returned (.string { data := #[233, 155, 182] }) ∧ w = w' := by
  go_enter Tryz.func109, Tryz.ntmps109
  go_wp2
  go_ret
  exact ⟨rfl, rfl⟩

theorem kp_form (d u : Nat) (h1 : 1 ≤ d) (h9 : d ≤ 9) (h3 : u ≤ 3) : kp d u = (if 1 < d ∨ false = true ∨ u = 0 then [pd d] else []) ++ pu u := by
  unfold kp
  by_cases e : d = 1 ∧ 0 < u
  · rw [if_pos e, if_neg (by rintro (a | a | a) <;> first | omega | cases a)]; rfl
  · rw [if_neg e, if_pos (by omega)]; rfl
theorem fp_form (d u : Nat) (h1 : 1 ≤ d) (h9 : d ≤ 9) (h3 : u ≤ 3) : fp d u = (if 1 < d ∨ true = true ∨ u = 0 then [fd d] else []) ++ fu u := by
  rw [if_pos (.inr (.inl rfl))]; rfl
theorem zero_out : tx [38646] = { data := #[233, 155, 182] } := by kernel_rfl

/-- What a whole number is written as by the reference: written at the reference's lists. -/
theorem written_any (W : List Nat → List Int) (h : Nat → Nat → List Int) (hW : ∀ ds, W ds = if ds = [0] then [38646] else units h false ds) (P U : Nat → List Int) (ones : Bool)
    (hh : ∀ d u, 1 ≤ d → d ≤ 9 → u ≤ 3 → h d u = (if 1 < d ∨ ones = true ∨ u = 0 then P d else []) ++ U u)
    (lP : ∀ d, d ≤ 9 → (encs (P d)).length ≤ 3) (lU : ∀ u, u ≤ 3 → (encs (U u)).length ≤ 3)
    (ds : List Nat) (s : ByteArray) (hd : DS ds) (hs : s = dg ds) (g1 g2 : Nat) (w : World)
    (c1 : ∀ d, d < 10 → w.cell? ⟨g1, d, none⟩ = some (.string (tx (P d)))) (c2 : ∀ u, u < 4 → w.cell? ⟨g2, u, none⟩ = some (.string (tx (U u)))) (hg1 : g1 < w.heap.size) (hg2 : g2 < w.heap.size) :
    Calls Tryz.prog 109 #[.string s, .slice (some ⟨g1, 0, none⟩) 10 10, .slice (some ⟨g2, 0, none⟩) 4 4, .bool ones] w fun e w' => e = .returned (.string (tx (W ds))) ∧ Below w.heap.size w w' := by
  rw [hW]
  by_cases hz : ds = [0]
  · rw [if_pos hz, hs, hz, zero_out]
    refine (written_zero _ _ ones w).mono ?_
    rintro e w' ⟨he, rfl⟩
    exact ⟨he, Below.refl _ _⟩
  · rw [if_neg hz]
    exact written_good h h P U ones hh lP lU ds s hd hs hz g1 g2 w c1 c2 hg1 hg2

def fourP : Array Value := #[.string { data := #[] }, .string { data := #[229, 141, 129] }, .string { data := #[231, 153, 190] }, .string { data := #[229, 141, 131] }]
def fourF : Array Value := #[.string { data := #[] }, .string { data := #[230, 139, 190] }, .string { data := #[231, 153, 190] }, .string { data := #[229, 141, 131] }]
theorem four_get (u : Nat) (h : u < 4) : fourP[u]? = some (.string (tx (pu u))) ∧ fourF[u]? = some (.string (tx (fu u))) := by
  have : u = 0 ∨ u = 1 ∨ u = 2 ∨ u = 3 := by omega
  rcases this with rfl | rfl | rfl | rfl <;> exact ⟨rfl, rfl⟩
theorem cell_last (w : World) (cs : Array Value) (t : TypeId) (u : Nat) : (w.alloc (.cells cs t)).cell? ⟨w.heap.size, u, none⟩ = cs[u]? := cell_of_row _ _ u cs t (0, 0) (heap_last w _)

theorem rkanji_any : Writer 80 kanjiC := by
  intro s w hs hL
  have hD := Lib.hid (rdigits_any s w hs)
  cases hd : isDec s with
  | false =>
    rw [hd] at hD
    rw [wOut_bad _ hd]
    clear hd hs hL
    go_enter Tryz.func80, Tryz.ntmps80
    go_wp2_with (go_at_call 104; refine hD.out.mono ?_; rintro e w' ⟨rfl, rfl⟩)
    go_ret2
    exact ⟨rfl, Below.refl _ _⟩
  | true =>
    rw [hd] at hD
    obtain ⟨hds, hsd⟩ := (isDec_iff s).1 hd
    have ew : wOut kanjiC s = tx (kanjiC (ofDg s)) := by unfold wOut; rw [hd]; rfl
    rw [ew]
    have HW := Lib.hid (fun g1 g2 w' c1 c2 h1 h2 => written_any kanjiC kp (fun _ => rfl) (fun d => [pd d]) pu false kp_form (fun d h => Nat.le_of_eq (len_pd d h)) len_pu (ofDg s) s hds hsd g1 g2 w' c1 c2 h1 h2)
    clear hd hs hL hds hsd ew
    go_enter Tryz.func80, Tryz.ntmps80
    go_wp2_with (first
      | (go_at_call 104; refine hD.out.mono ?_; rintro e w' ⟨rfl, rfl⟩)
      | (go_at_call 103; refine (plain_any _).mono ?_; rintro e w1 ⟨rfl, hat, hb1⟩; have HA := Lib.hid hat; clear hat)
      | (go_at_call 109; refine (HW.out _ _ (w1.alloc (.cells fourP 9)) (fun d hd => (Below.cell ((Below.refl w1.heap.size w1).alloc (Nat.le_refl _) _) (p := ⟨_, d, none⟩) HA.out.lt).trans (HA.out.cell (range_get 10 _ d hd))) (fun u hu => (cell_last w1 fourP _ u).trans (four_get u hu).1) (Nat.lt_of_lt_of_le HA.out.lt ((Below.refl w1.heap.size w1).alloc (Nat.le_refl _) _).size) (by show w1.heap.size < (w1.alloc _).heap.size; simp)).mono ?_; rintro e w2 ⟨rfl, hb2⟩))
    go_ret2
    have hb3 : Below w.heap.size w (w1.alloc (.cells fourP 9)) := hb1.alloc hb1.size _
    exact ⟨rfl, hb3.trans (hb2.mono hb3.size)⟩

theorem rform_any : Writer 81 formC := by
  intro s w hs hL
  have hD := Lib.hid (rdigits_any s w hs)
  cases hd : isDec s with
  | false =>
    rw [hd] at hD
    rw [wOut_bad _ hd]
    clear hd hs hL
    go_enter Tryz.func81, Tryz.ntmps81
    go_wp2_with (go_at_call 104; refine hD.out.mono ?_; rintro e w' ⟨rfl, rfl⟩)
    go_ret2
    exact ⟨rfl, Below.refl _ _⟩
  | true =>
    rw [hd] at hD
    obtain ⟨hds, hsd⟩ := (isDec_iff s).1 hd
    have ew : wOut formC s = tx (formC (ofDg s)) := by unfold wOut; rw [hd]; rfl
    rw [ew]
    have HW := Lib.hid (fun g1 g2 w' c1 c2 h1 h2 => written_any formC fp (fun _ => rfl) (fun d => [fd d]) fu true fp_form (fun d h => Nat.le_of_eq (len_fd d h)) len_fu (ofDg s) s hds hsd g1 g2 w' c1 c2 h1 h2)
    clear hd hs hL hds hsd ew
    go_enter Tryz.func81, Tryz.ntmps81
    go_wp2_with (first
      | (go_at_call 104; refine hD.out.mono ?_; rintro e w' ⟨rfl, rfl⟩)
      | (go_at_call 106; refine (rformal_any _).mono ?_; rintro e w1 ⟨rfl, hat, hb1⟩; have HA := Lib.hid hat; clear hat)
      | (go_at_call 109; refine (HW.out _ _ (w1.alloc (.cells fourF 9)) (fun d hd => (Below.cell ((Below.refl w1.heap.size w1).alloc (Nat.le_refl _) _) (p := ⟨_, d, none⟩) HA.out.lt).trans (HA.out.cell (range_get 10 _ d hd))) (fun u hu => (cell_last w1 fourF _ u).trans (four_get u hu).2) (Nat.lt_of_lt_of_le HA.out.lt ((Below.refl w1.heap.size w1).alloc (Nat.le_refl _) _).size) (by show w1.heap.size < (w1.alloc _).heap.size; simp)).mono ?_; rintro e w2 ⟨rfl, hb2⟩))
    go_ret2
    have hb3 : Below w.heap.size w (w1.alloc (.cells fourF 9)) := hb1.alloc hb1.size _
    exact ⟨rfl, hb3.trans (hb2.mono hb3.size)⟩

theorem rpos_any : Writer 78 posC := by
  intro s w hs hL
  have hD := Lib.hid (rdigits_any s w hs)
  cases hd : isDec s with
  | false =>
    rw [hd] at hD
    rw [wOut_bad _ hd]
    clear hd hs hL
    go_enter Tryz.func78, Tryz.ntmps78
    go_wp2_with (go_at_call 104; refine hD.out.mono ?_; rintro e w' ⟨rfl, rfl⟩)
    go_ret2
    exact ⟨rfl, Below.refl _ _⟩
  | true =>
    rw [hd] at hD
    obtain ⟨hds, hsd⟩ := (isDec_iff s).1 hd
    have ew : wOut posC s = tx (posC (ofDg s)) := by unfold wOut; rw [hd]; rfl
    rw [ew]
    obtain ⟨ds, hde⟩ : ∃ ds, ofDg s = ds := ⟨_, rfl⟩
    rw [hde] at hds hsd ⊢
    have hsz : s.size = ds.length := by rw [hsd, dg_size]
    have HDS := Lib.hid hds; have HS := Lib.hid hsd; have HSZ := Lib.hid hsz
    have hn20 := hds.2.1
    obtain ⟨n, hn⟩ : ∃ n, ds.length = n := ⟨_, rfl⟩
    rw [hn] at HSZ hn20
    have HN := Lib.hid hn
    clear hd hs hL hds hsd ew hde hsz hn
    go_enter Tryz.func78, Tryz.ntmps78
    go_wp2_with (go_at_call 104; refine hD.out.mono ?_; rintro e w' ⟨rfl, rfl⟩)
    go_loopw [4, 5] (fun ov iv wr => ∃ k : Nat, iv = .int .i64 k ∧ ov = Value.string (tx (posC (ds.take k))) ∧ k ≤ n ∧ Below w.heap.size w wr) (fun _ iv _ => n - (intOf iv).toNat)
    case atStart => exact ⟨0, rfl, rfl, Nat.zero_le _, Below.refl _ _⟩
    case round =>
      obtain ⟨k, rfl, rfl, hk, hb⟩ := hrel
      by_cases hkn : k < n
      · have hp : k < s.size := by rw [HSZ.out]; exact hkn
        have hkd : k < ds.length := by rw [HN.out]; exact hkn
        have hby : (s[k]'hp).toNat = 48 + ds[k] := by
          have := HS.out
          subst this
          exact dg_byte ds k hkd HDS.out.2.2.1 hp
        have hd9 : ds[k] ≤ 9 := HDS.out.2.2.1 _ (List.getElem_mem hkd)
        have hts : ds.take (k + 1) = ds.take k ++ [ds[k]] := List.take_succ_eq_append_getElem hkd
        obtain ⟨d, hdd⟩ : ∃ d, ds[k] = d := ⟨_, rfl⟩
        rw [hdd] at hby hd9 hts
        obtain ⟨c, hc⟩ : ∃ c : Int, ((s[k]'hp).toNat : Int) = c := ⟨_, rfl⟩
        have hc1 : 48 ≤ c := by omega
        have hc2 : c ≤ 57 := by omega
        have hcd : c - 48 = (d : Int) := by omega
        have hi1 : (d : Int) < 10 := by omega
        have hw1 : IntKind.u8.wrap (c - 48) = (d : Int) := by rw [hcd]; exact IntWalk.u8_in _ ⟨by omega, by omega⟩
        have hi0 : (0 : Int) ≤ (d : Int) := by omega
        have hw2 : IntKind.u8.wrap (d : Int) = (d : Int) := IntWalk.u8_in _ ⟨by omega, by omega⟩
        have hpk1 : (k : Int) < (s.size : Int) := by omega
        have hpk0 : (0 : Int) ≤ (k : Int) := by omega
        have hs2 := Lib.hid (show posC (ds.take (k + 1)) = posC (ds.take k) ++ [pd d] by rw [hts, posC_map, posC_map, List.map_append]; rfl)
        have hl : (encs (posC (ds.take k))).length ≤ 60 := by
          have := eachS_size (out := fun _ d _ => [pd d]) (next := fun b _ _ => b) (m := 3) (fun b d a h _ => Nat.le_of_eq (len_pd d h)) (ds.take k) false (fun x hx => HDS.out.2.2.1 x (List.mem_of_mem_take hx)) (by rw [List.length_take]; omega)
          have h2 : (ds.take k).length ≤ k := by rw [List.length_take]; omega
          unfold posC; omega
        have hadd := add_tx (posC (ds.take k)) [pd d] (by have := len_pd d hd9; omega)
        rw [← hs2.out] at hadd
        clear hby hts hdd hkd hl
        go_wp2
        go_region_with (go_at_call 103; refine (plain_any _).mono ?_; rintro e w2 ⟨rfl, hat, hb2⟩; have cpd : w2.cell? ⟨wr.heap.size, d, none⟩ = some (.string (tx [pd d])) := hat.cell (range_get 10 _ d (by omega)); clear hat)
        all_goals
          go_wp2
          go_roundw
          case rel => exact ⟨k + 1, by go_num, rfl, by omega, hb.drew.trans (hb2.mono hb.size)⟩
          case measure => simp [intOf] <;> omega
      · have hkn' : k = n := by omega
        subst hkn'
        have hfin : ds.take k = ds := List.take_of_length_le (by rw [HN.out]; exact Nat.le_refl _)
        have hks : ¬ ((k : Int) < (s.size : Int)) := by rw [HSZ.out]; omega
        rw [hfin]
        clear hfin hkn
        go_wp2
        go_ret2
        exact ⟨rfl, hb⟩

/-- What is written before the comma that comes next. -/
def commaB (ds : List Nat) : Nat → List Int
  | 0 => []
  | k + 1 => (commaB ds k ++ (if 0 < k ∧ (ds.length - k) % 3 = 0 then [44] else [])) ++ [48 + (ds.getD k 0 : Int)]
theorem commaB_all (ds : List Nat) : ∀ k, k ≤ ds.length → commaB ds k ++ ((if 0 < k ∧ 0 < ds.length - k ∧ (ds.length - k) % 3 = 0 then [44] else []) ++ commaC (ds.drop k)) = commaC ds := by
  intro k
  induction k with
  | zero => intro _; rw [List.drop_zero]; simp [commaB]
  | succ k ih =>
    intro hk
    have hkd : k < ds.length := by omega
    have h1 := ih (by omega)
    rw [List.drop_eq_getElem_cons hkd, comma_cons] at h1
    have hl : (ds.drop (k + 1)).length = ds.length - (k + 1) := List.length_drop
    rw [hl] at h1
    have hg : ds.getD k 0 = ds[k] := by rw [List.getD_eq_getElem?_getD, List.getElem?_eq_getElem hkd]; rfl
    rw [← h1]
    show ((commaB ds k ++ (if 0 < k ∧ (ds.length - k) % 3 = 0 then [44] else [])) ++ [48 + (ds.getD k 0 : Int)]) ++ _ = _
    rw [hg]
    have e1 : (if 0 < k ∧ (ds.length - k) % 3 = 0 then [44] else ([] : List Int)) = if 0 < k ∧ 0 < ds.length - k ∧ (ds.length - k) % 3 = 0 then [44] else [] := by
      by_cases c : 0 < k ∧ (ds.length - k) % 3 = 0
      · rw [if_pos c, if_pos ⟨c.1, by omega, c.2⟩]
      · rw [if_neg c, if_neg (fun x => c ⟨x.1, x.2.2⟩)]
    have e2 : (if 0 < k + 1 ∧ 0 < ds.length - (k + 1) ∧ (ds.length - (k + 1)) % 3 = 0 then [44] else ([] : List Int)) = if 0 < ds.length - (k + 1) ∧ (ds.length - (k + 1)) % 3 = 0 then [44] else [] := by
      by_cases c : 0 < ds.length - (k + 1) ∧ (ds.length - (k + 1)) % 3 = 0
      · rw [if_pos c, if_pos ⟨by omega, c⟩]
      · rw [if_neg c, if_neg (fun x => c x.2)]
    rw [e1, e2]
    simp only [List.append_assoc, List.cons_append, List.nil_append]

theorem cut_dg {ds : List Nat} {k : Nat} (hk : k < ds.length) (h9 : ∀ d ∈ ds, d ≤ 9) : (dg ds).extract k (k + 1) = tx [48 + (ds[k] : Int)] := by
  have h9k := h9 ds[k] (List.getElem_mem hk)
  rw [← dg_one _ h9k]
  apply ba_ext
  rw [Lib.extract_data]
  show ((bs (dg ds)).drop k).take (k + 1 - k) = bs (dg [ds[k]])
  rw [bs_dg, bs_dg, ← List.map_drop, ← List.map_take, List.drop_eq_getElem_cons hk, show k + 1 - k = 1 by omega]; rfl

end Go.Proofs.YteelmjmiankflaaGreatDoor.Num
