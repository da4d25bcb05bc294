/-
  Contract of the automaton's New.
-/
import Derived.Test.YtmbccolkgephgaaAutS
import Derived.Deep.RegionLaw
import Derived.Deep.RegionHeld3
set_option linter.unusedVariables false
set_option linter.unusedSimpArgs false
set_option maxRecDepth 100000
namespace Go.Proofs.Ytmbccolkgephgaa.Aut
open Go Go.RowKit Go.Proofs.Ytmbccolkgephgaa.Kit Go.Proofs.Ytmbccolkgephgaa.Utf Go.Proofs.Ytmbccolkgephgaa.Rom

theorem findL_app_yes (a b : List Rule) (x : ByteArray) (h : (findL a x).2 = true) : findL (a ++ b) x = findL a x := by
  induction a with
  | nil => cases h
  | cons r a ih =>
    unfold findL at h
    show (if r.k = x then (r, true) else findL (a ++ b) x) = if r.k = x then (r, true) else findL a x
    split at h
    · rename_i e; rw [if_pos e, if_pos e]
    · rename_i e; rw [if_neg e, if_neg e]; exact ih h
theorem rules_step {rs : List Rule} (hok : okL rs = true) {k : Nat} (hk : k < rs.length) : upd (rulesF (rs.take k)) (ri rs k).k (ragg (ri rs k)) = rulesF (rs.take (k + 1)) := by
  have h1 : okL (rs.take (k + 1)) = true := okL_take hok
  rw [take_succ_ri rs k hk, okL_snoc] at h1
  simp only [Bool.and_eq_true] at h1
  have hnew := h1.2.2
  funext x
  unfold upd
  rw [take_succ_ri rs k hk]
  by_cases e : x = (ri rs k).k
  · rw [if_pos e, e]
    have h2 : (findL (rs.take k) (ri rs k).k).2 = false := by rw [findL_iff, hnew]; rfl
    unfold rulesF
    rw [findL_append _ _ _ h2]
    have h3 : findL [ri rs k] (ri rs k).k = (ri rs k, true) := by unfold findL; rw [if_pos rfl]
    rw [h3]; rfl
  · rw [if_neg e]
    unfold rulesF
    cases h2 : (findL (rs.take k) x).2
    · rw [findL_append _ _ _ h2]
      have h3 : findL [ri rs k] x = (noRule, false) := by
        unfold findL; rw [if_neg (fun h => e h.symm)]; rfl
      rw [h3]; rfl
    · rw [findL_app_yes _ _ _ h2, h2]

/-- The beginnings that are known when k rules are done, and of the next one those of less than n keys. -/
def gF (rs : List Rule) (r : Rule) (n : Nat) (x : ByteArray) : Option Value :=
  if (longL rs x && decide (x.size ≠ 0)) || (decide (1 ≤ x.size ∧ x.size < n) && (bs x).isPrefixOf (bs r.k)) then some (.bool true) else none
theorem gF_start (rs : List Rule) (r : Rule) : gF rs r 1 = longF rs := by
  funext x
  unfold gF longF
  rw [decide_eq_false (by omega : ¬ (1 ≤ x.size ∧ x.size < 1)), Bool.false_and, Bool.or_false]
theorem gF_step (rs : List Rule) (r : Rule) {n : Nat} (h1 : 1 ≤ n) (h2 : n ≤ r.k.size) : upd (gF rs r n) (r.k.extract 0 n) (.bool true) = gF rs r (n + 1) := by
  funext x
  unfold upd gF
  have hsz : (r.k.extract 0 n).size = n := by rw [ByteArray.size_extract]; omega
  have hbs : bs (r.k.extract 0 n) = (bs r.k).take n := by rw [ext_take, bs_ba]
  by_cases e : x = r.k.extract 0 n
  · rw [if_pos e, if_pos]
    rw [e, hsz, hbs, Bool.or_eq_true]
    right
    rw [Bool.and_eq_true, decide_eq_true_eq, List.isPrefixOf_iff_prefix]
    exact ⟨by omega, List.take_prefix _ _⟩
  · rw [if_neg e]
    have key : (decide (1 ≤ x.size ∧ x.size < n) && (bs x).isPrefixOf (bs r.k)) = (decide (1 ≤ x.size ∧ x.size < n + 1) && (bs x).isPrefixOf (bs r.k)) := by
      by_cases hx : x.size = n
      · have : (bs x).isPrefixOf (bs r.k) = false := by
          cases hp : (bs x).isPrefixOf (bs r.k)
          · rfl
          · rw [List.isPrefixOf_iff_prefix] at hp
            have h3 := List.prefix_iff_eq_take.1 hp
            rw [bs_len, hx] at h3
            exact absurd (by rw [← ba_bs x, h3, ext_take]) e
        rw [this, Bool.and_false, Bool.and_false]
      · congr 1
        rw [Bool.eq_iff_iff, decide_eq_true_eq, decide_eq_true_eq]
        omega
    rw [key]
theorem gF_end (rs : List Rule) (r : Rule) {n : Nat} (h : n = r.k.size ∨ (r.k.size = 0 ∧ n = 1)) {k : Nat} (hk : k < rs.length) (hr : ri rs k = r) : gF (rs.take k) r n = longF (rs.take (k + 1)) := by
  funext x
  unfold gF longF
  rw [longL_succ hk, hr]
  congr 2
  unfold longR
  rw [Bool.eq_iff_iff]
  simp only [Bool.or_eq_true, Bool.and_eq_true, decide_eq_true_eq]
  constructor
  · rintro (⟨h1, h2⟩ | ⟨⟨h1, h2⟩, h3⟩)
    · exact ⟨.inl h1, h2⟩
    · exact ⟨.inr ⟨by omega, h3⟩, by omega⟩
  · rintro ⟨h1 | ⟨h1, h2⟩, h3⟩
    · exact .inl ⟨h1, h3⟩
    · exact .inr ⟨⟨by omega, by omega⟩, h2⟩

/-- What stands while New is at work: the automaton in block h + 2, its maps in h and h + 1, the rule at hand in block g. -/
structure NewSt (h g m n : Nat) (r : Rule) (f1 f2 : ByteArray → Option Value) (w W : World) : Prop where
  bel : Below w.heap.size w W
  hw : w.heap.size ≤ h
  hg : h + 2 < g
  gl : g < W.heap.size
  auto : W.heap[h + 2]? = some (.cells #[.map (some h), .map (some (h + 1))] 55 (0, 0))
  box : W.heap[g]? = some (.cells #[.string r.k, .string r.o, .string r.n] 32 (0, 0))
  m1 : MapF 9 eS W h m f1
  m2 : MapF 9 eS W (h + 1) n f2
theorem NewSt.later {h g m n : Nat} {r : Rule} {f1 f2 : ByteArray → Option Value} {w W W' : World} (s : NewSt h g m n r f1 f2 w W) (hb : Below W.heap.size W W') : NewSt h g m n r f1 f2 w W' where
  bel := s.bel.trans (hb.mono s.bel.size)
  hw := s.hw
  hg := s.hg
  gl := Nat.lt_of_lt_of_le s.gl hb.size
  auto := by rw [hb.block _ (by have := s.hg; have := s.gl; omega)]; exact s.auto
  box := by rw [hb.block _ s.gl]; exact s.box
  m1 := s.m1.later hb s.m1.lt
  m2 := s.m2.later hb s.m2.lt
theorem NewSt.put1 {h g m n : Nat} {r : Rule} {f1 f2 : ByteArray → Option Value} {w W : World} (s : NewSt h g m n r f1 f2 w W) (hm : m < 1000000) {x : ByteArray} (hx : x.size ≤ 1048576) (v : Value) :
    ∃ W', (Instr.mapUpdate 52 (.map (some h)) (.string x) v).run Try.prog W = .ok () W' ∧ NewSt h g (m + 1) n r (upd f1 x v) f2 w W' := by
  obtain ⟨W', hrun, hM, hgr⟩ := s.m1.put law_str eS_inj Try.underlying52 (by unfold maxLen; omega) (key_str (s := x) (by unfold maxLen; omega)) v
  have hg := s.hg
  have hgl := s.gl
  refine ⟨W', hrun, s.bel.grown hgr s.bel.size (fun k hk => by cases hk; exact s.hw), s.hw, s.hg, Nat.lt_of_lt_of_le s.gl hgr.size, ?_, ?_, hM, s.m2.kept hgr (by simp)⟩
  · rw [hgr.block _ (by omega) (by simp)]; exact s.auto
  · rw [hgr.block _ (by omega) (by simp; omega)]; exact s.box
theorem NewSt.put2 {h g m n : Nat} {r : Rule} {f1 f2 : ByteArray → Option Value} {w W : World} (s : NewSt h g m n r f1 f2 w W) (hn : n < 1000000) {x : ByteArray} (hx : x.size ≤ 1048576) (v : Value) :
    ∃ W', (Instr.mapUpdate 53 (.map (some (h + 1))) (.string x) v).run Try.prog W = .ok () W' ∧ NewSt h g m (n + 1) r f1 (upd f2 x v) w W' := by
  obtain ⟨W', hrun, hM, hgr⟩ := s.m2.put law_str eS_inj Try.underlying53 (by unfold maxLen; omega) (key_str (s := x) (by unfold maxLen; omega)) v
  have hg := s.hg
  have hgl := s.gl
  have hw := s.hw
  refine ⟨W', hrun, s.bel.grown hgr s.bel.size (fun k hk => by cases hk; omega), s.hw, s.hg, Nat.lt_of_lt_of_le s.gl hgr.size, ?_, ?_, s.m1.kept hgr (by simp), hM⟩
  · rw [hgr.block _ (by omega) (by simp)]; exact s.auto
  · rw [hgr.block _ (by omega) (by simp; omega)]; exact s.box
theorem NewSt.cells {h g m n : Nat} {r : Rule} {f1 f2 : ByteArray → Option Value} {w W : World} (s : NewSt h g m n r f1 f2 w W) :
    W.cell? ⟨h + 1 + 1, 0, none⟩ = some (.map (some h)) ∧ W.cell? ⟨h + 1 + 1, 1, none⟩ = some (.map (some (h + 1))) ∧ W.cell? ⟨g, 0, none⟩ = some (.string r.k) ∧ W.cell? ⟨g, 1, none⟩ = some (.string r.o) ∧ W.cell? ⟨g, 2, none⟩ = some (.string r.n) := by
  have ha : W.heap[h + 1 + 1]? = _ := s.auto
  refine ⟨?_, ?_, ?_, ?_, ?_⟩
  · rw [cell_of_row W _ 0 _ _ _ ha]; rfl
  · rw [cell_of_row W _ 1 _ _ _ ha]; rfl
  · rw [cell_of_row W _ 0 _ _ _ s.box]; rfl
  · rw [cell_of_row W _ 1 _ _ _ s.box]; rfl
  · rw [cell_of_row W _ 2 _ _ _ s.box]; rfl

/-- The same between two rules. -/
structure NewLp (h m n : Nat) (f1 f2 : ByteArray → Option Value) (w W : World) : Prop where
  bel : Below w.heap.size w W
  hw : w.heap.size ≤ h
  gl : h + 2 < W.heap.size
  auto : W.heap[h + 2]? = some (.cells #[.map (some h), .map (some (h + 1))] 55 (0, 0))
  m1 : MapF 9 eS W h m f1
  m2 : MapF 9 eS W (h + 1) n f2
theorem NewSt.lp {h g m n : Nat} {r : Rule} {f1 f2 : ByteArray → Option Value} {w W : World} (s : NewSt h g m n r f1 f2 w W) : NewLp h m n f1 f2 w W := ⟨s.bel, s.hw, by have := s.hg; have := s.gl; omega, s.auto, s.m1, s.m2⟩
theorem NewLp.st {h m n : Nat} {f1 f2 : ByteArray → Option Value} {w W : World} (s : NewLp h m n f1 f2 w W) (r : Rule) : NewSt h W.heap.size m n r f1 f2 w (W.alloc (Obj.cells #[.string r.k, .string r.o, .string r.n] 32 (0, 0))) where
  bel := s.bel.alloc s.bel.size _
  hw := s.hw
  hg := s.gl
  gl := by simp
  auto := by rw [((Below.refl W.heap.size W).alloc (Nat.le_refl _) _).block _ s.gl]; exact s.auto
  box := heap_alloc_new W _
  m1 := s.m1.alloc _
  m2 := s.m2.alloc _

theorem NewSt.three {h g m n : Nat} {r : Rule} {f1 f2 : ByteArray → Option Value} {w W : World} (s : NewSt h g m n r f1 f2 w W) :
    W.cell? ⟨h + 1 + 1, 0, none⟩ = some (.map (some h)) ∧ W.cell? ⟨g, 1, none⟩ = some (.string r.o) ∧ W.cell? ⟨g, 2, none⟩ = some (.string r.n) := ⟨s.cells.1, s.cells.2.2.2.1, s.cells.2.2.2.2⟩
theorem NewSt.drew {h g m n : Nat} {r : Rule} {f1 f2 : ByteArray → Option Value} {w W : World} (s : NewSt h g m n r f1 f2 w W) : NewSt h g m n r f1 f2 w W.drew := s.later (Below.refl _ W).drew

/-- What New hands back. -/
def NewPost (rs : List Rule) (w : World) (e : Ending) (w' : World) : Prop :=
  Below w.heap.size w w' ∧ ((checkL rs ≠ 0 ∧ e = .returned (.tuple #[.pointer none, .int .i64 (checkL rs)])) ∨ (checkL rs = 0 ∧ ∃ a, e = .returned (.tuple #[.pointer (some ⟨a, 0, none⟩), .int .i64 0]) ∧ AutoAt w'.heap.size w' a rs ∧ w.heap.size ≤ a))

theorem ok_of_check {rs : List Rule} (h : checkL rs = 0) : rs.length ≤ 500 ∧ okL rs = true := by
  unfold checkL at h
  split at h
  · cases h
  · split at h
    · rename_i h1 h2; exact ⟨by omega, h2⟩
    · cases h

set_option maxHeartbeats 8000000 in
theorem new_any (v : Value) (rs : List Rule) (w : World) (hR : RowR w v rs) (hs : ∀ r ∈ rs, Short r) :
    Calls Try.prog 15 #[v] w fun e w' => NewPost rs w e w' := by
  have HCK := Lib.hid (fun W (hR : RowR W v rs) => check_any v rs W hR hs)
  obtain ⟨a, len, cap, rfl, hlen, hcap, hmax, _⟩ := id hR
  subst hlen
  have HR := Lib.hid hR
  by_cases hc : checkL rs = 0
  rotate_left
  · have hne : (checkL rs != 0) = true := by simpa using hc
    have HC := Lib.hid hc
    generalize hE : checkL rs = E at HCK hne hc
    have HE := Lib.hid hE
    clear hR hs hE hc
    go_enter Try.func15, Try.ntmps15
    go_wp2_with (go_at_call 30; (with_reducible refine (HCK.out _ HR.out).mono ?_); rintro e w1 ⟨rfl, hb1⟩)
    go_ret2
    exact ⟨hb1, .inl ⟨HC.out, by rw [HE.out]; rfl⟩⟩
  obtain ⟨h500, hok⟩ := ok_of_check hc
  rw [hc] at HCK
  have HC := Lib.hid hc
  have HS := Lib.hid hs
  have HOK := Lib.hid hok
  have HCL := Lib.hid (fun (s : ByteArray) (W : World) (h : s.size ≤ 281474976710656) => Clone.clone_any s W h)
  clear hR hs hc hok
  go_enter Try.func15, Try.ntmps15
  have hmm := @run_makeMap Try.prog
  go_wp2_with (go_at_call 30; (with_reducible refine (HCK.out _ HR.out).mono ?_); rintro e w1 ⟨rfl, hb1⟩)
  obtain ⟨h, hh⟩ : ∃ h, w1.heap.size = h := ⟨_, rfl⟩
  obtain ⟨W, hW⟩ : ∃ W, (((w1.alloc (.map #[] 0)).alloc (.map #[] 0)).alloc (.cells #[.map (some w1.heap.size), .map (some (w1.heap.size + 1))] 55)) = W := ⟨_, rfl⟩
  have hLp : NewLp h 0 0 (rulesF (rs.take 0)) (longF (rs.take 0)) w W := by
    have hz1 : (w1.alloc (.map #[] 0)).heap.size = h + 1 := by simp [hh]
    have hz2 : ((w1.alloc (.map #[] 0)).alloc (.map #[] 0)).heap.size = h + 2 := by simp [hh]
    rw [← hW, hh]
    refine ⟨((hb1.alloc hb1.size _).alloc (by simp; exact Nat.le_succ_of_le hb1.size) _).alloc (by simp; exact Nat.le_succ_of_le (Nat.le_succ_of_le hb1.size)) _, by rw [← hh]; exact hb1.size, by simp [hh], ?_, ?_, ?_⟩
    · have := heap_alloc_new ((w1.alloc (.map #[] 0)).alloc (.map #[] 0)) (.cells #[.map (some h), .map (some (h + 1))] 55)
      rw [hz2] at this
      exact this
    · have := ((MapF.made (kt := 9) (ek := eS) w1).alloc (.map #[] 0)).alloc (.cells #[.map (some h), .map (some (h + 1))] 55)
      rw [hh] at this
      exact this
    · have := (MapF.made (kt := 9) (ek := eS) (w1.alloc (.map #[] 0))).alloc (.cells #[.map (some h), .map (some (h + 1))] 55)
      rw [hz1] at this
      exact this
  rw [hW, hh]
  clear hW hh hb1 HCK
  go_loopw [21] (fun i wr => ∃ k m : Nat, i = .int .i64 k ∧ k ≤ rs.length ∧ Hid (NewLp h k m (rulesF (rs.take k)) (longF (rs.take k)) w wr) ∧ m ≤ 4 * k) (fun i _ => rs.length - (intOf i).toNat)
  case atStart => exact ⟨0, 0, rfl, Nat.zero_le _, Lib.hid hLp, Nat.le_refl _⟩
  case round =>
    obtain ⟨k, m, rfl, hk, hlp, hm⟩ := hrel
    by_cases hkl : k < rs.length
    · obtain ⟨b, off, rfl, hb, hx⟩ := HR.out.at (by omega)
      obtain ⟨x0, x1, x2⟩ := hx k hkl
      have hbw := hlp.out.bel
      rw [← hbw.cell (p := ⟨b, _, none⟩) hb] at x0 x1 x2
      have hsr := HS.out _ (ri_mem hkl)
      have hokr := okR_next (ok_of HOK.out (ri_mem hkl))
      have hr1 := Lib.hid (rules_step HOK.out hkl)
      have hr2 := Lib.hid (fun n (h : n = (ri rs k).k.size ∨ ((ri rs k).k.size = 0 ∧ n = 1)) => gF_end rs (ri rs k) h hkl rfl)
      have k0 : (0 : Int) ≤ k := by omega
      have k1 : (k : Int) < rs.length := by omega
      obtain ⟨r, hri⟩ : ∃ r, ri rs k = r := ⟨_, rfl⟩
      rw [hri] at x0 x1 x2 hsr hokr hr1 hr2
      obtain ⟨s1, s2, s3⟩ := hsr
      have HST := Lib.hid (hlp.out.st r)
      have HBX := Lib.hid (hlp.out.st r).cells
      obtain ⟨o1, o2, o3, o4⟩ := hokr
      have HC1 := Lib.hid (fun W => HCL.out r.k W (by omega))
      have HC2 := Lib.hid (fun W => HCL.out r.o W (by omega))
      have HC3 := Lib.hid (fun W => HCL.out r.n W (by omega))
      clear hri hx hbw
      obtain ⟨g, hg⟩ : ∃ g, wr.heap.size = g := ⟨_, rfl⟩
      have HG := Lib.hid hg
      go_wp2_with (go_at_call 31; (with_reducible refine (HC1.out _).mono ?_); rintro e w2 ⟨rfl, hb2⟩; have hP := HST.out.later hb2)
      rw [HG.out] at hP
      have HP := Lib.hid hP.drew
      obtain ⟨c0, c1, c2⟩ := hP.three
      clear hP hb2 HC1 hg
      go_region_held3 (fun W => W.cell? ⟨h + 1 + 1, 0, none⟩ = some (.map (some h)) ∧ W.cell? ⟨g, 1, none⟩ = some (.string r.o) ∧ W.cell? ⟨g, 2, none⟩ = some (.string r.n))
        (first
          | exact ⟨c0, c1, c2⟩
          | exact hT
          | exact hS
          | exact hU)
        ((first
          | ((go_at_call 31; (with_reducible refine (HC2.out _).mono ?_); rintro e w3 ⟨rfl, hb3⟩; have HP3 := Lib.hid (HP.out.later hb3); have hS := HP3.out.three; clear HC2))
          | ((go_at_call 31; (with_reducible refine (HC3.out _).mono ?_); rintro e w4 ⟨rfl, hb4⟩; obtain ⟨w5, hrun, hP5⟩ := (HP3.out.later hb4).put1 (x := r.k) (by omega) s1 (.agg #[.string r.k, .string r.o, .string r.n]); have hT := (HP3.out.later hb4).three; have HP5 := Lib.hid hP5; have hU := hP5.three; clear hP5 HC3))))
      all_goals
        have HQ := HP5
        rw [show Value.agg #[Value.string r.k, Value.string r.o, Value.string r.n] = ragg r from rfl, hr1.out] at HQ
        clear HP3 hS hT hU hrun hb3 hb4 HP5 HP c0 c1 c2 x0 x1 x2 HBX HST
        go_wp2
        obtain ⟨wo, hwo⟩ : ∃ wo, wo = wr := ⟨_, rfl⟩
        subst hwo
        go_loopw [9] (fun j wr => ∃ n m2 : Nat, j = .int .i64 n ∧ 1 ≤ n ∧ n ≤ r.k.size ∧ Hid (NewSt h g (k + 1) m2 r (rulesF (rs.take (k + 1))) (gF (rs.take k) r n) w wr) ∧ m2 ≤ 4 * k + n) (fun j _ => r.k.size - (intOf j).toNat)
        case atStart => exact ⟨1, m, rfl, Nat.le_refl _, by omega, by rw [gF_start]; exact HQ, by omega⟩
        case round =>
          obtain ⟨n, m2, rfl, hn1, hn2, hst, hm2⟩ := hrel
          by_cases hnk : n < r.k.size
          · have hxs : (r.k.extract 0 n).size ≤ 1048576 := by rw [ByteArray.size_extract]; omega
            obtain ⟨w6, hrun, hP6⟩ := hst.out.drew.put2 (x := r.k.extract 0 n) (by omega) hxs (.bool true)
            rw [gF_step _ _ hn1 hn2] at hP6
            have HP6 := Lib.hid hP6
            have hc1 := hst.out.cells.2.1
            have n0 : (0 : Int) ≤ n := by omega
            have n1 : (n : Int) ≤ r.k.size := by omega
            clear hP6
            go_wp2
            go_region
            go_wp2
            go_roundw
            case rel => exact ⟨n + 1, m2 + 1, by go_num, by omega, by omega, HP6, by omega⟩
            case measure => simp [intOf]; omega
          · have e1 := Lib.hid (hr2.out n (.inl (by omega)))
            have HL := Lib.hid hst.out.lp
            rw [e1.out] at HL
            go_wp2
            go_roundw
            case rel => exact ⟨k + 1, m2, by go_num, by omega, HL, by omega⟩
            case measure => simp [intOf]; omega
    · have e1 : rs.take k = rs := List.take_of_length_le (by omega)
      rw [e1] at hlp
      clear e1
      go_wp2
      go_ret2
      refine ⟨hlp.out.bel, .inr ⟨HC.out, h + 2, rfl, ⟨h, h + 1, _, _, hlp.out.auto, ?_, ?_, ?_, hlp.out.m1, hlp.out.m2⟩, Nat.le_trans hlp.out.hw (by omega)⟩⟩
      all_goals (have := hlp.out.gl; omega)

end Go.Proofs.Ytmbccolkgephgaa.Aut
