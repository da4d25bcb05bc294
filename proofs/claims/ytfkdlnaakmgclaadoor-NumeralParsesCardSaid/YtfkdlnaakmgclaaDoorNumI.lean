/-
  Contract of numeral.readUnits.
-/
import Derived.Test.YtfkdlnaakmgclaaDoorNumH
set_option linter.unusedVariables false
set_option linter.unusedSimpArgs false
namespace Go.Proofs.YtfkdlnaakmgclaaDoor.Num
open Go Go.RowKit Go.Proofs.YtfkdlnaakmgclaaDoor.Kit Go.Proofs.YtfkdlnaakmgclaaDoor.Utf

theorem run_snoc {s0 s s' : St} {pre : List Int} {c : Int} (h : run s0 pre = some s) (hs : step s c = some s') : run s0 (pre ++ [c]) = some s' := by
  rw [run_append, h]; simp only []; rw [run_one]; exact hs
theorem run_none {s0 s : St} {pre : List Int} {c : Int} (t : List Int) (h : run s0 pre = some s) (hs : step s c = none) : run s0 (pre ++ c :: t) = none := by
  rw [run_append, h]; simp only []; rw [run_cons, hs]

/-- All digits are digits. -/
def Bnd (s : St) : Prop := (∀ i, s.1 i ≤ 9) ∧ (∀ i, s.2.1 i ≤ 9) ∧ s.2.2 ≤ 9
theorem bnd_end {s : St} (h : Bnd s) (p : Nat) : Bnd (endG s p) := by
  refine ⟨fun i => ?_, fun _ => Nat.zero_le _, Nat.zero_le _⟩
  simp only [endG]
  split
  · split
    · exact h.2.2
    · exact h.2.1 _
  · exact h.1 _
theorem bnd_step {s s' : St} {c : Int} (h : Bnd s) (hs : step s c = some s') : Bnd s' := by
  unfold step at hs
  cases hd : dgt c with
  | some d =>
    rw [hd] at hs
    obtain rfl := Option.some.inj hs
    exact ⟨h.1, h.2.1, dgt_le hd⟩
  | none =>
    rw [hd] at hs
    simp only at hs
    cases hu : unt c with
    | some u =>
      rw [hu] at hs
      obtain rfl := Option.some.inj hs
      refine ⟨h.1, fun i => ?_, Nat.zero_le _⟩
      simp only
      split
      · have := h.2.2; omega
      · exact h.2.1 i
    | none =>
      rw [hu] at hs
      simp only at hs
      cases hg : grp c with
      | some p => rw [hg] at hs; obtain rfl := Option.some.inj hs; exact bnd_end h p
      | none => rw [hg] at hs; cases hs

theorem unitOf_some (c : Int) (hc : validRune c = true) (w : World) (hL : Laid w) (d : Nat) (h : unt c = some d) :
    Calls Tryd.prog 57 #[.int .i32 c] w fun e w' => e = .returned (.tuple #[.int .i64 (d : Nat), .bool true]) ∧ w' = w := by
  have := unitOf_any c hc w hL
  rw [h] at this
  exact this
theorem unitOf_none (c : Int) (hc : validRune c = true) (w : World) (hL : Laid w) (h : unt c = none) :
    Calls Tryd.prog 57 #[.int .i32 c] w fun e w' => e = .returned (.tuple #[.int .i64 0, .bool false]) ∧ w' = w := by
  have := unitOf_any c hc w hL
  rw [h] at this
  exact this
theorem groupOf_some (c : Int) (hc : validRune c = true) (w : World) (hL : Laid w) (d : Nat) (h : grp c = some d) :
    Calls Tryd.prog 58 #[.int .i32 c] w fun e w' => e = .returned (.tuple #[.int .i64 (d : Nat), .bool true]) ∧ w' = w := by
  have := groupOf_any c hc w hL
  rw [h] at this
  exact this
theorem groupOf_none (c : Int) (hc : validRune c = true) (w : World) (hL : Laid w) (h : grp c = none) :
    Calls Tryd.prog 58 #[.int .i32 c] w fun e w' => e = .returned (.tuple #[.int .i64 0, .bool false]) ∧ w' = w := by
  have := groupOf_any c hc w hL
  rw [h] at this
  exact this

theorem RU.keep {s : St} {n : Nat} {W W' : World} (h : RU s n W) (hk : ∀ k, k < n + 3 → W'.heap[k]? = W.heap[k]?) : RU s n W' :=
  ⟨by rw [hk n (by omega)]; exact h.1, by rw [hk (n + 1) (by omega)]; exact h.2.1, by rw [hk (n + 2) (by omega)]; exact h.2.2⟩
theorem RU.digit {num gp : Nat → Nat} {dig n : Nat} {W : World} (h : RU (num, gp, dig) n W) (d : Nat) : RU (num, gp, d) n (W.setCell ⟨n + 2, 0, none⟩ (.int .i64 d)) := by
  refine ⟨?_, ?_, ?_⟩
  · refine Eq.trans (Below.heap_setCell _ _ _ _ (fun e => by have : n = n + 2 := e; omega)) h.1
  · refine Eq.trans (Below.heap_setCell _ _ _ _ (fun e => by have : n + 1 = n + 2 := e; omega)) h.2.1
  · exact (heap_setCell_same W (n + 2) 0 _ _ (.int .i64 d) h.2.2).trans rfl
theorem grpA_set (f : Nat → Nat) (u v : Nat) (hu : u < 4) : (grpA f).setIfInBounds u (.int .i64 v) = grpA (fun i => if i = u then v else f i) := by
  have : u = 0 ∨ u = 1 ∨ u = 2 ∨ u = 3 := by omega
  rcases this with rfl | rfl | rfl | rfl <;> rfl
theorem RU.unit {num gp : Nat → Nat} {dig n : Nat} {W : World} (h : RU (num, gp, dig) n W) (u v : Nat) (hu : u < 4) : RU (num, (fun i => if i = u then v else gp i), dig) n (W.setCell ⟨n + 1, u, none⟩ (.int .i64 v)) := by
  refine ⟨?_, ?_, ?_⟩
  · refine Eq.trans (Below.heap_setCell _ _ _ _ (fun e => by have : n = n + 1 := e; omega)) h.1
  · rw [heap_setCell_same W (n + 1) u _ _ (.int .i64 v) h.2.1, grpA_set gp u v hu]
  · refine Eq.trans (Below.heap_setCell _ _ _ _ (fun e => by have : n + 2 = n + 1 := e; omega)) h.2.2
theorem grpA_get (f : Nat → Nat) (u : Nat) (hu : u < 4) : (grpA f)[u]? = some (.int .i64 (f u)) := by
  have : u = 0 ∨ u = 1 ∨ u = 2 ∨ u = 3 := by omega
  rcases this with rfl | rfl | rfl | rfl <;> rfl
theorem numA_get (f : Nat → Nat) (k : Nat) (hk : k < 20) : (numA f)[k]? = some (.int .i64 (f k)) := by
  have : ∀ k, k < 20 → (numA f)[k]? = some (.int .i64 (f k)) := by
    intro k hk
    match k, hk with
    | 0, _ => rfl
    | 1, _ => rfl
    | 2, _ => rfl
    | 3, _ => rfl
    | 4, _ => rfl
    | 5, _ => rfl
    | 6, _ => rfl
    | 7, _ => rfl
    | 8, _ => rfl
    | 9, _ => rfl
    | 10, _ => rfl
    | 11, _ => rfl
    | 12, _ => rfl
    | 13, _ => rfl
    | 14, _ => rfl
    | 15, _ => rfl
    | 16, _ => rfl
    | 17, _ => rfl
    | 18, _ => rfl
    | 19, _ => rfl
    | k + 20, hk => omega
  exact this k hk

theorem info_num : (Tryd.prog.info? 59).map (·.size) = some 20 := by kernel_rfl

theorem run_index_num (F : Nat → Nat) (k : Nat) (hk : k < 20) (w : World) : (Instr.index 59 (.agg (numA F)) (.int .i64 k)).run Tryd.prog w = .ok (.int .i64 (F k)) w := by
  have hu := run_underlying (P := Tryd.prog) Tryd.underlying59
  have hg := numA_get F k hk
  have h1 : (k : Int) < 20 := by omega
  have hs := Tryd.sizeOf3
  have ha := Tryd.isAgg3
  simp [Instr.index, hu, asIntOf, go_sem, h1, hg, hs, ha]
  intro h; omega

theorem dg_cons (d : Nat) (l : List Nat) (h : d ≤ 9) : tx [48 + (d : Int)] ++ dg l = dg (d :: l) := by
  apply ba_ext
  show (tx [48 + (d : Int)] ++ dg l).data.toList = bs (dg (d :: l))
  rw [bs_dg, ByteArray.data_append, Array.toList_append]
  show bs (tx [48 + (d : Int)]) ++ bs (dg l) = _
  rw [bs_tx, bs_dg, encs_cons, dg_enc d h]; rfl
theorem trim_dg (l : List Nat) (h : ∀ d ∈ l, d ≤ 9) : (⟨(Lib.trimLeftB (dg l).data.toList 48).toArray⟩ : ByteArray) = dg (strip l) := by
  apply ba_ext
  show Lib.trimLeftB (bs (dg l)) 48 = bs (dg (strip l))
  rw [bs_dg, bs_dg]
  unfold Lib.trimLeftB strip
  induction l with
  | nil => rfl
  | cons d l ih =>
    have hd := h d (by simp)
    rw [List.map_cons, List.dropWhile_cons, List.dropWhile_cons]
    by_cases e : d = 0
    · subst e
      rw [if_pos (by rfl), if_pos (by rfl)]
      exact ih (fun x hx => h x (by simp [hx]))
    · have e1 : (UInt8.ofNat (48 + d) == 48) = false := by
        rw [beq_eq_false_iff_ne]
        intro e2
        have := congrArg UInt8.toNat e2
        rw [toNat_ofNat _ (by omega)] at this
        have h48 : (48 : UInt8).toNat = 48 := rfl
        omega
      rw [if_neg (by rw [e1]; simp), if_neg (by simpa using e)]; rfl
theorem big_rev (f : Nat → Nat) : ((List.range 20).map f).reverse = big f := rfl
theorem tx_48 : tx [48] = { data := #[48] } := by decide

set_option maxRecDepth 100000 in
theorem readUnits_any (s : ByteArray) (w : World) (hs : s.size ≤ 140737488355000) (hL : Laid w) :
    Calls Tryd.prog 41 #[.string s] w fun e w' => e = .returned (.string (rdOut readU s)) ∧ Below w.heap.size w w' := by
  go_enter Tryd.func41, Tryd.ntmps41
  go_wp2
  obtain ⟨b, hbd⟩ : ∃ b, w.heap.size = b := ⟨_, rfl⟩
  have hb0 : Below w.heap.size w ((((w.alloc (.cells #[.int .i64 0, .int .i64 0, .int .i64 0, .int .i64 0, .int .i64 0, .int .i64 0, .int .i64 0, .int .i64 0, .int .i64 0, .int .i64 0, .int .i64 0, .int .i64 0, .int .i64 0, .int .i64 0, .int .i64 0, .int .i64 0, .int .i64 0, .int .i64 0, .int .i64 0, .int .i64 0] 59)).alloc (.cells #[.int .i64 0, .int .i64 0, .int .i64 0, .int .i64 0] 60)).alloc (.cells #[.int .i64 0] 3)).iter s 0) :=
    ((((Below.refl _ w).alloc (Nat.le_refl _) _).alloc (by simp) _).alloc (by simp <;> omega) _).alloc (by simp <;> omega) _
  have hit0 : ((((w.alloc (.cells #[.int .i64 0, .int .i64 0, .int .i64 0, .int .i64 0, .int .i64 0, .int .i64 0, .int .i64 0, .int .i64 0, .int .i64 0, .int .i64 0, .int .i64 0, .int .i64 0, .int .i64 0, .int .i64 0, .int .i64 0, .int .i64 0, .int .i64 0, .int .i64 0, .int .i64 0, .int .i64 0] 59)).alloc (.cells #[.int .i64 0, .int .i64 0, .int .i64 0, .int .i64 0] 60)).alloc (.cells #[.int .i64 0] 3)).iter s 0).heap[b + 3]? = some (.stringIter s 0) := by
    have := World.iter_heap (((w.alloc (.cells #[.int .i64 0, .int .i64 0, .int .i64 0, .int .i64 0, .int .i64 0, .int .i64 0, .int .i64 0, .int .i64 0, .int .i64 0, .int .i64 0, .int .i64 0, .int .i64 0, .int .i64 0, .int .i64 0, .int .i64 0, .int .i64 0, .int .i64 0, .int .i64 0, .int .i64 0, .int .i64 0] 59)).alloc (.cells #[.int .i64 0, .int .i64 0, .int .i64 0, .int .i64 0] 60)).alloc (.cells #[.int .i64 0] 3)) s 0
    rw [show (((w.alloc (.cells #[.int .i64 0, .int .i64 0, .int .i64 0, .int .i64 0, .int .i64 0, .int .i64 0, .int .i64 0, .int .i64 0, .int .i64 0, .int .i64 0, .int .i64 0, .int .i64 0, .int .i64 0, .int .i64 0, .int .i64 0, .int .i64 0, .int .i64 0, .int .i64 0, .int .i64 0, .int .i64 0] 59)).alloc (.cells #[.int .i64 0, .int .i64 0, .int .i64 0, .int .i64 0] 60)).alloc (.cells #[.int .i64 0] 3)).heap.size = b + 3 by simp <;> omega] at this
    exact this
  have hR0 : RU st0 b ((((w.alloc (.cells #[.int .i64 0, .int .i64 0, .int .i64 0, .int .i64 0, .int .i64 0, .int .i64 0, .int .i64 0, .int .i64 0, .int .i64 0, .int .i64 0, .int .i64 0, .int .i64 0, .int .i64 0, .int .i64 0, .int .i64 0, .int .i64 0, .int .i64 0, .int .i64 0, .int .i64 0, .int .i64 0] 59)).alloc (.cells #[.int .i64 0, .int .i64 0, .int .i64 0, .int .i64 0] 60)).alloc (.cells #[.int .i64 0] 3)).iter s 0) := by
    have a1 := heap_last w (.cells #[.int .i64 0, .int .i64 0, .int .i64 0, .int .i64 0, .int .i64 0, .int .i64 0, .int .i64 0, .int .i64 0, .int .i64 0, .int .i64 0, .int .i64 0, .int .i64 0, .int .i64 0, .int .i64 0, .int .i64 0, .int .i64 0, .int .i64 0, .int .i64 0, .int .i64 0, .int .i64 0] 59)
    have a2 := heap_last (w.alloc (.cells #[.int .i64 0, .int .i64 0, .int .i64 0, .int .i64 0, .int .i64 0, .int .i64 0, .int .i64 0, .int .i64 0, .int .i64 0, .int .i64 0, .int .i64 0, .int .i64 0, .int .i64 0, .int .i64 0, .int .i64 0, .int .i64 0, .int .i64 0, .int .i64 0, .int .i64 0, .int .i64 0] 59)) (.cells #[.int .i64 0, .int .i64 0, .int .i64 0, .int .i64 0] 60)
    have a3 := heap_last ((w.alloc (.cells #[.int .i64 0, .int .i64 0, .int .i64 0, .int .i64 0, .int .i64 0, .int .i64 0, .int .i64 0, .int .i64 0, .int .i64 0, .int .i64 0, .int .i64 0, .int .i64 0, .int .i64 0, .int .i64 0, .int .i64 0, .int .i64 0, .int .i64 0, .int .i64 0, .int .i64 0, .int .i64 0] 59)).alloc (.cells #[.int .i64 0, .int .i64 0, .int .i64 0, .int .i64 0] 60)) (.cells #[.int .i64 0] 3)
    rw [show (w.alloc (.cells #[.int .i64 0, .int .i64 0, .int .i64 0, .int .i64 0, .int .i64 0, .int .i64 0, .int .i64 0, .int .i64 0, .int .i64 0, .int .i64 0, .int .i64 0, .int .i64 0, .int .i64 0, .int .i64 0, .int .i64 0, .int .i64 0, .int .i64 0, .int .i64 0, .int .i64 0, .int .i64 0] 59)).heap.size = b + 1 by simp <;> omega] at a2
    rw [show ((w.alloc (.cells #[.int .i64 0, .int .i64 0, .int .i64 0, .int .i64 0, .int .i64 0, .int .i64 0, .int .i64 0, .int .i64 0, .int .i64 0, .int .i64 0, .int .i64 0, .int .i64 0, .int .i64 0, .int .i64 0, .int .i64 0, .int .i64 0, .int .i64 0, .int .i64 0, .int .i64 0, .int .i64 0] 59)).alloc (.cells #[.int .i64 0, .int .i64 0, .int .i64 0, .int .i64 0] 60)).heap.size = b + 2 by simp <;> omega] at a3
    rw [hbd] at a1
    refine ⟨?_, ?_, ?_⟩
    · refine Eq.trans (Lib.alloc_old _ _ b (by simp [hbd] <;> omega)) ?_
      refine Eq.trans (Lib.alloc_old _ _ b (by simp [hbd] <;> omega)) ?_
      refine Eq.trans (Lib.alloc_old _ _ b (by simp [hbd] <;> omega)) ?_
      exact a1
    · refine Eq.trans (Lib.alloc_old _ _ (b + 1) (by simp [hbd] <;> omega)) ?_
      refine Eq.trans (Lib.alloc_old _ _ (b + 1) (by simp [hbd] <;> omega)) ?_
      exact a2
    · refine Eq.trans (Lib.alloc_old _ _ (b + 2) (by simp [hbd] <;> omega)) ?_
      exact a3
  have hs0 : b + 4 ≤ ((((w.alloc (.cells #[.int .i64 0, .int .i64 0, .int .i64 0, .int .i64 0, .int .i64 0, .int .i64 0, .int .i64 0, .int .i64 0, .int .i64 0, .int .i64 0, .int .i64 0, .int .i64 0, .int .i64 0, .int .i64 0, .int .i64 0, .int .i64 0, .int .i64 0, .int .i64 0, .int .i64 0, .int .i64 0] 59)).alloc (.cells #[.int .i64 0, .int .i64 0, .int .i64 0, .int .i64 0] 60)).alloc (.cells #[.int .i64 0] 3)).iter s 0).heap.size := by simp [World.iter, hbd]
  have h5 := hL.size
  rw [hbd] at hb0 h5 ⊢
  obtain ⟨W, hW⟩ : ∃ W, (((w.alloc (.cells #[.int .i64 0, .int .i64 0, .int .i64 0, .int .i64 0, .int .i64 0, .int .i64 0, .int .i64 0, .int .i64 0, .int .i64 0, .int .i64 0, .int .i64 0, .int .i64 0, .int .i64 0, .int .i64 0, .int .i64 0, .int .i64 0, .int .i64 0, .int .i64 0, .int .i64 0, .int .i64 0] 59)).alloc (.cells #[.int .i64 0, .int .i64 0, .int .i64 0, .int .i64 0] 60)).alloc (.cells #[.int .i64 0] 3)).iter s 0 = W := ⟨_, rfl⟩
  rw [hW] at hb0 hit0 hR0 hs0 ⊢
  have HBD := Lib.hid hbd
  clear hW hbd
  simp only [Nat.add_assoc, Nat.reduceAdd]
  have hchs := Lib.hid (map_nil (chars (bs s)))
  go_loopw [8, 9, 10, 11, 12, 13, 14] (fun _ _ _ _ _ _ _ wr => ∃ (pos : Nat) (pre : List Int) (num gp : Nat → Nat) (dig : Nat), Hid (RU (num, gp, dig) b wr) ∧ wr.heap[b + 3]? = some (.stringIter s pos) ∧ Below b w wr ∧ pos ≤ s.size ∧ pre.length ≤ pos ∧ b + 4 ≤ wr.heap.size ∧ Hid (Bnd (num, gp, dig)) ∧ Hid (run st0 pre = some (num, gp, dig)) ∧ Hid (chars (bs s) = (chars ((bs s).drop pos)).map (pre ++ ·))) (fun _ _ _ _ _ _ _ wr => s.size - wr.iterPos (b + 3))
  case atStart => exact ⟨0, [], _, _, _, Lib.hid hR0, hit0, hb0, Nat.zero_le _, Nat.le_refl _, hs0, Lib.hid ⟨fun _ => Nat.zero_le _, fun _ => Nat.zero_le _, Nat.zero_le _⟩, Lib.hid rfl, Lib.hid (by rw [List.drop_zero]; exact hchs.out)⟩
  case round =>
    obtain ⟨pos, pre, num, gp, dig, hR, hit, hb, hps, hpl, hsw, hbn, hru, hch⟩ := hrel
    have hm := iterPos_of hit
    by_cases hp : pos < s.size
    · obtain ⟨c, n, hdec, hv, hn1, hcase⟩ : ∃ (c : Int) (n : Nat), Utf8.decode s pos = (c.toNat, n) ∧ validRune c = true ∧ pos + n ≤ s.size ∧ ((1 ≤ n ∧ dec1 ((bs s).drop pos) = some (c, n)) ∨ (step (num, gp, dig) c = none ∧ chars (bs s) = none)) := by
        cases hd : dec1 ((bs s).drop pos) with
        | none => exact ⟨65533, 1, by rw [dec_bad hp hd]; rfl, bad_mark.1, by omega, .inr ⟨by unfold step; rw [bad_mark.2.1, bad_mark.2.2.1, bad_mark.2.2.2], by rw [hch.out, chars_bad (drop_ne hp) hd]; rfl⟩⟩
        | some p =>
          obtain ⟨c, n⟩ := p
          have hdp := dec1_pos hd
          rw [List.length_drop, bs_len] at hdp
          exact ⟨c, n, dec_good hp hd, (dec1_some hd).1, by omega, .inl ⟨hdp.1, rfl⟩⟩
      have hc0 : 0 ≤ c := by have := (valid_iff c).1 hv; omega
      have hnx : ∀ ty, (Instr.next (.pointer (some ⟨b + 3, 0, none⟩)) true ty).run Tryd.prog wr = .ok (.tuple #[.bool true, .int .i64 pos, .int .i32 c]) (wr.iterAt (b + 3) s (pos + n)) := fun ty => by
        have := Lib.run_next_any_at (P := Tryd.prog) wr (b + 3) s pos ty hit hp
        rw [hdec] at this
        simp only [Int.toNat_of_nonneg hc0] at this
        exact this
      have hit4 := Lib.iterAt_heap wr (b + 3) s pos (pos + n) hit
      have hb4 := Lib.below_iterAt hb (k := b + 3) (by omega) s (pos + n)
      have hR4 := Lib.hid (hR.out.keep (fun k hk => Lib.iterAt_other wr (b + 3) k s (pos + n) (by omega)))
      have hsw4 : b + 4 ≤ (wr.iterAt (b + 3) s (pos + n)).heap.size := by rw [Lib.iterAt_size]; exact hsw
      obtain ⟨W4, hW4⟩ : ∃ W4, wr.iterAt (b + 3) s (pos + n) = W4 := ⟨_, rfl⟩
      rw [hW4] at hit4 hb4 hR4 hsw4
      simp only [hW4] at hnx
      have HL4 := Lib.hid (hL.below hb4 h5)
      have HV := Lib.hid hv
      have c2 : W4.cell? ⟨b + 2, 0, none⟩ = some (.int .i64 dig) := by simp [World.cell?, hR4.out.2.2]
      have f2 : W4.frozen? ⟨b + 2, 0, none⟩ = false := by simp [World.frozen?, hR4.out.2.2]
      have hnext : ∀ s', step (num, gp, dig) c = some s' → 1 ≤ n ∧ Hid (run st0 (pre ++ [c]) = some s') ∧ Hid (Bnd s') ∧ Hid (chars (bs s) = (chars ((bs s).drop (pos + n))).map ((pre ++ [c]) ++ ·)) := fun s' h => by
        rcases hcase with ⟨h1, hd⟩ | ⟨hn, _⟩
        · exact ⟨h1, Lib.hid (run_snoc hru.out h), Lib.hid (bnd_step hbn.out h), Lib.hid (runes_len hch.out hd)⟩
        · rw [hn] at h; cases h
      have hbad : step (num, gp, dig) c = none → rdOut readU s = { data := #[] } := fun h => rdOut_bad fun cs hcs => by
        rcases hcase with ⟨_, hd⟩ | ⟨_, hn⟩
        · obtain ⟨t, rfl⟩ := rest_of hch.out hd hcs
          unfold readU; rw [run_none t hru.out h]; rfl
        · rw [hn] at hcs; cases hcs
      clear hW4 hdec hb hit hv hsw hcase hR hR0 hit0 hb0 hs0 hc0 hbn hru hch
      cases hdg : dgt c with
      | some d =>
        have hst : step (num, gp, dig) c = some (num, gp, d) := by unfold step; rw [hdg]
        obtain ⟨hn0, hru2, hbn2, hch2⟩ := hnext _ hst
        have HD := Lib.hid (digitOf_some c HV.out W4 HL4.out d hdg)
        have HR5 := Lib.hid (hR4.out.digit d)
        have hit5 : (W4.setCell ⟨b + 2, 0, none⟩ (.int .i64 d)).heap[b + 3]? = some (.stringIter s (pos + n)) := Eq.trans (Below.heap_setCell _ _ _ _ (fun e => by have : b + 3 = b + 2 := e; omega)) hit4
        have hb5 := hb4.setCell (p := ⟨b + 2, 0, none⟩) (by show b ≤ b + 2; omega) (.int .i64 d)
        have hsz5 : b + 4 ≤ (W4.setCell ⟨b + 2, 0, none⟩ (.int .i64 d)).heap.size := by simpa [World.setCell] using hsw4
        clear hst hdg hnext hbad hit4 hb4
        go_wp2_with (go_at_call 55; refine HD.out.mono ?_; rintro e w' ⟨rfl, rfl⟩)
        go_roundw
        case rel => exact ⟨pos + n, pre ++ [c], num, gp, d, HR5, hit5, hb5, by omega, by simp; omega, hsz5, hbn2, hru2, hch2⟩
        case measure => rw [iterPos_of hit5, hm]; omega
      | none =>
        have HD := Lib.hid (digitOf_none c HV.out W4 HL4.out hdg)
        cases hut : unt c with
        | some u =>
          have hu4 := unt_lt hut
          have hst : step (num, gp, dig) c = some (num, (fun i => if i = u then max dig 1 else gp i), 0) := by unfold step; rw [hdg]; simp only [hut]
          obtain ⟨hn0, hru2, hbn2, hch2⟩ := hnext _ hst
          have HU := Lib.hid (unitOf_some c HV.out W4 HL4.out u hut)
          have cu : W4.cell? ⟨b + 1, u, none⟩ = some (.int .i64 (gp u)) := by simp [World.cell?, hR4.out.2.1]; exact grpA_get gp u hu4
          have fu : W4.frozen? ⟨b + 1, u, none⟩ = false := by simp [World.frozen?, hR4.out.2.1]
          have em : ((max dig 1 : Nat) : Int) = max (dig : Int) 1 := by omega
          have HR5 : Hid (RU (num, (fun i => if i = u then max dig 1 else gp i), 0) b ((W4.setCell ⟨b + 1, u, none⟩ (.int .i64 (max (dig : Int) 1))).setCell ⟨b + 2, 0, none⟩ (.int .i64 0))) := by
            have := (hR4.out.unit u (max dig 1) hu4).digit 0
            rw [em] at this
            exact Lib.hid this
          have hit5 : ((W4.setCell ⟨b + 1, u, none⟩ (.int .i64 (max (dig : Int) 1))).setCell ⟨b + 2, 0, none⟩ (.int .i64 0)).heap[b + 3]? = some (.stringIter s (pos + n)) := by
            refine Eq.trans (Below.heap_setCell _ _ _ _ (fun e => by have : b + 3 = b + 2 := e; omega)) ?_
            exact Eq.trans (Below.heap_setCell _ _ _ _ (fun e => by have : b + 3 = b + 1 := e; omega)) hit4
          have hb5 := (hb4.setCell (p := ⟨b + 1, u, none⟩) (by show b ≤ b + 1; omega) (.int .i64 (max (dig : Int) 1))).setCell (p := ⟨b + 2, 0, none⟩) (by show b ≤ b + 2; omega) (.int .i64 0)
          have hsz5 : b + 4 ≤ ((W4.setCell ⟨b + 1, u, none⟩ (.int .i64 (max (dig : Int) 1))).setCell ⟨b + 2, 0, none⟩ (.int .i64 0)).heap.size := by simpa [World.setCell] using hsw4
          clear hst hdg hut hnext hbad hit4 hb4 em
          go_wp2_with (first
            | (go_at_call 55; refine HD.out.mono ?_; rintro e w' ⟨rfl, rfl⟩)
            | (go_at_call 57; refine HU.out.mono ?_; rintro e w' ⟨rfl, rfl⟩))
          go_roundw
          case rel => exact ⟨pos + n, pre ++ [c], num, _, 0, HR5, hit5, hb5, by omega, by simp; omega, hsz5, hbn2, hru2, hch2⟩
          case measure => rw [iterPos_of hit5, hm]; omega
        | none =>
          have HU := Lib.hid (unitOf_none c HV.out W4 HL4.out hut)
          cases hgr : grp c with
          | some p =>
            have hp5 := grp_lt hgr
            have hst : step (num, gp, dig) c = some (endG (num, gp, dig) p) := by unfold step; rw [hdg]; simp only [hut, hgr]
            obtain ⟨hn0, hru2, hbn2, hch2⟩ := hnext _ hst
            have HG := Lib.hid (groupOf_some c HV.out W4 HL4.out p hgr)
            have HE := Lib.hid (endGroup_at (num, gp, dig) p b (by omega) W4 hR4.out)
            clear hst hdg hut hgr hnext hbad
            go_wp2_with (first
              | (go_at_call 55; refine HD.out.mono ?_; rintro e w' ⟨rfl, rfl⟩)
              | (go_at_call 57; refine HU.out.mono ?_; rintro e w' ⟨rfl, rfl⟩)
              | (go_at_call 58; refine HG.out.mono ?_; rintro e w' ⟨rfl, rfl⟩)
              | (refine HE.out.mono ?_; rintro e w6 ⟨rfl, hR6, hb6, hk6⟩))
            have hit6 : w6.heap[b + 3]? = some (.stringIter s (pos + n)) := by rw [hk6 (b + 3) (Nat.le_refl _)]; exact hit4
            have hb7 := hb4.trans hb6
            have hsz6 : b + 4 ≤ w6.heap.size := by have := hb6.size; omega
            have HR6 := Lib.hid hR6
            clear hk6 hR6
            go_roundw
            case rel => exact ⟨pos + n, pre ++ [c], _, _, _, HR6, hit6, hb7, by omega, by simp; omega, hsz6, hbn2, hru2, hch2⟩
            case measure => rw [iterPos_of hit6, hm]; omega
          | none =>
            have hst : step (num, gp, dig) c = none := by unfold step; rw [hdg]; simp only [hut, hgr]
            have HB := Lib.hid (hbad hst)
            have HG := Lib.hid (groupOf_none c HV.out W4 HL4.out hgr)
            clear hst hdg hut hgr hnext hbad
            go_wp2_with (first
              | (go_at_call 55; refine HD.out.mono ?_; rintro e w' ⟨rfl, rfl⟩)
              | (go_at_call 57; refine HU.out.mono ?_; rintro e w' ⟨rfl, rfl⟩)
              | (go_at_call 58; refine HG.out.mono ?_; rintro e w' ⟨rfl, rfl⟩))
            go_ret
            exact ⟨by rw [HB.out]; rfl, by rw [HBD.out]; exact hb4⟩
    · have hnx : ∀ ty, (Instr.next (.pointer (some ⟨b + 3, 0, none⟩)) true ty).run Tryd.prog wr = _ := fun ty => Lib.run_next_end_at (P := Tryd.prog) wr (b + 3) s pos ty hit hp
      have hall : chars (bs s) = some pre := by
        rw [hch.out, List.drop_of_length_le (by rw [bs_len]; omega), chars_nil]; simp
      obtain ⟨F, hF⟩ : ∃ F, (endG (num, gp, dig) 0).1 = F := ⟨_, rfl⟩
      have hF9 : ∀ i, F i ≤ 9 := by rw [← hF]; exact (bnd_end hbn.out 0).1
      have hres : rdOut readU s = dg (strip (big F)) := rdOut_good hall (by unfold readU; rw [hru.out]; simp only [Option.map_some, hF])
      have HRES := Lib.hid hres
      have HF9 := Lib.hid hF9
      have HE0 := endGroup_at (num, gp, dig) 0 b (by omega) wr hR.out
      have HE := Lib.hid (HE0.mono fun e w9 h => (⟨h.1, by rw [← hF]; exact h.2.1.1, h.2.2.1⟩ : e = .returned (.tuple #[]) ∧ w9.heap[b]? = some (.cells (numA F) 59 (0, 0)) ∧ Below b wr w9))
      clear hall hm hp hF hF9 hres HE0 hR hit hru hch hbn hR0 hit0 hb0 hs0 hchs
      go_wp2_with (first
        | (refine wpList_load_row rfl 59 (.tmp 3) rfl b rfl 59 (numA F) (0, 0) _ HN9.out Tryd.underlying59 rfl info_num ?_)
        | (refine HE.out.mono ?_
           rintro e w9 ⟨rfl, hN9, hb9⟩
           have HN9 := Lib.hid hN9
           clear hN9))
      have hb10 := hb.trans hb9
      have HL9 := Lib.hid (hL.below hb10 h5)
      clear hb hb9 HE HN9
      go_loopw [15, 17, 53] (fun dv _ i wr => ∃ k : Nat, i = .int .i64 k ∧ k ≤ 20 ∧ dv = Value.string (dg (((List.range k).map F).reverse)) ∧ wr = w9) (fun _ _ i _ => 20 - (intOf i).toNat)
      case atStart => exact ⟨0, rfl, by omega, rfl, rfl⟩
      case round =>
        obtain ⟨k, rfl, hk, rfl, rfl⟩ := hrel
        by_cases hk20 : k < 20
        · have hidx := fun w => run_index_num F k hk20 w
          have h9 := HF9.out k
          have HI := Lib.hid (itoa_digit (F k) (F k : Int) wr rfl h9)
          have hadd : ∀ w, (Op.stringOp .add (tx [48 + (F k : Int)]) (dg (((List.range k).map F).reverse))).run Tryd.prog w = .ok (.string (dg (F k :: ((List.range k).map F).reverse))) w := fun w => by
            rw [← dg_cons _ _ h9]
            exact run_string_add_sum (P := Tryd.prog) (w := w) _ _ (by rw [digit_size _ h9, dg_size]; simp; omega)
          have hsucc := Lib.hid (show ((List.range (k + 1)).map F).reverse = F k :: ((List.range k).map F).reverse by rw [List.range_succ, List.map_append, List.reverse_append]; rfl)
          clear h9
          go_wp2_with (go_at_call 39; refine HI.out.mono ?_; rintro e w' ⟨rfl, rfl⟩)
          go_roundw
          case rel => exact ⟨k + 1, by go_num, by omega, by rw [hsucc.out], trivial⟩
          case measure => simp [intOf]; omega
        · have : k = 20 := by omega
          subst this
          rw [big_rev]
          have ht := Tryd.strings_TrimLeft_one (dg (big F)) 48 (by decide) wr
          rw [trim_dg (big F) (fun d hd => by
            unfold big at hd
            obtain ⟨i, _, rfl⟩ := List.mem_map.1 hd
            exact HF9.out _)] at ht
          have HT := Lib.hid ht
          clear ht
          go_wp2_with (go_at_call 59; refine HT.out.mono ?_; rintro e w' ⟨rfl, rfl⟩)
          go_ret
          exact ⟨by rw [HRES.out]; rfl, by rw [HBD.out]; exact hb10⟩

end Go.Proofs.YtfkdlnaakmgclaaDoor.Num
