/-
  Contracts of the other functions that write parts, and of numeral.withUnits.
-/
import Derived.Test.YteelmjmiankflaaDoorNumC
set_option linter.unusedVariables false
set_option linter.unusedSimpArgs false
namespace Go.Proofs.YteelmjmiankflaaDoor.Num
open Go Go.RowKit Go.Proofs.YteelmjmiankflaaDoor.Kit Go.Proofs.YteelmjmiankflaaDoor.Utf

theorem tx_one (c : Int) : Utf8.encode c = tx [c] := by
  apply ba_ext
  show (Utf8.encode c).data.toList = bs (tx [c])
  rw [bs_tx]
  simp [encs, enc]

/-- What withUnits keeps: the function of its parts, and whether the group has been begun. -/
def UInv (FU : FuncId) (p g : Nat) (b : Bool) (W : World) : Prop :=
  W.heap[p]? = some (.cells #[.func (.func FU) #[] #[]] 48 (0, 0)) ∧ W.heap[g]? = some (.cells #[.bool b] 4 (0, 0))

theorem uinv_below {FU : FuncId} {p g n0 : Nat} {b : Bool} {W W' : World} (h : UInv FU p g b W) (hb : ∀ k, k < n0 → W'.heap[k]? = W.heap[k]?) (hp : p < n0) (hg : g < n0) : UInv FU p g b W' :=
  ⟨by rw [hb p hp]; exact h.1, by rw [hb g hg]; exact h.2⟩
theorem uinv_set {FU : FuncId} {p g : Nat} {b : Bool} {W : World} (h : UInv FU p g b W) (hne : p ≠ g) (b' : Bool) : UInv FU p g b' (W.setCell ⟨g, 0, none⟩ (.bool b')) := by
  refine ⟨?_, ?_⟩
  · rw [Below.heap_setCell _ _ _ _ (fun e => hne e)]; exact h.1
  · have := heap_setCell_same W g 0 #[.bool b] 4 (.bool b') h.2
    rw [this]; rfl

theorem len_kp : ∀ d, d ≤ 9 → ∀ u, u ≤ 3 → (encs (kp d u)).length ≤ 6 := by decide
theorem len_fp : ∀ d, d ≤ 9 → ∀ u, u ≤ 3 → (encs (fp d u)).length ≤ 6 := by decide

theorem unit_part (FU : FuncId) (h : Nat → Nat → List Int) (hU : Unit1 FU h) (eF : ∀ args w, (callFunc FU args).run Tryd.prog w = .ok (.enter FU args) w) (hl : ∀ d, d ≤ 9 → ∀ u, u ≤ 3 → (encs (h d u)).length ≤ 6) (B p g n0 : Nat) (hB : 5 + 1 ≤ B) (hp : B ≤ p) (hpn : p < n0) (hg : B ≤ g) (hgn : g < n0) (hpg : p ≠ g) :
    Parts 59 #[.pointer (some ⟨p, 0, none⟩), .pointer (some ⟨g, 0, none⟩)] (uo h) un B n0 (UInv FU p g) := by
  intro b d a x y W hx hy hd ha hn hL hI
  have hy0 : 0 ≤ y := by omega
  have hy19 : y ≤ 19 := by omega
  have c0 : W.cell? ⟨p, 0, none⟩ = some (.func (.func FU) #[] #[]) := by simp [World.cell?, hI.1]
  have c1 : W.cell? ⟨g, 0, none⟩ = some (.bool b) := by simp [World.cell?, hI.2]
  have f1 : W.frozen? ⟨g, 0, none⟩ = false := by simp [World.frozen?, hI.2]
  have cg : W.cell? ⟨5, (y / 4).toNat, none⟩ = some (.string (tx (gu (a / 4)))) := by rw [show (y / 4).toNat = a / 4 by omega]; exact hL.gu _ (by omega)
  have ya : 0 ≤ y / 4 := by omega
  have yb : y / 4 < 5 := by omega
  have ne1 : ¬ (5 = g) := by omega
  have HI := Lib.hid hI; clear hI
  have hkS : ∀ (W1 : World) (v : Value), (∀ k, n0 ≤ k → k < W.heap.size → W1.heap[k]? = W.heap[k]?) → ∀ k, n0 ≤ k → k < W.heap.size → (W1.setCell ⟨g, 0, none⟩ v).heap[k]? = W.heap[k]? := fun W1 v h k h1 h2 => by
    rw [Below.heap_setCell _ _ _ _ (fun e => by have : k = g := e; omega)]; exact h k h1 h2
  have HKS := Lib.hid hkS; clear hkS
  by_cases hd0 : d = 0
  · have e0 : (x != 0) = false := by simp; omega
    by_cases ha4 : a % 4 = 0
    · have e1 : ((y % 4 : Int) == 0) = true := by simp; omega
      cases b with
      | false =>
        have ho : uo h false d a = [] := by unfold uo; rw [if_pos hd0, if_neg (fun e => by rcases e.2 with e | e <;> simp_all)]; rfl
        have hn2 : un false d a = false := by unfold un; rw [if_pos ha4]
        rw [ho, hn2]
        clear ho hn2 hx hy
        go_enter Tryd.func59, Tryd.ntmps59
        go_wp2
        go_ret
        exact ⟨rfl, HI.out, Below.refl _ _, fun _ _ _ => rfl⟩
      | true =>
        have ho : uo h true d a = gu (a / 4) := by unfold uo; rw [if_pos hd0, if_pos ⟨ha4, .inl rfl⟩]; rfl
        have hn2 : un true d a = false := by unfold un; rw [if_pos ha4]
        have hadd : ∀ w, (Op.stringOp .add { data := #[] } (tx (gu (a / 4)))).run Tryd.prog w = .ok (.string (tx (gu (a / 4)))) w := fun w => by
          have := add_tx [] (gu (a / 4)) (by have := len_gu (a / 4) (by omega); have h0 : (encs ([] : List Int)).length = 0 := rfl; omega) w
          exact this
        rw [ho, hn2]
        clear ho hn2 hx hy
        go_enter Tryd.func59, Tryd.ntmps59
        go_wp2
        go_ret
        exact ⟨rfl, uinv_set HI.out hpg false, (Below.refl B W).setCell (p := ⟨g, 0, none⟩) hg _, HKS.out W _ (fun _ _ _ => rfl)⟩
    · have e1 : ((y % 4 : Int) == 0) = false := by simp; omega
      have ho : uo h b d a = [] := by unfold uo; rw [if_pos hd0, if_neg (fun e => ha4 e.1)]; rfl
      have hn2 : un b d a = b := by unfold un; rw [if_neg ha4, hd0]; cases b <;> rfl
      rw [ho, hn2]
      clear ho hn2 hx hy
      go_enter Tryd.func59, Tryd.ntmps59
      go_wp2
      go_ret
      exact ⟨rfl, HI.out, Below.refl _ _, fun _ _ _ => rfl⟩
  · have e0 : (x != 0) = true := by simp; omega
    have hCall := Lib.hid (hU d (a % 4) x (y % 4) W hx (by omega) (by omega) hd (by omega) hL)
    have hWL : ∀ W1, Below W.heap.size W W1 → UInv FU p g b W1 ∧ W1.cell? ⟨5, (y / 4).toNat, none⟩ = some (.string (tx (gu (a / 4)))) := fun W1 hb => by
      refine ⟨uinv_below HI.out (fun k hk => hb.block k hk) (show p < W.heap.size by omega) (by omega), ?_⟩
      rw [show (y / 4).toNat = a / 4 by omega]; exact (hL.next hb).gu _ (by omega)
    have HWL := Lib.hid hWL; clear hWL
    have hlh := hl d hd (a % 4) (by omega)
    by_cases ha4 : a % 4 = 0
    · have e1 : ((y % 4 : Int) == 0) = true := by simp; omega
      have ho : uo h b d a = h d (a % 4) ++ gu (a / 4) := by unfold uo; rw [if_neg hd0, if_pos ⟨ha4, .inr hd0⟩]
      have hn2 : un b d a = false := by unfold un; rw [if_pos ha4]
      have hadd := add_tx (h d (a % 4)) (gu (a / 4)) (by have := len_gu (a / 4) (by omega); omega)
      rw [ho, hn2]
      clear ho hn2 hx hy c1 f1 cg ha4
      go_enter Tryd.func59, Tryd.ntmps59
      go_wp2_with (refine hCall.out.mono ?_
                   rintro e w1 ⟨rfl, hb1⟩
                   obtain ⟨hI1, cg⟩ := HWL.out w1 hb1
                   have c1 : w1.cell? ⟨g, 0, none⟩ = some (.bool b) := by simp [World.cell?, hI1.2]
                   have f1 : w1.frozen? ⟨g, 0, none⟩ = false := by simp [World.frozen?, hI1.2]
                   have HI1 := Lib.hid hI1; clear hI1)
      go_ret
      exact ⟨rfl, uinv_set (uinv_set HI1.out hpg true) hpg false, ((hb1.mono (by omega)).setCell (p := ⟨g, 0, none⟩) hg _).setCell (p := ⟨g, 0, none⟩) hg _, HKS.out _ _ (HKS.out w1 _ (fun k _ h2 => hb1.block k h2))⟩
    · have e1 : ((y % 4 : Int) == 0) = false := by simp; omega
      have ho : uo h b d a = h d (a % 4) := by unfold uo; rw [if_neg hd0, if_neg (fun e => ha4 e.1), List.append_nil]
      have hn2 : un b d a = true := by unfold un; rw [if_neg ha4]; cases b <;> simp [hd0]
      rw [ho, hn2]
      clear ho hn2 hx hy c1 f1 cg
      go_enter Tryd.func59, Tryd.ntmps59
      go_wp2_with (refine hCall.out.mono ?_
                   rintro e w1 ⟨rfl, hb1⟩
                   obtain ⟨hI1, cg⟩ := HWL.out w1 hb1
                   have c1 : w1.cell? ⟨g, 0, none⟩ = some (.bool b) := by simp [World.cell?, hI1.2]
                   have f1 : w1.frozen? ⟨g, 0, none⟩ = false := by simp [World.frozen?, hI1.2]
                   have HI1 := Lib.hid hI1; clear hI1)
      go_ret
      exact ⟨rfl, uinv_set HI1.out hpg true, (hb1.mono (by omega)).setCell (p := ⟨g, 0, none⟩) hg _, HKS.out w1 _ (fun k _ h2 => hb1.block k h2)⟩

theorem heap_last (w : World) (o : Obj) : (w.alloc o).heap[w.heap.size]? = some o := by show (w.heap.push o)[w.heap.size]? = _; simp

/-- What the writers return. -/
def wOut (f : List Nat → List Int) (s : ByteArray) : ByteArray := if isDec s then tx (f (ofDg s)) else { data := #[] }
theorem wOut_dg (f : List Nat → List Int) {ds : List Nat} (h : DS ds) : wOut f (dg ds) = tx (f ds) := by unfold wOut; rw [isDec_dg h, ofDg_dg ds h.2.2.1]; rfl
theorem wOut_bad (f : List Nat → List Int) {s : ByteArray} (h : isDec s = false) : wOut f s = { data := #[] } := by unfold wOut; rw [h]; rfl

theorem dg_zero : dg [0] = { data := #[48] } := rfl
theorem isDec_zero : isDec { data := #[48] } = true := by decide

theorem withUnits_any (FU : FuncId) (h : Nat → Nat → List Int) (hU : Unit1 FU h) (eF : ∀ args w, (callFunc FU args).run Tryd.prog w = .ok (.enter FU args) w) (hl : ∀ d, d ≤ 9 → ∀ u, u ≤ 3 → (encs (h d u)).length ≤ 6)
    (s : ByteArray) (w : World) (hs : s.size ≤ maxLen) (hL : Laid w) :
    Calls Tryd.prog 49 #[.string s, .func (.func FU) #[] #[]] w fun e w' => e = .returned (.tuple #[.string (wOut (fun ds => if ds = [0] then [38646] else units h false ds) s), .bool (isDec s)]) ∧ Below w.heap.size w w' := by
  by_cases hz : s = { data := #[48] }
  · subst hz
    have e1 : wOut (fun ds => if ds = [0] then [38646] else units h false ds) { data := #[48] } = { data := #[233, 155, 182] } := by
      have := wOut_dg (fun ds => if ds = [0] then [38646] else units h false ds) (show DS [0] by decide)
      rw [dg_zero] at this
      rw [this, if_pos rfl]; decide
    rw [e1, isDec_zero]
    clear e1
    go_enter Tryd.func49, Tryd.ntmps49
    go_wp2
    go_ret2
    exact ⟨rfl, (Below.refl _ w).alloc (Nat.le_refl _) _⟩
  · have ne : (s.toList == ({ data := #[48] } : ByteArray).toList) = false := by
      rw [ByteArray.toList_eq, ByteArray.toList_eq]
      simp only [beq_eq_false_iff_ne]
      intro e; exact hz (ba_ext e)
    have ne' := ne
    rw [ByteArray.toList_eq (bs := { data := #[48] })] at ne'
    have hbw : Below w.heap.size w ((w.alloc (.cells #[.func (.func FU) #[] #[]] 48)).alloc (.cells #[.bool false] 4)) := ((Below.refl _ w).alloc (Nat.le_refl _) _).alloc (by simp) _
    have hLw := hL.next hbw
    have h5 := hL.size
    have hI0 : UInv FU w.heap.size (w.heap.size + 1) false ((w.alloc (.cells #[.func (.func FU) #[] #[]] 48)).alloc (.cells #[.bool false] 4)) := by
      refine ⟨?_, ?_⟩
      · rw [Lib.alloc_old _ _ _ (by simp)]
        show (w.heap.push _)[w.heap.size]? = _; simp
      · have e : (w.alloc (.cells #[.func (.func FU) #[] #[]] 48)).heap.size = w.heap.size + 1 := by simp
        have := heap_last (w.alloc (.cells #[.func (.func FU) #[] #[]] 48)) (.cells #[.bool false] 4)
        rw [e] at this
        exact this
    have hsz : ((w.alloc (.cells #[.func (.func FU) #[] #[]] 48)).alloc (.cells #[.bool false] 4)).heap.size = w.heap.size + 2 := by simp
    obtain ⟨W, hW⟩ : ∃ W, (w.alloc (.cells #[.func (.func FU) #[] #[]] 48)).alloc (.cells #[.bool false] 4) = W := ⟨_, rfl⟩
    rw [hW] at hbw hLw hI0 hsz
    have HW := Lib.hid hW; clear hW
    cases hd : isDec s with
    | false =>
      have HB := Lib.hid (fun fv => writeEach_bad s fv W hs hd)
      rw [wOut_bad _ hd]
      clear hd hz hI0 hLw hsz
      go_enter Tryd.func49, Tryd.ntmps49
      go_wp2_with (go_at_call 58; rw [HW.out]; refine (HB.out _).mono ?_; rintro e w1 ⟨rfl, hb1⟩)
      go_ret2
      exact ⟨rfl, hbw.trans (hb1.mono hbw.size)⟩
    | true =>
      obtain ⟨hds, hsd⟩ := (isDec_iff s).1 hd
      obtain ⟨ds, hde⟩ : ∃ ds, ofDg s = ds := ⟨_, rfl⟩
      rw [hde] at hds hsd
      have hnz : ds ≠ [0] := fun e => hz (by rw [hsd, e]; rfl)
      have ew : wOut (fun ds => if ds = [0] then [38646] else units h false ds) s = tx (units h false ds) := by
        rw [hsd, wOut_dg _ hds, if_neg hnz]
      have HG := Lib.hid (writeEach_good ds s 59 #[.pointer (some ⟨w.heap.size, 0, none⟩), .pointer (some ⟨w.heap.size + 1, 0, none⟩)] (uo h) un w.heap.size (UInv FU w.heap.size (w.heap.size + 1)) W hds hsd (fun _ _ => by kernel_rfl) hbw.size h5 hLw hI0
        (fun b W1 W2 hi hb _ => uinv_below hi (fun k hk => hb.block k hk) (show w.heap.size < W.heap.size by omega) (by omega))
        (unit_part FU h hU eF hl w.heap.size w.heap.size (w.heap.size + 1) W.heap.size h5 (Nat.le_refl _) (by omega) (by omega) (by omega) (by omega))
        (fun b d a h9 h19 => by
          have h1 := hl d h9 (a % 4) (by omega)
          have h2 := len_gu (a / 4) (by omega)
          have h0 : (encs ([] : List Int)).length = 0 := rfl
          unfold uo
          rw [encs_append, List.length_append]
          split <;> split <;> omega))
      rw [ew]
      clear hd hz hI0 hLw hsz hds hsd hde hnz ew
      go_enter Tryd.func49, Tryd.ntmps49
      go_wp2_with (go_at_call 58; rw [HW.out]; refine HG.out.mono ?_; rintro e w1 ⟨rfl, hb1⟩)
      go_ret2
      exact ⟨rfl, hbw.trans hb1⟩

end Go.Proofs.YteelmjmiankflaaDoor.Num
