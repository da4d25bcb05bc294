/-
  Contracts of Select, of the function that it makes, and of sort.Search.
-/
import Derived.Test.YtffljcfpofhkgaaBvF
set_option linter.unusedVariables false
set_option linter.unusedSimpArgs false
set_option maxRecDepth 100000
namespace Go.Proofs.Ytffljcfpofhkgaa.Bv
open Go Go.RowKit Go.Proofs.Ytffljcfpofhkgaa.Kit

theorem VecAt.drewN {B0 B1 : Nat} {w : World} {p : Nat} {l : List Bool} (h : VecAt B0 B1 w p l) (m : Nat) : VecAt B0 B1 (w.drewN m) p l := h.later fun _ _ _ => rfl

theorem rank_q {B0 B1 : Nat} {l : List Bool} {p : Nat} {w : World} (h : VecAt B0 B1 w p l) (hl : l.length ≤ 1048576) (b : Bool) (i : Int) (m : Nat) :
    Calls Try.prog 69 #[.pointer (some ⟨p, 0, none⟩), .bool b, .int .i64 i] (w.drewN m) fun e w' => e = .returned (.int .i64 (rank l b i : Nat)) ∧ w' = w.drewN m :=
  (rank_any (h.drewN m) hl b i).mono fun e w' h => ⟨h.1, h.2.symm⟩

theorem more_any {B0 B1 : Nat} {l : List Bool} {p : Nat} {w : World} (h : VecAt B0 B1 w p l) (hl : l.length ≤ 1048576) (b : Bool) (k : Int) (g1 g2 g3 : Nat)
    (x1 : w.cell? ⟨g1, 0, none⟩ = some (.pointer (some ⟨p, 0, none⟩))) (x2 : w.cell? ⟨g2, 0, none⟩ = some (.bool b)) (x3 : w.cell? ⟨g3, 0, none⟩ = some (.int .i64 k)) (i : Int) (hi0 : 0 ≤ i) (hi : i ≤ 1048576) :
    Calls Try.prog 94 #[.int .i64 i, .pointer (some ⟨g1, 0, none⟩), .pointer (some ⟨g2, 0, none⟩), .pointer (some ⟨g3, 0, none⟩)] w fun e w' => e = .returned (.bool (decide (k < (rank l b (i + 1) : Int)))) ∧ Below w.heap.size w w' := by
  have HK := Lib.hid (fun m => rank_q h hl b (i + 1) m)
  obtain ⟨R, hR⟩ : ∃ R, rank l b (i + 1) = R := ⟨_, rfl⟩
  rw [hR] at HK ⊢
  have hi1 : (0 : Int) ≤ i + 1 := by omega
  have hw : IntKind.i64.wrap (i + 1) = i + 1 := by rw [IntKind.wrap_i64]; omega
  clear hR h hl
  go_enter Try.func94, Try.ntmps94
  go_wp2
  go_quiet (first | (go_at_call 69; with_reducible refine Calls.quiet_of_same (HK.out _)))
  go_wp2
  go_ret
  exact ⟨rfl, below_drewN (Below.refl _ _) _⟩

/-- Of a search: nothing below the place is found, and at the place it is, if that is not the end. -/
def Found (n : Nat) (p : Nat → Bool) (r : Nat) : Prop := r ≤ n ∧ (∀ t, t < r → p t = false) ∧ (r < n → p r = true)
def SearchPost (n : Nat) (p : Nat → Bool) (w : World) (e : Ending) (w' : World) : Prop := ∃ r : Nat, e = .returned (.int .i64 (r : Int)) ∧ Found n p r ∧ Below w.heap.size w w'

set_option maxHeartbeats 1000000 in
theorem search_any (n : Nat) (hn : n ≤ 1048576) (F : FuncId) (caps : Array Value) (p : Nat → Bool) (w : World) (eF : ∀ args w, (callFunc F args).run Try.prog w = .ok (.enter F args) w)
    (hm : ∀ i j, i ≤ j → p i = true → p j = true)
    (hF : ∀ W, Below w.heap.size w W → ∀ i : Nat, i < n → Calls Try.prog F (#[.int .i64 (i : Int)] ++ caps) W fun e W' => e = .returned (.bool (p i)) ∧ Below w.heap.size W W') :
    Calls Try.prog 93 #[.int .i64 (n : Int), .func (.func F) #[] caps] w (SearchPost n p w) := by
  have HM := Lib.hid hm
  have HF := Lib.hid hF
  clear hm hF
  have hp0 : Hid (∀ t, t < 0 → p t = false) := Lib.hid (fun t h => by omega)
  have hpn : Hid (∀ t, n ≤ t → t < n → p t = true) := Lib.hid (fun t h1 h2 => by omega)
  go_enter Try.func93, Try.ntmps93
  go_wp2
  go_loopw [5, 6] (fun x y wr => ∃ lo hi : Nat, x = .int .i64 lo ∧ y = .int .i64 hi ∧ lo ≤ hi ∧ hi ≤ n ∧ Hid (∀ t, t < lo → p t = false) ∧ Hid (∀ t, hi ≤ t → t < n → p t = true) ∧ Below w.heap.size w wr) (fun x y _ => (intOf y - intOf x).toNat)
  case atStart => exact ⟨0, n, rfl, rfl, Nat.zero_le _, Nat.le_refl _, hp0, hpn, Below.refl _ _⟩
  case round =>
    clear hp0 hpn
    obtain ⟨lo, hi, rfl, rfl, hlh, hin, hL, hH, hb⟩ := hrel
    by_cases hlt : lo < hi
    · obtain ⟨m, hm⟩ : ∃ m, (lo + hi) / 2 = m := ⟨_, rfl⟩
      have hmz : ((lo : Int) + (hi : Int)) / 2 = (m : Int) := by omega
      have h1 : lo ≤ m := by omega
      have h2 : m < hi := by omega
      have hC := HF.out _ hb m (by omega)
      have hwm : ((lo : Int) + (hi : Int)) % 18446744073709551616 = (lo : Int) + (hi : Int) := by omega
      cases hp : p m <;> rw [hp] at hC
      · have hL2 : Hid (∀ t, t < m + 1 → p t = false) := Lib.hid (fun t ht => by
          cases hq : p t with
          | false => rfl
          | true => rw [HM.out t m (by omega) hq] at hp; cases hp)
        have HC := Lib.hid hC
        clear hC hp hm hwm
        go_wp2_with (refine (HC.out).mono ?_; rintro e w5 ⟨rfl, hb5⟩)
        go_roundw
        case rel => exact ⟨m + 1, hi, by go_num, rfl, by omega, hin, hL2, hH, hb.trans (hb5.mono (Nat.le_refl _))⟩
        case measure => simp [intOf]; omega
      · have hH2 : Hid (∀ t, m ≤ t → t < n → p t = true) := Lib.hid (fun t ht _ => HM.out m t ht hp)
        have HC := Lib.hid hC
        clear hC hp hm hwm
        go_wp2_with (refine (HC.out).mono ?_; rintro e w5 ⟨rfl, hb5⟩)
        go_roundw
        case rel => exact ⟨lo, m, rfl, rfl, h1, by omega, hL, hH2, hb.trans (hb5.mono (Nat.le_refl _))⟩
        case measure => simp [intOf]; omega
    · obtain rfl : hi = lo := by omega
      go_wp2
      go_ret
      exact ⟨hi, rfl, ⟨hin, hL.out, fun h => hH.out hi (Nat.le_refl _) h⟩, hb⟩
/-! ### Select -/
theorem rank_next {l : List Bool} (b : Bool) {t : Nat} (h : t < l.length) : rank l b ((t : Int) + 1) = rk l b (t + 1) := by
  rw [show (t : Int) + 1 = ((t + 1 : Nat) : Int) by omega, rank_nat l b (by omega)]
theorem rank_mono (l : List Bool) (b : Bool) {i j : Int} (h : i ≤ j) : rank l b i ≤ rank l b j := by
  unfold rank; exact rk_mono l b (by omega)
/-- What Select answers behind its search. -/
theorem sel_search {l : List Bool} {b : Bool} {k : Int} {r : Nat} (h : Found l.length (fun i => decide (k < (rank l b ((i : Int) + 1) : Int))) r) :
    (k < 0 → sel l b k = -1) ∧ (0 ≤ k → r = l.length → sel l b k = -1) ∧ (0 ≤ k → r < l.length → sel l b k = (r : Int)) := by
  obtain ⟨h1, h2, h3⟩ := h
  refine ⟨fun hk => sel_neg hk, fun hk hr => sel_end fun t ht => ?_, fun hk hr => sel_found hk hr (fun t ht => ?_) ?_⟩
  · have := h2 t (by omega)
    rw [decide_eq_false_iff_not, rank_next b ht] at this
    omega
  · have := h2 t ht
    rw [decide_eq_false_iff_not, rank_next b (by omega)] at this
    omega
  · have := h3 hr
    rw [decide_eq_true_iff, rank_next b hr] at this
    exact this

set_option maxHeartbeats 1000000 in
theorem select_any {B0 B1 : Nat} {l : List Bool} {p : Nat} {w : World} (h : VecAt B0 B1 w p l) (hB : B1 ≤ w.heap.size) (hl : l.length ≤ 1048576) (b : Bool) (k : Int) :
    Calls Try.prog 75 #[.pointer (some ⟨p, 0, none⟩), .bool b, .int .i64 k] w fun e w' => e = .returned (.int .i64 (sel l b k)) ∧ Below w.heap.size w w' := by
  obtain ⟨W, hW⟩ : ∃ W, ((w.alloc (.cells #[.pointer (some ⟨p, 0, none⟩)] 71)).alloc (.cells #[.bool b] 4)).alloc (.cells #[.int .i64 k] 3) = W := ⟨_, rfl⟩
  have e0 : W.heap[w.heap.size]? = some (.cells #[.pointer (some ⟨p, 0, none⟩)] 71 (0, 0)) := by
    rw [← hW, Below.heap_alloc _ _ _ (by simp; omega), Below.heap_alloc _ _ _ (by simp)]; exact heap_alloc_new w _
  have e1 : W.heap[w.heap.size + 1]? = some (.cells #[.bool b] 4 (0, 0)) := by
    rw [← hW, Below.heap_alloc _ _ _ (by simp)]
    have := heap_alloc_new (w.alloc (.cells #[.pointer (some ⟨p, 0, none⟩)] 71)) (.cells #[.bool b] 4)
    rwa [World.size_alloc] at this
  have e2 : W.heap[w.heap.size + 1 + 1]? = some (.cells #[.int .i64 k] 3 (0, 0)) := by
    have := heap_alloc_new ((w.alloc (.cells #[.pointer (some ⟨p, 0, none⟩)] 71)).alloc (.cells #[.bool b] 4)) (.cells #[.int .i64 k] 3)
    rw [World.size_alloc, World.size_alloc] at this
    rw [← hW]; exact this
  have hbW : Below w.heap.size w W := by rw [← hW]; exact (((Below.refl _ w).alloc (Nat.le_refl _) _).alloc (by simp) _).alloc (by simp; omega) _
  have hWs : W.heap.size = w.heap.size + 3 := by rw [← hW]; simp
  have hv : VecAt B0 B1 W p l := h.below hbW hB
  have HE0 := Lib.hid e0
  have HE1 := Lib.hid e1
  have HE2 := Lib.hid e2
  have HV := Lib.hid hv
  have HBW := Lib.hid hbW
  have HWW := Lib.hid hW
  have HWS := Lib.hid hWs
  have HL := Lib.hid (len_any hv)
  have hmono : Hid (∀ i j : Nat, i ≤ j → (decide (k < (rank l b ((i : Int) + 1) : Int))) = true → (decide (k < (rank l b ((j : Int) + 1) : Int))) = true) := Lib.hid (fun i j hij hi => by
    rw [decide_eq_true_iff] at hi ⊢
    have := rank_mono l b (i := (i : Int) + 1) (j := (j : Int) + 1) (by omega)
    omega)
  have HS := Lib.hid (search_any l.length hl 94 #[.pointer (some ⟨w.heap.size, 0, none⟩), .pointer (some ⟨w.heap.size + 1, 0, none⟩), .pointer (some ⟨w.heap.size + 1 + 1, 0, none⟩)] (fun i => decide (k < (rank l b ((i : Int) + 1) : Int))) W (fun _ _ => by kernel_rfl) hmono.out (fun W' hW' i hi => by
    have hs := hW'.size
    have c0 : W'.cell? ⟨w.heap.size, 0, none⟩ = some (.pointer (some ⟨p, 0, none⟩)) := by rw [hW'.cell (p := ⟨w.heap.size, 0, none⟩) (by show w.heap.size < _; omega), cell_of_row W _ 0 _ _ _ e0]; rfl
    have c1 : W'.cell? ⟨w.heap.size + 1, 0, none⟩ = some (.bool b) := by rw [hW'.cell (p := ⟨w.heap.size + 1, 0, none⟩) (by show w.heap.size + 1 < _; omega), cell_of_row W _ 0 _ _ _ e1]; rfl
    have c2 : W'.cell? ⟨w.heap.size + 1 + 1, 0, none⟩ = some (.int .i64 k) := by rw [hW'.cell (p := ⟨w.heap.size + 1 + 1, 0, none⟩) (by show w.heap.size + 1 + 1 < _; omega), cell_of_row W _ 0 _ _ _ e2]; rfl
    exact (more_any (hv.below hW' (by omega)) hl b k _ _ _ c0 c1 c2 (i : Int) (by omega) (by omega)).mono fun e w2 h2 => ⟨h2.1, h2.2.mono (by omega)⟩))
  clear e0 e1 e2 hv hbW hWs hmono h
  obtain ⟨R, hR⟩ : ∃ R, sel l b k = R := ⟨_, rfl⟩
  have HR := Lib.hid hR
  rw [hR]
  clear hR
  obtain ⟨n, hn⟩ : ∃ n, l.length = n := ⟨_, rfl⟩
  have HN := Lib.hid hn
  have hl' : n ≤ 1048576 := by omega
  rw [hn] at HL HS
  clear hn hW hl
  go_enter Try.func75, Try.ntmps75
  go_wp2_with fail
  rw [HWW.out]
  refine HL.out.mono ?_
  rintro e w1 ⟨rfl, rfl⟩
  go_wp2_with fail
  refine HS.out.mono ?_
  rintro e w2 ⟨r, rfl, hf, hb2⟩
  have hs := HWS.out
  have hs2 := hb2.size
  have c0 : w2.cell? ⟨w.heap.size, 0, none⟩ = some (.pointer (some ⟨p, 0, none⟩)) := by rw [hb2.cell (p := ⟨w.heap.size, 0, none⟩) (by show w.heap.size < _; omega), cell_of_row W _ 0 _ _ _ HE0.out]; rfl
  have c2 : w2.cell? ⟨w.heap.size + 1 + 1, 0, none⟩ = some (.int .i64 k) := by rw [hb2.cell (p := ⟨w.heap.size + 1 + 1, 0, none⟩) (by show w.heap.size + 1 + 1 < _; omega), cell_of_row W _ 0 _ _ _ HE2.out]; rfl
  have hbw : Below w.heap.size w w2 := HBW.out.trans (hb2.mono (by omega))
  have HL2 := Lib.hid (len_any (HV.out.below hb2 (by omega)))
  have hrn := hf.1
  rw [← HN.out] at hf
  obtain ⟨s1, s2, s3⟩ := sel_search hf
  rw [HN.out] at HL2 s2 s3
  rw [HR.out] at s1 s2 s3
  have S1 := Lib.hid s1
  have S2 := Lib.hid s2
  have S3 := Lib.hid s3
  clear s1 s2 s3 hf HR hs hs2 hb2 HE0 HE1 HE2 HV HBW HWW HWS HL HS HN
  by_cases hk : k < 0
  · have HE := Lib.hid (S1.out hk)
    clear S1 S2 S3
    go_wp2_with (go_at_call 86; (with_reducible refine HL2.out.mono ?_); rintro e w3 ⟨rfl, rfl⟩)
    go_ret
    exact ⟨ret_int (by rw [HE.out]), hbw⟩
  · have hk0 : 0 ≤ k := by omega
    clear hk
    by_cases hr : r = n
    · have HE := Lib.hid (S2.out hk0 hr)
      subst hr
      have hd : ((r : Int) == (r : Int)) = true := beq_self_eq_true _
      clear S1 S2 S3
      go_wp2_with (go_at_call 86; (with_reducible refine HL2.out.mono ?_); rintro e w3 ⟨rfl, rfl⟩)
      go_ret
      exact ⟨ret_int (by rw [HE.out]), hbw⟩
    · have hlt : r < n := by omega
      have HE := Lib.hid (S3.out hk0 hlt)
      have hd : ((r : Int) == (n : Int)) = false := beq_eq_false_iff_ne.2 (by omega)
      clear S1 S2 S3 hr
      go_wp2_with (go_at_call 86; (with_reducible refine HL2.out.mono ?_); rintro e w3 ⟨rfl, rfl⟩)
      go_ret
      exact ⟨ret_int (by rw [HE.out]), hbw⟩
theorem select_nil (b : Bool) (k : Int) (w : World) :
    Calls Try.prog 75 #[.pointer none, .bool b, .int .i64 k] w fun e w' => e = .returned (.int .i64 (-1)) ∧ Below w.heap.size w w' := by
  obtain ⟨W, hW⟩ : ∃ W, ((w.alloc (.cells #[.pointer none] 71)).alloc (.cells #[.bool b] 4)).alloc (.cells #[.int .i64 k] 3) = W := ⟨_, rfl⟩
  have e0 : W.heap[w.heap.size]? = some (.cells #[.pointer none] 71 (0, 0)) := by
    rw [← hW, Below.heap_alloc _ _ _ (by simp; omega), Below.heap_alloc _ _ _ (by simp)]; exact heap_alloc_new w _
  have e2 : W.heap[w.heap.size + 1 + 1]? = some (.cells #[.int .i64 k] 3 (0, 0)) := by
    have := heap_alloc_new ((w.alloc (.cells #[.pointer none] 71)).alloc (.cells #[.bool b] 4)) (.cells #[.int .i64 k] 3)
    rw [World.size_alloc, World.size_alloc] at this
    rw [← hW]; exact this
  have HBW : Hid (Below w.heap.size w W) := Lib.hid (by rw [← hW]; exact (((Below.refl _ w).alloc (Nat.le_refl _) _).alloc (by simp) _).alloc (by simp; omega) _)
  have HWS : Hid (W.heap.size = w.heap.size + 3) := Lib.hid (by rw [← hW]; simp)
  have HE0 := Lib.hid e0
  have HE2 := Lib.hid e2
  have HWW := Lib.hid hW
  have HL := Lib.hid (fun w => len_nil w)
  have HS := Lib.hid (search_any 0 (by decide) 94 #[.pointer (some ⟨w.heap.size, 0, none⟩), .pointer (some ⟨w.heap.size + 1, 0, none⟩), .pointer (some ⟨w.heap.size + 1 + 1, 0, none⟩)] (fun i => false) W (fun _ _ => by kernel_rfl) (fun _ _ _ h => by cases h) (fun W' hW' i hi => by omega))
  have hS0 : (((0 : Nat) : Int)) = 0 := rfl
  rw [hS0] at HS
  clear e0 e2 hW hS0
  go_enter Try.func75, Try.ntmps75
  go_wp2_with fail
  rw [HWW.out]
  refine (HL.out _).mono ?_
  rintro e w1 ⟨rfl, rfl⟩
  go_wp2_with fail
  refine HS.out.mono ?_
  rintro e w2 ⟨r, rfl, hf, hb2⟩
  have hr0 : r = 0 := by have := hf.1; omega
  subst hr0
  have hs := HWS.out
  have hs2 := hb2.size
  have c0 : w2.cell? ⟨w.heap.size, 0, none⟩ = some (.pointer none) := by rw [hb2.cell (p := ⟨w.heap.size, 0, none⟩) (by show w.heap.size < _; omega), cell_of_row W _ 0 _ _ _ HE0.out]; rfl
  have c2 : w2.cell? ⟨w.heap.size + 1 + 1, 0, none⟩ = some (.int .i64 k) := by rw [hb2.cell (p := ⟨w.heap.size + 1 + 1, 0, none⟩) (by show w.heap.size + 1 + 1 < _; omega), cell_of_row W _ 0 _ _ _ HE2.out]; rfl
  have hbw : Below w.heap.size w w2 := HBW.out.trans (hb2.mono (by omega))
  clear hf hs hs2 hb2 HE0 HE2 HBW HWW HWS HS
  by_cases hk : k < 0
  · go_wp2_with (go_at_call 86; (with_reducible refine (HL.out _).mono ?_); rintro e w3 ⟨rfl, rfl⟩)
    go_ret
    exact ⟨rfl, hbw⟩
  · have hk0 : 0 ≤ k := by omega
    clear hk
    go_wp2_with (go_at_call 86; (with_reducible refine (HL.out _).mono ?_); rintro e w3 ⟨rfl, rfl⟩)
    go_ret
    exact ⟨rfl, hbw⟩
end Go.Proofs.Ytffljcfpofhkgaa.Bv
