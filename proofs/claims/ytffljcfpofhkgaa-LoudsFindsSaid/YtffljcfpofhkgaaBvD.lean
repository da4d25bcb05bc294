/-
  Contract of bitvec.New: a vector lies where it was made, whatever lies about it.
-/
import Derived.Test.YtffljcfpofhkgaaBvC
import Derived.RegionTactic
import Derived.ChangeAlike
set_option linter.unusedVariables false
set_option linter.unusedSimpArgs false
set_option maxRecDepth 100000
namespace Go.Proofs.Ytffljcfpofhkgaa.Bv
open Go Go.RowKit Go.Proofs.Ytffljcfpofhkgaa.Kit

/-- An owned row is a slice. -/
theorem own_is {w : World} {base : Nat} {e : TypeId} {size : Nat} {v : Value} {n : Nat} {xs : List Value} (h : w.ownsRow base e size v n xs) : ∃ a c, v = .slice a n c := by
  rcases h.2 with ⟨rfl, h0⟩ | ⟨g, cap, cur, rfl, _⟩
  · exact ⟨none, 0, by rw [h0]⟩
  · exact ⟨_, _, rfl⟩
def bls (l : List Bool) : List Value := l.map Value.bool
theorem bls_len (l : List Bool) : (bls l).length = l.length := by simp [bls]
theorem bls_get {l : List Bool} {i : Nat} (h : i < l.length) : (bls l)[i]? = some (.bool (bt l i)) := by
  unfold bls; rw [List.getElem?_map, bt_lt h]; rfl

/-- The words after k bits. -/
def wdk (l : List Bool) (N k : Nat) : List Nat := (List.range N).map (wat (l.take k))
theorem wdk_len (l : List Bool) (N k : Nat) : (wdk l N k).length = N := by simp [wdk]
theorem wdk_get (l : List Bool) {N j : Nat} (k : Nat) (h : j < N) : (wdk l N k)[j]? = some (wat (l.take k) j) := by
  unfold wdk; rw [List.getElem?_map, List.getElem?_range h]; rfl
theorem wdk_set (l : List Bool) {N k : Nat} (hk : k / 64 < N) (hb : bt l k = true) : (wdk l N k).set (k / 64) (wat (l.take k) (k / 64) ||| 2 ^ (k % 64)) = wdk l N (k + 1) := by
  apply List.ext_getElem?
  intro j
  rw [List.getElem?_set]
  by_cases hj : j < N
  · rw [wdk_get l (k + 1) hj, wat_take]
    by_cases e : k / 64 = j
    · subst e; rw [if_pos rfl, if_pos (by rw [wdk_len]; exact hj), if_pos ⟨rfl, hb⟩]
    · rw [if_neg e, if_neg (fun h => e h.1.symm), wdk_get l k hj]
  · have h1 : (wdk l N (k + 1))[j]? = none := List.getElem?_eq_none (by rw [wdk_len]; omega)
    have h2 : (wdk l N k)[j]? = none := List.getElem?_eq_none (by rw [wdk_len]; omega)
    rw [h1, if_neg (by omega), h2]
theorem wdk_skip (l : List Bool) (N k : Nat) (hb : bt l k = false) : wdk l N k = wdk l N (k + 1) := by
  unfold wdk
  apply List.map_congr_left
  intro j _
  rw [wat_take, if_neg (fun h => by rw [hb] at h; cases h.2)]
theorem wdk_all (l : List Bool) : wdk l (nw l.length) l.length = wds l := by
  unfold wdk wds; rw [List.take_length]
theorem wdk_none (l : List Bool) (N : Nat) : wdk l N 0 = List.replicate N 0 := by
  unfold wdk
  rw [List.take_zero]
  apply List.ext_getElem (by simp)
  intro i h1 h2
  simp [wat_none]
theorem u64s_set (ns : List Nat) (i n : Nat) : u64s (ns.set i n) = (u64s ns).set i (.int .u64 (n : Int)) := by simp [u64s, List.map_set]

theorem shl_one (k : Int) (h0 : 0 ≤ k) (h1 : k < 64) : IntKind.u64.wrap (1 * 2 ^ k.toNat) = ((2 ^ k.toNat : Nat) : Int) := by
  obtain ⟨n, rfl⟩ := Int.eq_ofNat_of_zero_le h0
  have h2 : 2 ^ n ≤ 2 ^ 63 := Nat.pow_le_pow_right (by decide) (by omega)
  rw [Int.toNat_natCast, Int.one_mul]
  have : ((2 : Int) ^ n) = ((2 ^ n : Nat) : Int) := by simp
  rw [this]
  exact wrap_u64_nat _ (by omega)

theorem quo_nat (t : TypeId) (k d q : Nat) (hk : k < 4611686018427387904) (hd : 0 < d) (h : k / d = q) : binOp .quo t (.int .i64 (k : Int)) (.int .i64 (d : Int)) = pure (.int .i64 (q : Int)) := by
  have h2 : IntKind.i64.wrap ((k : Int) / (d : Int)) = (q : Int) := by
    rw [show ((k : Int) / (d : Int)) = (q : Int) by rw [← h]; simp, IntKind.wrap_i64]
    have : k / d ≤ k := Nat.div_le_self _ _
    omega
  have h0 : ¬ d = 0 := by omega
  simp [binOp, Op.intDiv, h0, h2]
theorem rem_nat (t : TypeId) (k d q : Nat) (hd : 0 < d) (h : k % d = q) : binOp .rem t (.int .i64 (k : Int)) (.int .i64 (d : Int)) = pure (.int .i64 (q : Int)) := by
  have h1 : (k : Int).tmod (d : Int) = (q : Int) := by rw [Int.tmod_eq_emod_of_nonneg (by omega), ← h]; simp
  have h0 : ¬ d = 0 := by omega
  simp [binOp, Op.intDiv, h0, h1]
theorem shl1_nat (t : TypeId) (r S : Nat) (hr : r < 64) (h : 2 ^ r = S) : binOp .shl t (.int .u64 1) (.int .i64 (r : Int)) = pure (.int .u64 (S : Int)) := by
  have h1 := shift_shl .u64 .i64 1 (r : Int) (by omega) (by simp [IntKind.bits]; omega)
  have h2 := shl_one (r : Int) (by omega) (by omega)
  rw [Int.toNat_natCast] at h1 h2
  rw [h2, h] at h1
  exact h1
theorem or_nat (t : TypeId) (a b c : Nat) (ha : a < 18446744073709551616) (hb : b < 18446744073709551616) (h : a ||| b = c) : binOp .or t (.int .u64 (a : Int)) (.int .u64 (b : Int)) = pure (.int .u64 (c : Int)) := by
  have h1 := u64_or_nat' a b ha hb
  rw [h] at h1
  have e : binOp .or t (.int .u64 (a : Int)) (.int .u64 (b : Int)) = pure (.int .u64 (bits .or .u64 (a : Int) (b : Int))) := by simp [binOp, Op.intBits, bits]
  rw [e, h1]

theorem own_blocks {w w' : World} {base B1 : Nat} {e : TypeId} {size : Nat} {v : Value} {n : Nat} {xs : List Value} (h : w.ownsRow base e size v n xs) (hB : ∀ k, v.ownBlock = some k → k < B1)
    (hk : ∀ b, base ≤ b → b < B1 → w'.heap[b]? = w.heap[b]?) : w'.ownsRow base e size v n xs := by
  refine ⟨h.1, ?_⟩
  rcases h.2 with hn | ⟨g, cap, cur, rfl, hbg, hgg, rest⟩
  · exact .inl hn
  · exact .inr ⟨g, cap, cur, rfl, hbg, by rw [hk g hbg (hB g rfl)]; exact hgg, rest⟩
/-- The pointer to block p is a vector of the bits l; what it consists of lies from B0 on and below B1. -/
def VecAt (B0 B1 : Nat) (w : World) (p : Nat) (l : List Bool) : Prop :=
  B0 ≤ p ∧ p < B1 ∧ ∃ v1 v2, w.heap[p]? = some (.cells #[.int .i64 (l.length : Nat), v1, v2] 107 (0, 0)) ∧ w.ownsRow B0 69 1 v1 (nw l.length) (u64s (wds l)) ∧ w.ownsRow B0 69 1 v2 (nc l.length) (u64s (cts l)) ∧
    (∀ k, v1.ownBlock = some k → k < B1) ∧ (∀ k, v2.ownBlock = some k → k < B1)
theorem VecAt.later {B0 B1 : Nat} {w w' : World} {p : Nat} {l : List Bool} (h : VecAt B0 B1 w p l) (hk : ∀ b, B0 ≤ b → b < B1 → w'.heap[b]? = w.heap[b]?) : VecAt B0 B1 w' p l := by
  obtain ⟨h1, h2, v1, v2, h3, h4, h5, h6, h7⟩ := h
  exact ⟨h1, h2, v1, v2, by rw [hk p h1 h2]; exact h3, own_blocks h4 h6 hk, own_blocks h5 h7 hk, h6, h7⟩
theorem VecAt.below {B0 B1 B : Nat} {w w' : World} {p : Nat} {l : List Bool} (h : VecAt B0 B1 w p l) (hb : Below B w w') (hB : B1 ≤ B) : VecAt B0 B1 w' p l :=
  h.later fun b _ h2 => hb.block b (by omega)
/-- What the walk asks of a vector. -/
theorem VecAt.use {B0 B1 : Nat} {w : World} {p : Nat} {l : List Bool} (h : VecAt B0 B1 w p l) : ∃ a1 c1 a2 c2, p < B1 ∧ w.cell? ⟨p, 0, none⟩ = some (.int .i64 (l.length : Nat)) ∧
    w.cell? ⟨p, 1, none⟩ = some (.slice a1 (nw l.length) c1) ∧ w.cell? ⟨p, 2, none⟩ = some (.slice a2 (nc l.length) c2) ∧
    Reads w (.slice a1 (nw l.length) c1) (u64s (wds l)) ∧ Reads w (.slice a2 (nc l.length) c2) (u64s (cts l)) ∧ (∀ x, a1 = some x → x.block < B1) ∧ (∀ x, a2 = some x → x.block < B1) := by
  obtain ⟨h1, h2, v1, v2, h3, h4, h5, h6, h7⟩ := h
  obtain ⟨a1, n1, c1, e1, l1, _, _, _⟩ := own_reads h4
  obtain ⟨a2, n2, c2, e2, l2, _, _, _⟩ := own_reads h5
  subst e1 e2
  rw [u64s_len, wds_len] at l1
  rw [u64s_len, cts_len] at l2
  subst l1 l2
  refine ⟨a1, c1, a2, c2, h2, by rw [cell_of_row w _ 0 _ _ _ h3]; rfl, by rw [cell_of_row w _ 1 _ _ _ h3]; rfl, by rw [cell_of_row w _ 2 _ _ _ h3]; rfl, own_reads h4, own_reads h5, fun x hx => ?_, fun x hx => ?_⟩
  · subst hx; exact h6 x.block rfl
  · subst hx; exact h7 x.block rfl
theorem own_row_lt {w : World} {base : Nat} {e : TypeId} {size : Nat} {v : Value} {n : Nat} {xs : List Value} (h : w.ownsRow base e size v n xs) : ∀ k, v.ownBlock = some k → k < w.heap.size := by
  intro k hk
  rcases h.2 with ⟨rfl, _⟩ | ⟨g, cap, cur, rfl, hbg, hgg, rest⟩
  · cases hk
  · cases hk; exact (Array.getElem?_eq_some_iff.1 hgg).1
/-- What New leaves. -/
def NewPost (l : List Bool) (w : World) (e : Ending) (w' : World) : Prop :=
  ∃ p, e = .returned (.tuple #[.pointer (some ⟨p, 0, none⟩), .int .i64 0]) ∧ VecAt w.heap.size w'.heap.size w' p l ∧ Below w.heap.size w w'
theorem new_post {l : List Bool} {w wr w3 : World} {g : Nat} {v1 v2 : Value} (hg : w.heap.size = g) (h1 : wr.ownsRow g 69 1 v1 (nw l.length) (u64s (wds l))) (hb1 : Below g w wr) (h2 : w3.ownsRow wr.heap.size 69 1 v2 (nc l.length) (u64s (cts l))) (hb : Below wr.heap.size wr w3) :
    NewPost l w (.returned (.tuple #[.pointer (some ⟨w3.heap.size, 0, none⟩), .int .i64 0])) (w3.alloc (.cells #[.int .i64 (l.length : Nat), v1, v2] 107)) := by
  subst hg
  have hs1 := hb1.size
  have hs := hb.size
  refine ⟨w3.heap.size, rfl, ⟨by omega, by simp, v1, v2, heap_alloc_new w3 _, (own_later h1 hb).alloc _, (own_base h2 (by omega)).alloc _, fun k hk => ?_, fun k hk => ?_⟩, ((hb1.trans (hb.mono (by omega))).alloc (by omega) _)⟩
  · have := own_row_lt h1 k hk; simp; omega
  · have := own_row_lt h2 k hk; simp; omega

set_option maxHeartbeats 1000000 in
theorem new_ok (l : List Bool) (a : Option Addr) (cap : Nat) (w : World) (hl : l.length ≤ 1048576) (hR : Reads w (.slice a l.length cap) (bls l)) :
    Calls Try.prog 89 #[.slice a l.length cap] w (NewPost l w) := by
  obtain ⟨i0, hi, hz0, hz1, hz2⟩ := info_parts info_u64
  have hmx := hR.len.2.2
  unfold maxLen at hmx
  have HR := Lib.hid hR
  obtain ⟨n, hn⟩ : ∃ n, l.length = n := ⟨_, rfl⟩
  have HN := Lib.hid hn
  rw [hn] at hl HR ⊢
  clear hR hn
  have hq : (n : Int) + 64 - 1 = ((n + 63 : Nat) : Int) := by omega
  have hdiv : ((n : Int) + 64 - 1) / 64 = ((nw n : Nat) : Int) := by unfold nw; omega
  have hnw : nw n ≤ 16384 := by unfold nw; omega
  have HD := Lib.hid hdiv
  clear hdiv hq
  go_enter Try.func89, Try.ntmps89
  go_wp2_with (at_make; refine wpList_make_full _ rfl _ _ _ rfl w.heap.size 69 i0 (.int .u64 0) 1 Try.underlying79 hi hz0 hz1 _ _ _ _ (nw n) rfl rfl HD.out HD.out (by rw [hz2]; omega) (by unfold maxLen; omega) (Nat.le_refl _) ?_; intro w2 hown2 hg2)
  have hw0 : w2.ownsRow w.heap.size 69 1 (.slice (some ⟨w.heap.size, 0, none⟩) (nw n) (nw n)) (nw n) (u64s (wdk l (nw n) 0)) := by
    have h := hown2
    rw [show (Value.int IntKind.u64 0).cells = #[Value.int IntKind.u64 0] from rfl, toList_madeCells_one, Nat.mul_one] at h
    rw [wdk_none]
    unfold u64s
    rw [List.map_replicate]
    exact h
  have hb2 : Below w.heap.size w w2 := (Below.refl _ w).grown hg2 (Nat.le_refl _) (fun j hj => by cases hj)
  obtain ⟨g, hg⟩ : ∃ g, w.heap.size = g := ⟨_, rfl⟩
  have HG := Lib.hid hg
  rw [hg] at hw0 hb2 ⊢
  clear hown2 hg2 hg
  go_loopw [18] (fun i wr => ∃ k : Nat, k ≤ n ∧ i = .int .i64 k ∧ wr.ownsRow g 69 1 (.slice (some ⟨g, 0, none⟩) (nw n) (nw n)) (nw n) (u64s (wdk l (nw n) k)) ∧ Below g w wr) (fun i _ => n - (intOf i).toNat)
  case atStart => exact ⟨0, Nat.zero_le _, rfl, hw0, hb2⟩
  case round =>
    clear hw0 hb2
    obtain ⟨k, hk, rfl, hown, hbw⟩ := hrel
    by_cases hlt : k < n
    · obtain ⟨b, off, rfl, hblt, hc0⟩ := Reads.cell HR.out (bls_get (l := l) (i := k) (by rw [HN.out]; exact hlt))
      have hcell : wr.cell? ⟨b, off + k, none⟩ = some (.bool (bt l k)) := by rw [hbw.cell (p := ⟨b, off + k, none⟩) (by rw [← HG.out]; exact hblt)]; exact hc0
      clear hc0
      have hq : k / 64 < nw n := by unfold nw; omega
      obtain ⟨g', e1, _, _, hcs, hfr⟩ := own_cells hown (by omega)
      cases e1
      have hc2 := hcs (k / 64) _ (u64s_get (wdk_get l k hq))
      have hf2 := hfr (k / 64)
      cases hbt : bt l k with
      | true =>
        rw [hbt] at hcell
        have hset := own_set hown hq (.int .u64 ((wat (l.take k) (k / 64) ||| 2 ^ (k % 64) : Nat) : Int))
        rw [← u64s_set, wdk_set l hq hbt] at hset
        obtain ⟨q, hqq⟩ : ∃ q, k / 64 = q := ⟨_, rfl⟩
        obtain ⟨r, hrr⟩ : ∃ r, k % 64 = r := ⟨_, rfl⟩
        have hquo := quo_nat 3 k 64 q (by omega) (by decide) hqq
        have hrem := rem_nat 3 k 64 r (by decide) hrr
        obtain ⟨S, hS⟩ : ∃ S, 2 ^ r = S := ⟨_, rfl⟩
        have hshl := shl1_nat 69 r S (by omega) hS
        have hSl : S < 18446744073709551616 := by rw [← hS]; exact Nat.pow_lt_pow_right (by decide) (show r < 64 by omega)
        obtain ⟨V, hV⟩ : ∃ V, wat (l.take k) q = V := ⟨_, rfl⟩
        have hVl : V < 18446744073709551616 := by rw [← hV]; exact wat_lt _ _
        obtain ⟨U, hU⟩ : ∃ U, V ||| S = U := ⟨_, rfl⟩
        have hor := or_nat 69 V S U hVl hSl hU
        rw [hqq, hrr, hS, hV, hU] at hset
        rw [hqq] at hc2 hf2 hq
        rw [hV] at hc2
        have hqi : (q : Int) < (nw n : Int) := by omega
        have hqi0 : (0 : Int) ≤ q := by omega
        have HSET := Lib.hid hset
        have HBW := Lib.hid (hbw.setCell (p := ⟨g, q, none⟩) (Nat.le_refl g) (.int .u64 (U : Int)))
        clear hset hqq hrr hS hV hU hSl hVl hcs hfr hown hbt
        simp only [Int.cast_ofNat_Int] at hquo hrem
        go_wp2
        go_region
        all_goals go_wp2
        all_goals
          go_roundw
          case rel => exact ⟨k + 1, by omega, by go_num, HSET.out, HBW.out.drew⟩
          case measure => simp [intOf]; omega
      | false =>
        rw [hbt] at hcell
        rw [wdk_skip l _ _ hbt] at hown
        clear hbt hc2 hf2 hcs hfr
        go_wp2
        go_roundw
        case rel => exact ⟨k + 1, by omega, by go_num, hown, hbw⟩
        case measure => simp [intOf]; omega
    · obtain rfl : k = n := by omega
      obtain rfl := HN.out
      rw [wdk_all] at hown
      have hr := own_reads hown
      have HOWN := Lib.hid hown
      have HC := Lib.hid (counts_any l (some ⟨g, 0, none⟩) (nw l.length) wr hl hr)
      clear hown hr
      go_wp2_with (go_at_call 98; (with_reducible refine HC.out.mono ?_); rintro e w3 ⟨v, rfl, hcts, hb3⟩; have HCT := Lib.hid hcts; obtain ⟨a3, c3, rfl⟩ := own_is hcts; clear hcts)
      have HP := Lib.hid (new_post (l := l) HG.out HOWN.out hbw HCT.out hb3)
      go_ret2
      exact HP.out

theorem new_long (n : Nat) (a : Option Addr) (cap : Nat) (w : World) (hl : 1048576 < n) (hm : n ≤ maxLen) :
    Calls Try.prog 89 #[.slice a n cap] w fun e w' => e = .returned (.tuple #[.pointer none, .int .i64 2]) ∧ w = w' := by
  unfold maxLen at hm
  have h : (1048576 : Int) < (n : Int) := by omega
  clear hl
  go_enter Try.func89, Try.ntmps89
  go_wp2
  go_ret2
  exact ⟨rfl, rfl⟩

end Go.Proofs.Ytffljcfpofhkgaa.Bv
