/-
  Rows of 64-bit words and of bits; contract of bitvec.counts.
-/
import Derived.Test.YtffljcfpofhkgaaBvA
import Derived.Test.YtffljcfpofhkgaaBvB
set_option linter.unusedVariables false
set_option linter.unusedSimpArgs false
set_option maxRecDepth 100000
namespace Go.Proofs.Ytffljcfpofhkgaa.Bv
open Go Go.RowKit Go.Proofs.Ytffljcfpofhkgaa.Kit

def u64s (ns : List Nat) : List Value := ns.map fun n : Nat => Value.int .u64 (n : Int)
theorem u64s_len (ns : List Nat) : (u64s ns).length = ns.length := by simp [u64s]
theorem u64s_append (a b : List Nat) : u64s (a ++ b) = u64s a ++ u64s b := by simp [u64s]
theorem u64s_get {ns : List Nat} {i n : Nat} (h : ns[i]? = some n) : (u64s ns)[i]? = some (.int .u64 (n : Int)) := by
  unfold u64s; rw [List.getElem?_map, h]; rfl
theorem info_u64 : (Try.prog.info? 69).map (fun i => (i.zero, i.size, i.bytes)) = some (some (.int .u64 0), 1, 8) := by kernel_rfl
theorem info_u8 : (Try.prog.info? 5).map (fun i => (i.zero, i.size, i.bytes)) = some (some (.int .u8 0), 1, 1) := by kernel_rfl
theorem info_bool : (Try.prog.info? 4).map (fun i => (i.zero, i.size, i.bytes)) = some (some (.bool false), 1, 1) := by kernel_rfl

/-- What the walk asks of a slice that reads as cells: element i. -/
theorem Reads.cell {w : World} {a : Option Addr} {n cap : Nat} {xs : List Value} (h : Reads w (.slice a n cap) xs) {i : Nat} {x : Value} (hi : xs[i]? = some x) :
    ∃ b off, a = some ⟨b, off, none⟩ ∧ b < w.heap.size ∧ w.cell? ⟨b, off + i, none⟩ = some x := by
  obtain ⟨a, len, cap, e, h1, h2, h3, h4⟩ := h
  cases e
  have hl := (List.getElem?_eq_some_iff.1 hi).1
  rcases h4 with ⟨rfl, hl2, _⟩ | ⟨x, rfl, hl2⟩ | ⟨b, off, rfl, hb, hx⟩
  · omega
  · omega
  · exact ⟨b, off, rfl, hb, hx i x hi⟩

def cntL (l : List Bool) (k : Nat) : List Nat := (List.range k).map (cnt l)
theorem cntL_len (l : List Bool) (k : Nat) : (cntL l k).length = k := by simp [cntL]
theorem cntL_succ (l : List Bool) (k : Nat) : cntL l (k + 1) = cntL l k ++ [cnt l k] := by simp [cntL, List.range_succ]
theorem own_nil (w : World) (base : Nat) (e : TypeId) (size : Nat) : w.ownsRow base e size (.slice none 0 0) 0 [] := ⟨by simp, .inl ⟨rfl, rfl⟩⟩

set_option maxHeartbeats 1000000 in
theorem counts_any (l : List Bool) (a : Option Addr) (cap : Nat) (w : World) (hl : l.length ≤ 1048576) (hR : Reads w (.slice a (nw l.length) cap) (u64s (wds l))) :
    Calls Try.prog 98 #[.slice a (nw l.length) cap] w fun e w' => ∃ v, e = .returned v ∧ w'.ownsRow w.heap.size 69 1 v (nc l.length) (u64s (cts l)) ∧ Below w.heap.size w w' := by
  obtain ⟨i0, hi, hz0, hz1, hz2⟩ := info_parts info_u64
  have hlen := hR.len
  have hmx := hlen.2.2
  unfold maxLen at hmx
  have HR := Lib.hid hR
  have hnw : nw l.length ≤ 16384 := by unfold nw; omega
  have hnc : Hid (nc l.length = (nw l.length + 7) / 8) := Lib.hid (by unfold nc nw; omega)
  have hcts : Hid (cts l = cntL l (nc l.length)) := Lib.hid rfl
  obtain ⟨N, hN⟩ : ∃ N, nw l.length = N := ⟨_, rfl⟩
  have HN := Lib.hid hN
  rw [hN] at hnw hnc HR ⊢
  clear hR hlen hN
  have hn0 := own_nil w w.heap.size 69 1
  go_enter Try.func98, Try.ntmps98
  go_wp2
  go_loopw [3, 4, 9] (fun v t i wr => ∃ k : Nat, k ≤ N ∧ i = .int .i64 k ∧ t = .int .i64 (tr l (64 * k) : Nat) ∧ wr.ownsRow w.heap.size 69 1 v ((k + 7) / 8) (u64s (cntL l ((k + 7) / 8))) ∧ Below w.heap.size w wr) (fun _ _ i _ => N - (intOf i).toNat)
  case atStart => exact ⟨0, Nat.zero_le _, rfl, rfl, by show World.ownsRow _ _ _ _ _ 0 []; exact hn0, Below.refl _ _⟩
  case round =>
    obtain ⟨k, hk, rfl, rfl, hown, hb⟩ := hrel
    by_cases hlt : k < N
    · obtain ⟨b, off, rfl, hblt, hc0⟩ := Reads.cell HR.out (u64s_get (wds_get l (j := k) (by rw [HN.out]; exact hlt)))
      have hcell : wr.cell? ⟨b, off + k, none⟩ = some (.int .u64 (wat l k : Nat)) := by rw [hb.cell (p := ⟨b, off + k, none⟩) hblt]; exact hc0
      have HO := Lib.hid (fun W => ones_any (wat l k) (wat_lt l k) W)
      have HT := Lib.hid (tr_word l k)
      have ht := tr_le l (64 * k)
      have hp := pop_le 64 (wat l k)
      obtain ⟨W, hW⟩ : ∃ W, wat l k = W := ⟨_, rfl⟩
      obtain ⟨p, hP⟩ : ∃ p, pop 64 W = p := ⟨_, rfl⟩
      rw [hW, hP] at HO hp HT
      rw [hW] at hcell
      clear hW hP hc0
      have hown0 := Lib.hid hown
      obtain ⟨T, hT⟩ : ∃ T, tr l (64 * k) = T := ⟨_, rfl⟩
      have hTT := Lib.hid hT
      rw [hT] at ht HT ⊢
      clear hT
      by_cases h8 : k % 8 = 0
      · have h8z : ((k : Int) % 8 == 0) = true := by rw [beq_iff_eq]; omega
        have e8 : (k + 7) / 8 = k / 8 := by omega
        rw [e8] at hown
        have hq : k / 8 ≤ 16384 := by omega
        have hcn : cnt l (k / 8) = T := by unfold cnt; rw [← hTT.out]; congr 1; omega
        have hown2 : Hid (u64s (cntL l ((k + 1 + 7) / 8)) = u64s (cntL l (k / 8)) ++ [Value.int .u64 (T : Int)]) := Lib.hid (by rw [show (k + 1 + 7) / 8 = k / 8 + 1 by omega, cntL_succ, u64s_append, hcn]; rfl)
        clear e8 hcn
        generalize hq' : k / 8 = q at hown hq hown2
        have HQ := Lib.hid hq'
        clear hq' h8 hown0
        go_wp2_with (first
          | (go_at_call 100; (with_reducible refine (HO.out _).mono ?_); rintro e w1 ⟨rfl, rfl⟩)
          | (at_builtin; refine wpList_append_own _ rfl _ _ _ rfl w.heap.size 69 i0 (.int .u64 0) 1 8 Try.underlying79 hi hz0 hz1 hz2 rfl (by decide) _ q (u64s (cntL l q)) rfl (hown.alloc _) ⟨wr.heap.size, 0, none⟩ 1 1 [.int .u64 (T : Int)] rfl rfl (cell_one_new _ _ _) ?c2 ?c3 ?c4 ?c5 ?_))
        case c2 => simp [Value.oneCell']
        case c3 => unfold maxLen; omega
        case c4 => omega
        case c5 => have := hb.size; simp; omega
        intro v' w5 hown5 hg5 _
        have hb5 := below_own (hb.alloc hb.size _) (hown.alloc _) (Nat.le_refl _) (by have := hb.size; simp; omega) hg5
        clear hown hg5 hcell
        go_wp2_with (go_at_call 100; (with_reducible refine (HO.out _).mono ?_); rintro e w1 ⟨rfl, rfl⟩)
        go_roundw
        case rel => exact ⟨k + 1, by omega, by go_num, by rw [HT.out]; go_num, by rw [hown2.out]; have := HQ.out; rw [show (k + 1 + 7) / 8 = q + 1 by omega]; exact hown5, hb5⟩
        case measure => simp [intOf]; omega
      · have h8z : ((k : Int) % 8 == 0) = false := by rw [beq_eq_false_iff_ne]; omega
        have e8 : (k + 1 + 7) / 8 = (k + 7) / 8 := by omega
        have HE := Lib.hid e8
        clear e8 h8 hown
        go_wp2_with (go_at_call 100; (with_reducible refine (HO.out _).mono ?_); rintro e w1 ⟨rfl, rfl⟩)
        go_roundw
        case rel => exact ⟨k + 1, by omega, by go_num, by rw [HT.out]; go_num, by rw [HE.out]; exact hown0.out, hb⟩
        case measure => simp [intOf]; omega
    · obtain rfl : k = N := by omega
      rw [← hnc.out, ← hcts.out] at hown
      go_wp2
      go_ret
      exact ⟨_, rfl, hown, hb⟩
end Go.Proofs.Ytffljcfpofhkgaa.Bv
