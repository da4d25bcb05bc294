/-
  Joined texts: CmpA, CmpB, CmpC, CmpD, CmpE, CmpG.
-/
import Derived.Test.YtamdlbefiggkfaaGreatM5
import Derived.Test.YtamdlbefiggkfaaGreatM6
import Derived.Test.YtamdlbefiggkfaaGreatM2
import Derived.Test.YtamdlbefiggkfaaGreatM3
import Derived.Test.YtamdlbefiggkfaaGreatM4
import Derived.Deep.RegionHeld3
import Derived.Deep.AppendLies
import Derived.Deep.DrawnRows
import Derived.Lib.AppendZeros
import Derived.Laws.MakeOwn
import Derived.Laws.OwnMore
import Derived.Laws.Runes
import Derived.Deep.RegionLaw
import Derived.Lib.SlBuf
import Derived.Lib.SliceRun
set_option linter.unusedVariables false
set_option linter.unusedSimpArgs false
set_option maxRecDepth 100000
namespace Go.Proofs.YtamdlbefiggkfaaGreat.Cmp
open Go Go.RowKit Go.Proofs.YtamdlbefiggkfaaGreat.Kit Go.Proofs.YtamdlbefiggkfaaGreat.Utf Go.Proofs.YtamdlbefiggkfaaGreat.Rom Go.Proofs.YtamdlbefiggkfaaGreat.Aut

theorem from_succ (lo : Int) (s : ByteArray) (k : Nat) (h : k < s.size) : fromB lo ((bs s).take (k + 1)) = (fromB lo ((bs s).take k) && decide (lo ≤ bz s k ∧ bz s k ≤ 126)) := by
  rw [bs_at s k h, fromB_append]
  congr 1
  unfold fromB
  rw [List.all_cons, List.all_nil, Bool.and_true, bz_bt8]
theorem from_bad (lo : Int) (s : ByteArray) (k : Nat) (h : k < s.size) (hb : ¬ (lo ≤ bz s k ∧ bz s k ≤ 126)) : fromB lo (bs s) = false := by
  have h1 : fromB lo (bs s) = (fromB lo ((bs s).take (k + 1)) && fromB lo ((bs s).drop (k + 1))) := by rw [← fromB_append, List.take_append_drop]
  rw [h1, from_succ lo s k h, decide_eq_false hb, Bool.and_false, Bool.false_and]
theorem from_all (lo : Int) (s : ByteArray) (k : Nat) (h : s.size ≤ k) (hf : fromB lo ((bs s).take k) = true) : fromB lo (bs s) = true := by
  rwa [List.take_of_length_le (by rw [bs_len]; exact h)] at hf

theorem from_any (lo : Int) (s : ByteArray) (w : World) (hs : s.size ≤ 140737488351232) (h0 : 0 ≤ lo) (h1 : lo ≤ 255) :
    Calls Tryz.prog 31 #[.int .u8 lo, .string s] w fun e w' => e = .returned (.bool (fromB lo (bs s))) ∧ w' = w := by
  obtain ⟨E, hE⟩ : ∃ E, fromB lo (bs s) = E := ⟨_, rfl⟩
  rw [hE]
  have HB := Lib.hid (fun (k : Nat) (h : k < s.size) (hb : ¬ (lo ≤ bz s k ∧ bz s k ≤ 126)) => (from_bad lo s k h hb).symm.trans hE)
  have HA := Lib.hid (fun (k : Nat) (h : s.size ≤ k) (hf : fromB lo ((bs s).take k) = true) => (from_all lo s k h hf).symm.trans hE)
  clear hE
  go_enter Tryz.func31, Tryz.ntmps31
  go_wp2
  go_loopw [8, 5] (fun i _ wr => ∃ k : Nat, i = .int .i64 k ∧ k ≤ s.size ∧ Hid (fromB lo ((bs s).take k) = true) ∧ wr = w) (fun i _ _ => s.size - (intOf i).toNat)
  case atStart => exact ⟨0, rfl, Nat.zero_le _, Lib.hid rfl, rfl⟩
  case round =>
    obtain ⟨k, rfl, hk, hf, rfl⟩ := hrel
    by_cases hkl : k < s.size
    · have hrun := run_byte s k hkl
      have hbz := bz_bound s k
      have hsu := Lib.hid (from_succ lo s k hkl)
      have HB2 := Lib.hid (HB.out k hkl)
      generalize bz s k = x at hrun hbz hsu HB2
      obtain ⟨hb0, hb1⟩ := hbz
      by_cases h2 : lo ≤ x
      · by_cases h3 : x ≤ 126
        · have hf2 := Lib.hid (show fromB lo ((bs s).take (k + 1)) = true by rw [hsu.out, hf.out, decide_eq_true ⟨h2, h3⟩]; rfl)
          go_wp2
          go_roundw
          case rel => exact ⟨k + 1, by go_num, by omega, hf2, trivial⟩
          case measure => simp [intOf]; omega
        · have HE := Lib.hid (HB2.out (fun h => h3 h.2))
          go_wp2
          go_ret
          exact ⟨ret_bool HE.out, rfl⟩
      · have HE := Lib.hid (HB2.out (fun h => h2 h.1))
        go_wp2
        go_ret
        exact ⟨ret_bool HE.out, rfl⟩
    · have HE := Lib.hid (HA.out k (by omega) hf.out)
      go_wp2
      go_ret
      exact ⟨ret_bool HE.out, rfl⟩

theorem rbytes_any (lo : Int) (s : ByteArray) (w : World) (hs : s.size ≤ 140737488351232) (h0 : 0 ≤ lo) (h1 : lo ≤ 255) :
    Calls Tryz.prog 43 #[.string s, .int .u8 lo] w fun e w' => e = .returned (.bool (fromB lo (bs s))) ∧ w' = w := by
  obtain ⟨E, hE⟩ : ∃ E, fromB lo (bs s) = E := ⟨_, rfl⟩
  rw [hE]
  have HB := Lib.hid (fun (k : Nat) (h : k < s.size) (hb : ¬ (lo ≤ bz s k ∧ bz s k ≤ 126)) => (from_bad lo s k h hb).symm.trans hE)
  have HA := Lib.hid (fun (k : Nat) (h : s.size ≤ k) (hf : fromB lo ((bs s).take k) = true) => (from_all lo s k h hf).symm.trans hE)
  clear hE
  go_enter Tryz.func43, Tryz.ntmps43
  go_wp2
  go_loopw [5] (fun i wr => ∃ k : Nat, i = .int .i64 k ∧ k ≤ s.size ∧ Hid (fromB lo ((bs s).take k) = true) ∧ wr = w) (fun i _ => s.size - (intOf i).toNat)
  case atStart => exact ⟨0, rfl, Nat.zero_le _, Lib.hid rfl, rfl⟩
  case round =>
    obtain ⟨k, rfl, hk, hf, rfl⟩ := hrel
    by_cases hkl : k < s.size
    · have hrun := run_byte s k hkl
      have hbz := bz_bound s k
      have hsu := Lib.hid (from_succ lo s k hkl)
      have HB2 := Lib.hid (HB.out k hkl)
      generalize bz s k = x at hrun hbz hsu HB2
      obtain ⟨hb0, hb1⟩ := hbz
      by_cases h2 : lo ≤ x
      · by_cases h3 : x ≤ 126
        · have hf2 := Lib.hid (show fromB lo ((bs s).take (k + 1)) = true by rw [hsu.out, hf.out, decide_eq_true ⟨h2, h3⟩]; rfl)
          go_wp2
          go_roundw
          case rel => exact ⟨k + 1, by go_num, by omega, hf2, trivial⟩
          case measure => simp [intOf]; omega
        · have HE := Lib.hid (HB2.out (fun h => h3 h.2))
          go_wp2
          go_ret
          exact ⟨ret_bool HE.out, rfl⟩
      · have HE := Lib.hid (HB2.out (fun h => h2 h.1))
        go_wp2
        go_ret
        exact ⟨ret_bool HE.out, rfl⟩
    · have HE := Lib.hid (HA.out k (by omega) hf.out)
      go_wp2
      go_ret
      exact ⟨ret_bool HE.out, rfl⟩

end Go.Proofs.YtamdlbefiggkfaaGreat.Cmp

set_option linter.unusedVariables false
set_option linter.unusedSimpArgs false
set_option maxRecDepth 100000
namespace Go.Proofs.YtamdlbefiggkfaaGreat.Cmp
open Go Go.RowKit Go.Proofs.YtamdlbefiggkfaaGreat.Kit Go.Proofs.YtamdlbefiggkfaaGreat.Utf Go.Proofs.YtamdlbefiggkfaaGreat.Rom Go.Proofs.YtamdlbefiggkfaaGreat.Aut

/-- A buffer of strings that are short enough for any machine. -/
def Sh (b : Bf) : Prop := (∀ i ∈ b.is, i.r.size ≤ 1048576 ∧ i.o.size ≤ 1048576) ∧ b.p.size ≤ 1048576 ∧ b.is.length ≤ 1048576

theorem val_len {b : Bf} (h : ¬ b.is.length ≤ 64) : val b = false := by
  cases e : val b
  · rfl
  · exact absurd (val_parts e).1 h
theorem val_neg {b : Bf} (h : ¬ 0 ≤ b.c) : val b = false := by
  cases e : val b
  · rfl
  · exact absurd (val_parts e).2.1 h
theorem val_gt {b : Bf} (h : ¬ b.c ≤ b.is.length) : val b = false := by
  cases e : val b
  · rfl
  · exact absurd (val_parts e).2.2.1 h
theorem val_bad {b : Bf} {k : Nat} (hk : k < b.is.length) (h : okI (ii b.is k) = false) : val b = false := by
  cases e : val b
  · rfl
  · have := (val_parts e).2.2.2.1 _ (ii_mem hk)
    rw [h] at this; cases this
theorem val_rest {b : Bf} (h1 : b.is.length ≤ 64) (h2 : 0 ≤ b.c) (h3 : b.c ≤ b.is.length) (h4 : ∀ j, j < b.is.length → okI (ii b.is j) = true) : val b = (decide (b.p.size ≤ 8) && fromB 33 (bs b.p)) := by
  unfold val
  have e1 : b.is.all okI = true := by
    rw [List.all_eq_true]
    intro i hi
    obtain ⟨j, hj, rfl⟩ := List.getElem_of_mem hi
    have := h4 j hj
    unfold ii at this
    rw [List.getD_eq_getElem?_getD, List.getElem?_eq_getElem hj] at this
    exact this
  rw [e1, decide_eq_true ⟨h1, h2, h3⟩]; rfl

set_option maxHeartbeats 4000000 in
theorem valid_any (b : Bf) (s : Value) (w : World) (hR : ItR w s b.is) (hsh : Sh b) :
    Calls Tryz.prog 30 #[.agg #[s, .int .i64 b.c, .string b.p]] w fun e w' => e = .returned (.bool (val b)) ∧ Below w.heap.size w w' := by
  obtain ⟨a, len, cap, rfl, hlen, hcap, hmax, _⟩ := id hR
  obtain ⟨sh1, sh2, sh3⟩ := hsh
  subst hlen
  unfold maxLen at hmax
  by_cases h1 : b.is.length ≤ 64
  rotate_left
  · rw [val_len h1]
    clear hR sh1
    obtain ⟨is, c, p⟩ := b
    simp only at *
    go_enter Tryz.func30, Tryz.ntmps30
    go_wp2
    go_ret
    exact ⟨rfl, (Below.refl _ _).alloc (Nat.le_refl _) _⟩
  by_cases h2 : 0 ≤ b.c
  rotate_left
  · rw [val_neg h2]
    clear hR sh1
    obtain ⟨is, c, p⟩ := b
    simp only at *
    go_enter Tryz.func30, Tryz.ntmps30
    go_wp2
    go_ret
    exact ⟨rfl, (Below.refl _ _).alloc (Nat.le_refl _) _⟩
  by_cases h3 : b.c ≤ b.is.length
  rotate_left
  · rw [val_gt h3]
    clear hR sh1
    obtain ⟨is, c, p⟩ := b
    simp only at *
    go_enter Tryz.func30, Tryz.ntmps30
    go_wp2
    go_ret
    exact ⟨rfl, (Below.refl _ _).alloc (Nat.le_refl _) _⟩
  obtain ⟨E, hE⟩ : ∃ E, val b = E := ⟨_, rfl⟩
  rw [hE]
  have HBAD := Lib.hid (fun (k : Nat) (hk : k < b.is.length) (h : okI (ii b.is k) = false) => (val_bad hk h).symm.trans hE)
  have HREST := Lib.hid (fun h4 => (val_rest h1 h2 h3 h4).symm.trans hE)
  clear hE
  have HS := Lib.hid sh1
  have HR := Lib.hid hR
  obtain ⟨is, c, p⟩ := b
  simp only at *
  have HP := fun W => from_any 33 p W (by omega) (by omega) (by omega)
  obtain ⟨FP, hFP⟩ : ∃ FP, fromB 33 (bs p) = FP := ⟨_, rfl⟩
  rw [hFP] at HP HREST
  have HP := Lib.hid HP
  clear sh1 hR hFP
  go_enter Tryz.func30, Tryz.ntmps30
  go_wp2
  go_loopw [25] (fun i wr => ∃ k : Nat, i = .int .i64 k ∧ k ≤ is.length ∧ Hid (∀ j, j < k → okI (ii is j) = true) ∧ Below w.heap.size w wr ∧ wr.cell? ⟨w.heap.size, 2, none⟩ = some (.string p) ∧ w.heap.size + 1 ≤ wr.heap.size) (fun i _ => is.length - (intOf i).toNat)
  case atStart => exact ⟨0, rfl, Nat.zero_le _, Lib.hid (fun j hj => by omega), (Below.refl _ _).alloc (Nat.le_refl _) _, by simp, by simp⟩
  case round =>
    obtain ⟨k, rfl, hk, hall, hbw, hc2, hz⟩ := hrel
    by_cases hkl : k < is.length
    · obtain ⟨g, off, rfl, hb, hx⟩ := HR.out.at (by omega)
      obtain ⟨x0, x1⟩ := hx k hkl
      rw [← hbw.cell (p := ⟨g, _, none⟩) hb] at x0 x1
      obtain ⟨z1, z2⟩ := HS.out _ (ii_mem hkl)
      have HB2 := Lib.hid (HBAD.out k hkl)
      have HA2 := Lib.hid (show okI (ii is k) = true → ∀ j, j < k + 1 → okI (ii is j) = true from fun h j hj => by
        rcases Nat.lt_or_ge j k with h' | h'
        · exact hall.out j h'
        · rw [show j = k by omega]; exact h)
      clear hx
      generalize ii is k = r at x0 x1 z1 z2 HB2 HA2
      obtain ⟨rr, ro⟩ := r
      simp only at x0 x1 z1 z2
      unfold okI at HB2 HA2
      simp only at HB2 HA2
      have HC := fun W => count_any ro W (by unfold maxLen; omega)
      have HF := fun W => from_any 32 rr W (by omega) (by omega) (by omega)
      obtain ⟨Z, hZ⟩ : ∃ Z, count (bs ro) = Z := ⟨_, rfl⟩
      obtain ⟨F, hF⟩ : ∃ F, fromB 32 (bs rr) = F := ⟨_, rfl⟩
      rw [hZ] at HC HB2 HA2
      rw [hF] at HF HB2 HA2
      have HC := Lib.hid HC
      have HF := Lib.hid HF
      have k0 : (0 : Int) ≤ k := by omega
      have k1 : (k : Int) < is.length := by omega
      clear hZ hF
      have hws := hbw.size
      by_cases hz1 : Z = 1
      · subst hz1
        cases F
        · have HB3 := Lib.hid (HB2.out rfl)
          go_wp2_with (first
            | (go_at_call 63; (with_reducible refine (HC.out _).mono ?_); rintro e w1 ⟨rfl, hb1⟩; have hc0 := hb1.cell (p := ⟨wr.heap.size, 0, none⟩) (by simp))
            | (go_at_call 31; (with_reducible refine (HF.out _).mono ?_); rintro e w2 ⟨rfl, hw2⟩; obtain rfl := hw2.symm))
          go_ret
          exact ⟨ret_bool HB3.out, (hbw.alloc hws _).trans (hb1.mono (by simp; omega))⟩
        · have HA3 := Lib.hid (HA2.out rfl)
          go_wp2_with (first
            | (go_at_call 63; (with_reducible refine (HC.out _).mono ?_); rintro e w1 ⟨rfl, hb1⟩; have hc0 := hb1.cell (p := ⟨wr.heap.size, 0, none⟩) (by simp); have hc3 := hb1.cell (p := ⟨w.heap.size, 2, none⟩) (by simp; omega); have hs1 := hb1.size)
            | (go_at_call 31; (with_reducible refine (HF.out _).mono ?_); rintro e w2 ⟨rfl, hw2⟩; obtain rfl := hw2.symm))
          go_roundw
          case rel =>
            refine ⟨k + 1, by go_num, by omega, HA3, (hbw.alloc hws _).trans (hb1.mono (by simp; omega)), ?_, by simp at hs1; omega⟩
            rw [hc3, ((Below.refl wr.heap.size wr).alloc (Nat.le_refl _) _).cell (by show w.heap.size < wr.heap.size; omega)]
            exact hc2
          case measure => simp [intOf]; omega
      · have hz2 : (Z != 1) = true := by simpa using hz1
        have HB3 := Lib.hid (HB2.out (by rw [decide_eq_false hz1]; rfl))
        go_wp2_with (first
          | (go_at_call 63; (with_reducible refine (HC.out _).mono ?_); rintro e w1 ⟨rfl, hb1⟩; have hc0 := hb1.cell (p := ⟨wr.heap.size, 0, none⟩) (by simp))
          | (go_at_call 31; (with_reducible refine (HF.out _).mono ?_); rintro e w2 ⟨rfl, hw2⟩; obtain rfl := hw2.symm))
        go_ret
        exact ⟨ret_bool HB3.out, (hbw.alloc hws _).trans (hb1.mono (by simp; omega))⟩
    · have HE := Lib.hid (HREST.out (fun j hj => hall.out j (by omega)))
      by_cases h8 : p.size ≤ 8
      · rw [decide_eq_true h8] at HE
        go_wp2_with (go_at_call 31; (with_reducible refine (HP.out _).mono ?_); rintro e w2 ⟨rfl, hw2⟩; obtain rfl := hw2.symm)
        go_ret
        exact ⟨ret_bool (by simpa using HE.out), hbw⟩
      · rw [decide_eq_false h8] at HE
        go_wp2
        go_ret
        exact ⟨ret_bool (by simpa using HE.out), hbw⟩

end Go.Proofs.YtamdlbefiggkfaaGreat.Cmp

set_option linter.unusedVariables false
set_option linter.unusedSimpArgs false
set_option maxRecDepth 100000
namespace Go.Proofs.YtamdlbefiggkfaaGreat.Cmp
open Go Go.RowKit Go.Proofs.YtamdlbefiggkfaaGreat.Kit Go.Proofs.YtamdlbefiggkfaaGreat.Utf Go.Proofs.YtamdlbefiggkfaaGreat.Rom Go.Proofs.YtamdlbefiggkfaaGreat.Aut

/-- A buffer in a variable, loaded. -/
theorem load_buf {w : World} {g o : Nat} {a : Option Addr} {n k : Nat} {c : Int} {p : ByteArray} (h0 : w.cell? ⟨g, o, none⟩ = some (.slice a n k)) (h1 : w.cell? ⟨g, o + 1, none⟩ = some (.int .i64 c)) (h2 : w.cell? ⟨g, o + 2, none⟩ = some (.string p)) :
    (loadVar 25 ⟨g, o, none⟩).run Tryz.prog w = .ok (.agg #[.slice a n k, .int .i64 c, .string p]) w := by
  go_simp
theorem slice_of_own {w : World} {base : Nat} {e : TypeId} {v : Value} {n : Nat} {xs : List Value} {size : Nat} (h : w.ownsRow base e size v n xs) : ∃ a m c, v = .slice a m c := by
  rcases h.2 with ⟨rfl, _⟩ | ⟨g, cap, cur, rfl, _⟩
  · exact ⟨_, _, _, rfl⟩
  · exact ⟨_, _, _, rfl⟩

set_option maxHeartbeats 8000000 in
theorem copied_any (b : Bf) (s : Value) (w : World) (hR : ItR w s b.is) (hsh : Sh b) :
    Calls Tryz.prog 44 #[.agg #[s, .int .i64 b.c, .string b.p]] w fun e w' => ∃ v, e = .returned (.agg #[v, .int .i64 b.c, .string b.p]) ∧ w'.ownsRow w.heap.size 72 2 v b.is.length (ic b.is) ∧ Below w.heap.size w w' := by
  obtain ⟨i0, hi0, hz0, hz1, hz2⟩ := info_parts info_item
  obtain ⟨a, len, cap, rfl, hlen, hcap, hmax, _⟩ := id hR
  obtain ⟨sh1, sh2, sh3⟩ := hsh
  subst hlen
  have HR := Lib.hid hR
  have HS := Lib.hid sh1
  obtain ⟨is, c, p⟩ := b
  simp only at *
  have HC : ∀ (s : ByteArray) (w : World), s.size ≤ 1048576 → Calls Tryz.prog 26 #[.string s] w fun e w' => e = .returned (.string s) ∧ Below w.heap.size w w' := fun s w h => Clone.clone_any s w (by omega)
  have HC := Lib.hid HC
  have fact : ∀ o1 o2, o1 = Obj.cells #[.slice a is.length cap, .int .i64 c, .string p] 25 → o2 = Obj.cells #[.slice none 0 0, .int .i64 0, .string { data := #[] }] 25 → ((w.alloc o1).alloc o2).cell? ⟨w.heap.size, 0, none⟩ = some (.slice a is.length cap) ∧ ((w.alloc o1).alloc o2).cell? ⟨w.heap.size, 1, none⟩ = some (.int .i64 c) ∧ ((w.alloc o1).alloc o2).cell? ⟨w.heap.size, 2, none⟩ = some (.string p) ∧ (∀ j, j < 3 → (((w.alloc o1).alloc o2).cell? ⟨w.heap.size + 1, j, none⟩).isSome = true ∧ ((w.alloc o1).alloc o2).frozen? ⟨w.heap.size + 1, j, none⟩ = false) ∧ Below w.heap.size w ((w.alloc o1).alloc o2) ∧ w.heap.size + 2 ≤ ((w.alloc o1).alloc o2).heap.size := by
    rintro o1 o2 rfl rfl
    have e := heap_alloc_new (w.alloc (Obj.cells #[.slice a is.length cap, .int .i64 c, .string p] 25)) (Obj.cells #[.slice none 0 0, .int .i64 0, .string { data := #[] }] 25)
    have e : ((w.alloc (Obj.cells #[.slice a is.length cap, .int .i64 c, .string p] 25)).alloc (Obj.cells #[.slice none 0 0, .int .i64 0, .string { data := #[] }] 25)).heap[w.heap.size + 1]? = some (Obj.cells #[.slice none 0 0, .int .i64 0, .string { data := #[] }] 25) := by simpa using e
    refine ⟨by simp, by simp, by simp, fun j hj => ?_, ((Below.refl _ _).alloc (Nat.le_refl _) _).alloc (by simp) _, by simp⟩
    have h3 : j = 0 ∨ j = 1 ∨ j = 2 := by omega
    refine ⟨?_, ?_⟩
    · rw [cell_of_row _ _ j _ _ _ e]
      rcases h3 with rfl | rfl | rfl <;> rfl
    · unfold World.frozen?; rw [e]; rfl
  have FACT := Lib.hid fact
  clear fact sh1 hR
  go_enter Tryz.func44, Tryz.ntmps44
  go_wp2
  obtain ⟨f1, f2, f3, f4, f5, f6⟩ := FACT.out _ _ rfl rfl
  obtain ⟨W, hW⟩ : ∃ W, (w.alloc (Obj.cells #[.slice a is.length cap, .int .i64 c, .string p] 25)).alloc (Obj.cells #[.slice none 0 0, .int .i64 0, .string { data := #[] }] 25) = W := ⟨_, rfl⟩
  rw [hW] at f1 f2 f3 f4 f5 f6 ⊢
  have F4 := Lib.hid f4
  clear hW FACT f4
  go_wp2
  go_loopw [9, 3] (fun i out wr => ∃ k : Nat, i = .int .i64 k ∧ k ≤ is.length ∧ wr.ownsRow (w.heap.size + 2) 72 2 out k (ic (is.take k)) ∧ Below (w.heap.size + 2) W wr) (fun i _ _ => is.length - (intOf i).toNat)
  case atStart => exact ⟨0, rfl, Nat.zero_le _, World.ownsRow_nil _ _ _ _, Below.refl _ _⟩
  case round =>
    obtain ⟨k, rfl, hk, hown, hbw⟩ := hrel
    have hws := hbw.size
    by_cases hkl : k < is.length
    · obtain ⟨g, off, rfl, hb, hx⟩ := HR.out.at (by omega)
      obtain ⟨x0, x1⟩ := hx k hkl
      rw [← f5.cell (p := ⟨g, _, none⟩) hb, ← hbw.cell (p := ⟨g, _, none⟩) (by show g < _; omega)] at x0 x1
      obtain ⟨z1, z2⟩ := HS.out _ (ii_mem hkl)
      have hsn := Lib.hid (ic_snoc (is.take k) (ii is k))
      have hts := Lib.hid (take_succ_ii is k hkl)
      have hxl : (ic (is.take k)).length = k * 2 := by rw [ic_len, len_take_i hk]
      clear hx
      generalize ii is k = r at x0 x1 z1 z2 hsn hts
      obtain ⟨rr, ro⟩ := r
      simp only at x0 x1 z1 z2
      have k0 : (0 : Int) ≤ k := by omega
      have k1 : (k : Int) < is.length := by omega
      generalize ic (is.take k) = xs at hown hsn hxl
      obtain ⟨H, hHq⟩ : ∃ H, wr.heap.size = H := ⟨_, rfl⟩
      obtain ⟨W1, hW1⟩ : ∃ W1, wr.alloc (Obj.cells #[.string rr, .string ro] 72) = W1 := ⟨_, rfl⟩
      have g0 : W1.cell? ⟨H, 0, none⟩ = some (.string rr) := by rw [← hW1, ← hHq]; simp
      have g1 : W1.cell? ⟨H, 1, none⟩ = some (.string ro) := by rw [← hW1, ← hHq]; simp
      have g2 : W1.heap.size = H + 1 := by rw [← hW1, ← hHq]; simp
      have g3 : Below (w.heap.size + 2) W W1 := by rw [← hW1]; exact hbw.alloc (by omega) _
      have g4 := hown.alloc (Obj.cells #[.string rr, .string ro] 72)
      rw [hW1] at g4
      have hlt : ∀ j, _ → w.heap.size + 2 ≤ j ∧ j < H := fun j hj => by rw [← hHq]; exact hown.lt j hj
      have HW1 := Lib.hid hW1
      clear hown hbw hW1
      go_wp2
      simp only [HW1.out, hHq]
      go_region_held3 (fun w' => w'.cell? ⟨H, 0, none⟩ = some (.string rr) ∧ w'.cell? ⟨H, 1, none⟩ = some (.string ro) ∧ Below (w.heap.size + 2) W w' ∧ H + 1 ≤ w'.heap.size)
        (first
          | exact ⟨g0, g1, g3.drew, by simp [g2]⟩
          | (go_split_ands
             exact ⟨by rw [hb.cell (by simp; omega)]; assumption, by rw [hb.cell (by simp; omega)]; assumption, Below.trans (by assumption) (hb.mono (by omega)), Nat.le_trans (by assumption) hb.size⟩)
          | (go_split_ands
             exact ⟨by rw [World.cell?_alloc_past _ _ _ (by omega)]; assumption, by rw [World.cell?_alloc_past _ _ _ (by omega)]; assumption, Below.alloc (by assumption) (by omega) _, by simp; omega⟩)
          | (go_split_ands
             exact ⟨by rw [hgrow.cell_far _ (by first | (show H < _; omega) | (simp; omega)) (fun e1 => Nat.lt_irrefl _ (hlt _ e1.symm).2)]; assumption, by rw [hgrow.cell_far _ (by first | (show H < _; omega) | (simp; omega)) (fun e1 => Nat.lt_irrefl _ (hlt _ e1.symm).2)]; assumption, Below.grown (by assumption) hgrow (by first | omega | (simp; omega)) (fun j hj => (hlt j hj).1), Nat.le_trans (by assumption) hgrow.size⟩))
        (first
          | (go_at_call 26; (with_reducible refine (HC.out _ _ (by assumption)).mono ?_); rintro e w' ⟨rfl, hb⟩; first | have hownA := own_later hownA hb | have hownA := own_later g4.drew hb)
          | (go_split_ands
             refine step_append_lies _ (by rfl) _ _ _ (by rfl) (w.heap.size + 2) 72 i0 _ 2 32 Tryz.underlying23 hi0 hz0 hz1 hz2 rfl (by omega) _ k xs (by rfl) (hownA.alloc _)
              ⟨_, 0, none⟩ 1 1 [.string rr, .string ro] (by rfl) (by rfl) (World.news_of_block (cs := #[.string rr, .string ro]) (t := 72) (fr := (0, 0)) (heap_alloc_new _ _)) (by simp [Value.oneCell'])
              (by omega) (by unfold maxLen; omega) (by omega) (by first | omega | (simp; omega)) _ rfl ?_
             intro gg cap1 w1 hown1 hgrow hat hlt1))
      all_goals go_wp2
      all_goals
        rename_i hHeld
        obtain ⟨_, _, hB, _⟩ := hHeld
        exact ⟨⟨k + 1, by go_num, by omega, by rw [hts.out, hsn.out]; exact hown1, hB⟩, by simp [intOf]; omega⟩
    · have e1 : k = is.length := by omega
      subst e1
      rw [List.take_length] at hown
      obtain ⟨a2, n2, c2, e2⟩ := slice_of_own hown
      subst e2
      have r1 : wr.cell? ⟨w.heap.size, 1, none⟩ = some (.int .i64 c) := by rw [hbw.cell (by show w.heap.size < _; omega)]; exact f2
      have r2 : wr.cell? ⟨w.heap.size, 2, none⟩ = some (.string p) := by rw [hbw.cell (by show w.heap.size < _; omega)]; exact f3
      have q : ∀ j, j < 3 → (wr.cell? ⟨w.heap.size + 1, j, none⟩).isSome = true ∧ wr.frozen? ⟨w.heap.size + 1, j, none⟩ = false := fun j hj => by
        rw [hbw.cell (by show w.heap.size + 1 < _; omega), hbw.frozen (by show w.heap.size + 1 < _; omega)]; exact F4.out j hj
      obtain ⟨g0, y0⟩ := q 0 (by omega)
      obtain ⟨g1, y1⟩ := q 1 (by omega)
      obtain ⟨g2, y2⟩ := q 2 (by omega)
      have hbw2 : Below w.heap.size w wr := f5.trans (hbw.mono (by omega))
      have HOW := Lib.hid hown
      have hzz : w.heap.size + 2 ≤ wr.heap.size := by omega
      clear q hown hbw F4 f1 f2 f3 f5 f6 hws
      go_wp2
      go_region_held3 (fun w' => w'.cell? ⟨w.heap.size, 1, none⟩ = some (.int .i64 c) ∧ w'.cell? ⟨w.heap.size, 2, none⟩ = some (.string p) ∧ w'.cell? ⟨w.heap.size + 1, 0, none⟩ = some (cellOr w' ⟨w.heap.size + 1, 0, none⟩) ∧ w'.cell? ⟨w.heap.size + 1, 1, none⟩ = some (cellOr w' ⟨w.heap.size + 1, 1, none⟩) ∧ w'.cell? ⟨w.heap.size + 1, 2, none⟩ = some (cellOr w' ⟨w.heap.size + 1, 2, none⟩) ∧ w'.frozen? ⟨w.heap.size + 1, 0, none⟩ = false ∧ w'.frozen? ⟨w.heap.size + 1, 1, none⟩ = false ∧ w'.frozen? ⟨w.heap.size + 1, 2, none⟩ = false ∧ w.heap.size + 2 ≤ w'.heap.size)
        (first
          | exact ⟨r1, r2, cellOr_of (by rw [World.cell?_drew]; exact g0), cellOr_of (by rw [World.cell?_drew]; exact g1), cellOr_of (by rw [World.cell?_drew]; exact g2), y0, y1, y2, hzz⟩
          | (go_split_ands
             refine ⟨?_, ?_, ?_, ?_, ?_, ?_, ?_, ?_, ?_⟩
             · (rw [hb.cell (by simp; omega)]; assumption)
             · (rw [hb.cell (by simp; omega)]; assumption)
             · exact cellOr_later (by assumption) hb (by simp; omega)
             · exact cellOr_later (by assumption) hb (by simp; omega)
             · exact cellOr_later (by assumption) hb (by simp; omega)
             · (rw [hb.frozen (by simp; omega)]; assumption)
             · (rw [hb.frozen (by simp; omega)]; assumption)
             · (rw [hb.frozen (by simp; omega)]; assumption)
             · exact Nat.le_trans (by assumption) hb.size)
          | (go_split_ands
             refine ⟨?_, ?_, ?_, ?_, ?_, ?_, ?_, ?_, ?_⟩
             · simp [*, World.cell?_setCell_far]
             · simp [*, World.cell?_setCell_far]
             · exact cellOr_of (isSome_set (isSome_set (isSome_set (isSome_of (by assumption)))))
             · exact cellOr_of (isSome_set (isSome_set (isSome_set (isSome_of (by assumption)))))
             · exact cellOr_of (isSome_set (isSome_set (isSome_set (isSome_of (by assumption)))))
             · simp [*]
             · simp [*]
             · simp [*]
             · simp [*]))
        ((go_at_call 26; (with_reducible refine (HC.out _ _ (by assumption)).mono ?_); rintro e w' ⟨rfl, hb⟩))
      all_goals go_wp2
      all_goals (try simp only [Exit.inBlock, Exit.then])
      all_goals
        have cW : Below wr.heap.size wr w' := (Below.refl _ _).drew.trans hb
        have ow := own_later HOW.out cW
        refine bodyPost_ret (v := .agg #[.slice a2 n2 c2, .int .i64 c, .string p]) ?_ rfl ⟨_, rfl, own_base (ownsRow_setCell_below (ownsRow_setCell_below (ownsRow_setCell_below ow (by show w.heap.size + 1 < _; omega) _) (by show w.heap.size + 1 < _; omega) _) (by show w.heap.size + 1 < _; omega) _) (by omega), Below.setCell (Below.setCell (Below.setCell (hbw2.trans (cW.mono (by omega))) (by show _ ≤ w.heap.size + 1; omega) _) (by show _ ≤ w.heap.size + 1; omega) _) (by show _ ≤ w.heap.size + 1; omega) _⟩
        rw [results_cell1 rfl]
        show ((loadVar 25 ⟨w.heap.size + 1, 0, none⟩).run Tryz.prog _) = _
        obtain ⟨q0, q1, q2⟩ := three_set (w := w') (g := w.heap.size + 1) (x := .slice a2 n2 c2) (y := .int .i64 c) (z := .string p) (by rw [cW.cell (by show w.heap.size + 1 < _; omega)]; exact g0) (by rw [cW.cell (by show w.heap.size + 1 < _; omega)]; exact g1) (by rw [cW.cell (by show w.heap.size + 1 < _; omega)]; exact g2)
        exact load_buf q0 q1 q2

end Go.Proofs.YtamdlbefiggkfaaGreat.Cmp

set_option linter.unusedVariables false
set_option linter.unusedSimpArgs false
set_option maxRecDepth 100000
namespace Go.Proofs.YtamdlbefiggkfaaGreat.Cmp
open Go Go.RowKit Go.Proofs.YtamdlbefiggkfaaGreat.Kit Go.Proofs.YtamdlbefiggkfaaGreat.Utf Go.Proofs.YtamdlbefiggkfaaGreat.Rom Go.Proofs.YtamdlbefiggkfaaGreat.Aut

theorem grow_any (n : Nat) (w : World) (hn : n ≤ 1000000000000) :
    Calls Tryz.prog 84 #[.slice none 0 0, .int .i64 n] w fun e w' => ∃ v, e = .returned v ∧ w'.ownsRow w.heap.size 72 2 v 0 [] ∧ Below w.heap.size w w' := by
  by_cases h0 : n = 0
  · subst h0
    have e0 : ((0 : Nat) : Int) = 0 := rfl
    rw [e0]
    go_enter Tryz.func84, Tryz.ntmps84
    go_wp2
    go_ret
    exact ⟨_, rfl, World.ownsRow_nil _ _ _ _, Below.refl _ _⟩
  obtain ⟨i0, hi0, hz0, hz1, hz2⟩ := info_parts info_item
  have hr := Lib.run_append_nil_zeros (P := Tryz.prog) w 23 3 23 72 i0 _ .i64 .i64 Tryz.underlying23 Tryz.underlying3 hi0 hz0 n (by omega) (by omega) (by omega) (by rw [hz2]; omega)
  have hc1 := grownCap_ge w n 0 72
  have hc2 := grownCap_le_maxLen w n 0 72 (by unfold maxLen; omega)
  generalize grownCap w n 0 72 = C at hr hc1 hc2
  have hsz : (Builtin.zeroCells (Value.agg #[.string { data := #[] }, .string { data := #[] }]).cells n ++ Builtin.zeroCells (Value.agg #[.string { data := #[] }, .string { data := #[] }]).cells (C - n)).size = C * 2 := by
    rw [Array.size_append, size_zeroCells, size_zeroCells]
    show n * 2 + (C - n) * 2 = C * 2
    omega
  generalize Builtin.zeroCells (Value.agg #[.string { data := #[] }, .string { data := #[] }]).cells n ++ Builtin.zeroCells (Value.agg #[.string { data := #[] }, .string { data := #[] }]).cells (C - n) = cur at hr hsz
  have hown := World.ownsRow_made (e := 72) (size := 2) (base := w.heap.size) w.drew cur C (Nat.le_refl _) hc2 hsz
  have hbel : Below w.heap.size w (w.drew.alloc (.cells cur 72)) := (Below.refl _ _).drew.alloc (Nat.le_refl _) _
  obtain ⟨W, hW⟩ : ∃ W, w.drew.alloc (.cells cur 72) = W := ⟨_, rfl⟩
  rw [hW] at hr hown hbel
  have HR := Lib.hid hr
  have n0 : (0 : Int) < n := by omega
  have c0 : (0 : Int) ≤ C := by omega
  have c1 : (n : Int) ≤ C := by omega
  have HOW := Lib.hid hown
  clear hr hW hown hc2 hsz hz0 hz1 hz2 hi0
  go_enter Tryz.func84, Tryz.ntmps84
  go_wp2_with (at_builtin; refine Lib.wpList_append_run _ rfl _ _ _ _ rfl _ _ rfl rfl _ _ HR.out ?_)
  go_ret
  exact ⟨_, rfl, HOW.out, hbel⟩

theorem wp_append_items {ops : Array Oper} {rest : List Oper} {o : Oper} {a : Act} {Q : Exit → Act → World → Prop} (hgd : o.guard = none) (s x : Operand)
    (ho : o.op = .call { callee := .builtin .append, args := #[s, x], argTypes := #[23, 23] })
    (w : World) (base : Nat) (v : Value) (n : Nat) (xs : List Value) (hs : a.eval s = v) (hown : w.ownsRow base 72 2 v n xs)
    (y : Value) (is : List It) (hx : a.eval x = y) (hR : ItR w y is) (h63 : n + is.length ≤ 1000000000000) (hbase : base ≤ w.heap.size)
    (h : ∀ v' w', w'.ownsRow base 72 2 v' (n + is.length) (xs ++ ic is) → w.grownBy w' v.ownBlock → wpList Tryz.prog ops Q rest (a.put o.dst v') w') :
    wpList Tryz.prog ops Q (o :: rest) a w := by
  refine wpList_plain hgd fun K hK => ?_
  obtain ⟨v', w', hr, h2, h3⟩ := run_append_items w base v n xs hown y is hR h63 hbase o.type
  unfold Oper.wp execOp
  simp only [ho, resolve, invoke, builtin, Sem.run_bind, Sem.run_pure, Result.andThen_ok, List.map_toArray, List.map_cons, List.map_nil, hs, hx, hr]
  exact hK _ _ (h v' w' h2 h3)

theorem ItR.grown {w w' : World} {v : Value} {is : List It} (h : ItR w v is) {row : Option Nat} (hg : w.grownBy w' row) (hne : ∀ k, row = some k → ∀ b, v.ownBlock = some b → b ≠ k) : ItR w' v is := by
  obtain ⟨a, len, cap, rfl, hl, hc, hm, h⟩ := h
  refine ⟨a, len, cap, rfl, hl, hc, hm, ?_⟩
  rcases h with h | h | ⟨b, off, rfl, hlt, hx⟩
  · exact .inl h
  · exact .inr (.inl h)
  · refine .inr (.inr ⟨b, off, rfl, Nat.lt_of_lt_of_le hlt hg.size, fun i hi => ?_⟩)
    have hn : some b ≠ row := fun e => hne b e.symm b rfl rfl
    obtain ⟨h1, h2⟩ := hx i hi
    exact ⟨by rw [World.cell?_of_block (hg.block b hlt hn)]; exact h1, by rw [World.cell?_of_block (hg.block b hlt hn)]; exact h2⟩

set_option maxHeartbeats 8000000 in
theorem concat_any (g : Nat) (v1 v2 v3 : Value) (l1 l2 l3 : List It) (t : TypeId) (w : World) (hg : w.heap[g]? = some (.cells #[v1, v2, v3] t (0, 0))) (h1 : ItR w v1 l1) (h2 : ItR w v2 l2) (h3 : ItR w v3 l3) (hn : l1.length + l2.length + l3.length ≤ 100000000000) :
    Calls Tryz.prog 67 #[.slice (some ⟨g, 0, none⟩) 3 3] w fun e w' => ∃ v, e = .returned v ∧ w'.ownsRow w.heap.size 72 2 v (l1.length + l2.length + l3.length) (ic (l1 ++ l2 ++ l3)) ∧ Below w.heap.size w w' := by
  have hgl : g < w.heap.size := (Array.getElem?_eq_some_iff.1 hg).1
  have c0 : w.cell? ⟨g, 0, none⟩ = some v1 := by rw [cell_of_row w g 0 _ _ _ hg]; rfl
  have c1 : w.cell? ⟨g, 1, none⟩ = some v2 := by rw [cell_of_row w g 1 _ _ _ hg]; rfl
  have c2 : w.cell? ⟨g, 2, none⟩ = some v3 := by rw [cell_of_row w g 2 _ _ _ hg]; rfl
  obtain ⟨a1, n1, k1, rfl, e1, _⟩ := id h1
  obtain ⟨a2, n2, k2, rfl, e2, _⟩ := id h2
  obtain ⟨a3, n3, k3, rfl, e3, _⟩ := id h3
  have HG : Hid (∀ (z : Int) (n : Nat) (W : World), z = n → n ≤ 1000000000000 → Calls Tryz.prog 84 #[.slice none 0 0, .int .i64 z] W fun e w' => ∃ v, e = .returned v ∧ w'.ownsRow W.heap.size 72 2 v 0 [] ∧ Below W.heap.size W w') := Lib.hid fun z n W e h => by subst e; exact grow_any n W h
  have H1 := Lib.hid h1
  have H2 := Lib.hid h2
  have H3 := Lib.hid h3
  clear h1 h2 h3 hg
  subst e1 e2 e3
  go_enter Tryz.func67, Tryz.ntmps67
  go_wp2
  refine wp_loop_rounds 4 ?_
  repeat any_goals (rw [rounds_succ]; go_wp2_with (go_at_call 84; (with_reducible refine (HG.out _ (l1.length + l2.length + l3.length) _ (by omega) (by omega)).mono ?_); rintro e w1 ⟨v1, rfl, hown1, hb1⟩))
  have hw1 := hb1.size
  have d0 := (hb1.cell (p := ⟨g, 0, none⟩) hgl).trans c0
  have d1 := (hb1.cell (p := ⟨g, 1, none⟩) hgl).trans c1
  have d2 := (hb1.cell (p := ⟨g, 2, none⟩) hgl).trans c2
  have R1 := Lib.hid (H1.out.later hb1 (Nat.le_refl _))
  refine wp_loop_rounds 4 ?_
  repeat any_goals (rw [rounds_succ]; go_wp2_with (first
    | (at_builtin; refine wp_append_items (by rfl) _ _ (by rfl) _ w.heap.size _ 0 [] (by rfl) hown1 _ l1 (by rfl) R1.out (by omega) (by omega) ?_; intro v2 w2 hown2 hg2; have hb2 := hb1.grown hg2 hw1 (fun j hj => (hown1.lt j hj).1); have hw2 := hb2.size; have f1 := (hb2.cell (p := ⟨g, 1, none⟩) hgl).trans c1; have f2 := (hb2.cell (p := ⟨g, 2, none⟩) hgl).trans c2; have R2 := Lib.hid (H2.out.later hb2 (Nat.le_refl _)); clear R1)
    | (at_builtin; refine wp_append_items (by rfl) _ _ (by rfl) _ w.heap.size _ _ _ (by rfl) hown2 _ l2 (by rfl) R2.out (by omega) (by omega) ?_; intro v3 w3 hown3 hg3; have hb3 := hb2.grown hg3 hw2 (fun j hj => (hown2.lt j hj).1); have hw3 := hb3.size; have g2 := (hb3.cell (p := ⟨g, 2, none⟩) hgl).trans c2; have R3 := Lib.hid (H3.out.later hb3 (Nat.le_refl _)); clear R2)
    | (at_builtin; refine wp_append_items (by rfl) _ _ (by rfl) _ w.heap.size _ _ _ (by rfl) hown3 _ l3 (by rfl) R3.out (by omega) (by omega) ?_; intro v4 w4 hown4 hg4; have hb4 := hb3.grown hg4 hw3 (fun j hj => (hown3.lt j hj).1); clear R3)))
  go_ret
  rw [ic_append, ic_append]
  simp only [Nat.zero_add, List.nil_append] at hown4
  exact ⟨_, rfl, hown4, hb4⟩

end Go.Proofs.YtamdlbefiggkfaaGreat.Cmp

set_option linter.unusedVariables false
set_option linter.unusedSimpArgs false
set_option maxRecDepth 100000
namespace Go.Proofs.YtamdlbefiggkfaaGreat.Cmp
open Go Go.RowKit Go.Proofs.YtamdlbefiggkfaaGreat.Kit Go.Proofs.YtamdlbefiggkfaaGreat.Utf Go.Proofs.YtamdlbefiggkfaaGreat.Rom Go.Proofs.YtamdlbefiggkfaaGreat.Aut

def noIt : It := ⟨⟨#[]⟩, ⟨#[]⟩⟩
/-- The items when k of them are written. -/
def part (cs : List Int) (k : Nat) : List It := (cs.take k).map (fun c => ⟨⟨#[]⟩, Utf8.encode c⟩) ++ List.replicate (cs.length - k) noIt
theorem part_len (cs : List Int) (k : Nat) (h : k ≤ cs.length) : (part cs k).length = cs.length := by unfold part; simp; omega
theorem ic_part_set (cs : List Int) (k : Nat) (h : k < cs.length) : (ic (part cs k)).set (k * 2 + 1) (.string (Utf8.encode cs[k])) = ic (part cs (k + 1)) := by
  unfold part
  rw [ic_append, ic_append]
  have hl : (ic ((cs.take k).map (fun c => (⟨⟨#[]⟩, Utf8.encode c⟩ : It)))).length = k * 2 := by rw [ic_len, List.length_map, List.length_take]; omega
  rw [List.set_append_right _ _ (by omega), hl]
  obtain ⟨m, hm⟩ : ∃ m, cs.length - k = m + 1 := ⟨cs.length - k - 1, by omega⟩
  rw [hm, show cs.length - (k + 1) = m by omega, List.replicate_succ, List.take_succ_eq_append_getElem h, List.map_append, ic_append]
  rw [show k * 2 + 1 - k * 2 = 1 by omega, ic_cons, List.append_assoc]
  rfl
theorem part_all (cs : List Int) : part cs cs.length = cs.map (fun c => ⟨⟨#[]⟩, Utf8.encode c⟩) := by unfold part; simp
theorem ic_part_first (raw : ByteArray) (cs : List Int) (h : 0 < cs.length) : (ic (part cs cs.length)).set 0 (.string raw) = ic (itemsL raw cs) := by
  rw [part_all]
  cases cs with
  | nil => simp at h
  | cons c cs => rfl
theorem ic_part_zero (cs : List Int) : ic (part cs 0) = (madeCells (Value.agg #[.string { data := #[] }, .string { data := #[] }]).cells (cs.length * 2)).toList := by
  unfold part
  simp only [List.take_zero, List.map_nil, List.nil_append, Nat.sub_zero]
  apply List.ext_getElem?
  intro j
  have hl : (ic (List.replicate cs.length noIt)).length = cs.length * 2 := by rw [ic_len, List.length_replicate]
  by_cases hj : j < cs.length * 2
  · have h1 : ∀ u, (ic (List.replicate cs.length noIt))[j]? = some u → u = .string ⟨#[]⟩ := by
      intro u hu
      have hm := List.mem_of_getElem? hu
      unfold ic at hm
      obtain ⟨x, hx, hu2⟩ := List.mem_flatMap.1 hm
      rw [List.eq_of_mem_replicate hx] at hu2
      unfold icells noIt at hu2
      simpa using hu2
    rw [List.getElem?_eq_getElem (by omega), h1 _ (List.getElem?_eq_getElem (by omega))]
    rw [Array.getElem?_toList]
    have h2 : (Value.agg #[.string { data := #[] }, .string { data := #[] }]).cells = #[.string { data := #[] }, .string { data := #[] }] := rfl
    rw [h2]
    simp only [madeCells, List.size_toArray, List.length_cons, List.length_nil, Array.getElem?_map, Array.getElem?_range]
    rw [if_pos hj, Option.map_some]
    have h3 : 0 + 1 + 1 = 2 := rfl
    rw [h3]
    rcases Nat.mod_two_eq_zero_or_one j with e | e <;> rw [e] <;> rfl
  · rw [List.getElem?_eq_none (by omega), List.getElem?_eq_none (by rw [Array.length_toList, size_madeCells]; omega)]

theorem reads_at {w : World} {a : Option Addr} {n cap : Nat} {xs : List Value} (h : Reads w (.slice a n cap) xs) (h0 : 0 < n) : ∃ b off, a = some ⟨b, off, none⟩ ∧ b < w.heap.size ∧ ∀ i x, xs[i]? = some x → w.cell? ⟨b, off + i, none⟩ = some x := by
  obtain ⟨a', n', cap', e, h1, h2, h3, h4⟩ := h
  cases e
  rcases h4 with ⟨rfl, hl, _⟩ | ⟨x, rfl, hl⟩ | h4
  · omega
  · omega
  · exact h4

set_option maxHeartbeats 4000000 in
theorem items_any (raw : ByteArray) (cs : List Int) (v : Value) (w : World) (hR : Reads w v (ints cs)) (hn : cs.length ≤ 1000000000) :
    Calls Tryz.prog 36 #[.string raw, v] w fun e w' => ∃ v', e = .returned v' ∧ w'.ownsRow w.heap.size 72 2 v' cs.length (ic (itemsL raw cs)) ∧ Below w.heap.size w w' := by
  obtain ⟨i0, hi0, hz0, hz1, hz2⟩ := info_parts info_item
  obtain ⟨a, len, cap, rfl, hlen, hcap, hmax, _⟩ := id hR
  rw [List.length_map] at hlen
  subst hlen
  have HR := Lib.hid hR
  have make : ∀ W : World, (Instr.makeSlice 23 (.int .i64 (cs.length : Int)) (.int .i64 (cs.length : Int))).run Tryz.prog W = .ok (.slice (some ⟨W.heap.size, 0, none⟩) cs.length cs.length) (W.alloc (.cells (madeCells (Value.agg #[.string { data := #[] }, .string { data := #[] }]).cells (cs.length * 2)) 72)) := fun W => by
    have h := run_make (P := Tryz.prog) W 23 72 i0 _ Tryz.underlying23 hi0 hz0 .i64 .i64 (cs.length : Int) (cs.length : Int) (by omega) (by omega) (by rw [hz2]; omega) (by omega)
    rw [hz1] at h
    simpa using h
  have hown0 := World.ownsRow_lit (e := 72) (size := 2) (base := w.heap.size) w (madeCells (Value.agg #[.string { data := #[] }, .string { data := #[] }]).cells (cs.length * 2)) cs.length (Nat.le_refl _) (by unfold maxLen; omega) (size_madeCells _ _)
  rw [← ic_part_zero] at hown0
  generalize madeCells (Value.agg #[.string { data := #[] }, .string { data := #[] }]).cells (cs.length * 2) = M at make hown0
  have hb0 : Below w.heap.size w (w.alloc (.cells M 72)) := (Below.refl _ _).alloc (Nat.le_refl _) _
  obtain ⟨W, hW⟩ : ∃ W, w.alloc (.cells M 72) = W := ⟨_, rfl⟩
  have make0 := make w
  rw [hW] at make0 hown0 hb0
  have HOW := Lib.hid hown0
  clear hR hz0 hz1 hz2 hi0 hW make hown0
  go_enter Tryz.func36, Tryz.ntmps36
  go_wp2
  go_loopw [13, 6, 7] (fun i _ _ wr => ∃ k : Nat, i = .int .i64 k ∧ k ≤ cs.length ∧ wr.ownsRow w.heap.size 72 2 (.slice (some ⟨w.heap.size, 0, none⟩) cs.length cs.length) cs.length (ic (part cs k)) ∧ Below w.heap.size w wr) (fun i _ _ _ => cs.length - (intOf i).toNat)
  case atStart => exact ⟨0, rfl, Nat.zero_le _, HOW.out, hb0⟩
  case round =>
    obtain ⟨k, rfl, hk, hown, hbw⟩ := hrel
    by_cases hkl : k < cs.length
    · obtain ⟨b, off, rfl, hb, hx⟩ := reads_at HR.out (by omega)
      have x0 := hx k (.int .i32 cs[k]) (by rw [List.getElem?_map, List.getElem?_eq_getElem hkl]; rfl)
      rw [← hbw.cell (p := ⟨b, _, none⟩) hb] at x0
      have hset := Lib.hid (ic_part_set cs k hkl)
      have hpl : (ic (part cs k)).length = cs.length * 2 := by rw [ic_len, part_len cs k hk]
      obtain ⟨y, e0⟩ : ∃ y, wr.cell? ⟨w.heap.size, k * 2 + 1, none⟩ = some y := ⟨_, by rw [hown.cellAt _ (by omega)]; exact List.getElem?_eq_getElem (by omega)⟩
      have f0 := hown.frozenAt (k * 2 + 1)
      obtain ⟨hst, hgr⟩ := hown.stored (k * 2 + 1) (.string (Utf8.encode cs[k]))
      rw [hset.out] at hst
      have HST := Lib.hid hst
      have HGR := Lib.hid hgr
      generalize cs[k] = z at x0 HST HGR
      have k0 : (0 : Int) ≤ k := by omega
      have k1 : (k : Int) < cs.length := by omega
      clear hx hset hst hgr hown hpl
      go_wp2
      go_roundw
      case rel => exact ⟨k + 1, by go_num, by omega, HST.out, hbw.grown HGR.out hbw.size (fun j hj => by cases hj; exact Nat.le_refl _)⟩
      case measure => simp [intOf]; omega
    · have e1 : k = cs.length := by omega
      subst e1
      by_cases h0 : 0 < cs.length
      · have hset := Lib.hid (ic_part_first raw cs h0)
        have hpl : (ic (part cs cs.length)).length = cs.length * 2 := by rw [ic_len, part_len cs _ (Nat.le_refl _)]
        obtain ⟨y, e0⟩ : ∃ y, wr.cell? ⟨w.heap.size, 0, none⟩ = some y := ⟨_, by rw [hown.cellAt _ (by omega)]; exact List.getElem?_eq_getElem (by omega)⟩
        have f0 := hown.frozenAt 0
        obtain ⟨hst, hgr⟩ := hown.stored 0 (.string raw)
        rw [hset.out] at hst
        have HST := Lib.hid hst
        have HGR := Lib.hid hgr
        have k1 : (0 : Int) < cs.length := by omega
        clear hset hst hgr hown hpl
        go_wp2
        go_ret
        exact ⟨_, rfl, HST.out, hbw.grown HGR.out hbw.size (fun j hj => by cases hj; exact Nat.le_refl _)⟩
      · have e0 : cs = [] := List.eq_nil_of_length_eq_zero (by omega)
        subst e0
        go_wp2
        go_ret
        exact ⟨_, rfl, hown, hbw⟩

end Go.Proofs.YtamdlbefiggkfaaGreat.Cmp

set_option linter.unusedVariables false
set_option linter.unusedSimpArgs false
set_option maxRecDepth 100000
namespace Go.Proofs.YtamdlbefiggkfaaGreat.Cmp
open Go Go.RowKit Go.Proofs.YtamdlbefiggkfaaGreat.Kit Go.Proofs.YtamdlbefiggkfaaGreat.Utf Go.Proofs.YtamdlbefiggkfaaGreat.Rom Go.Proofs.YtamdlbefiggkfaaGreat.Aut

def setL : List Value → Nat → List Value → List Value
  | xs, _, [] => xs
  | xs, o, v :: vs => setL (xs.set o v) (o + 1) vs
theorem setL_is : ∀ (vs xs : List Value) (o : Nat), o + vs.length ≤ xs.length → setL xs o vs = xs.take o ++ vs ++ xs.drop (o + vs.length)
  | [], xs, o, _ => by simp [setL]
  | v :: vs, xs, o, h => by
    rw [List.length_cons] at h
    unfold setL
    rw [setL_is vs _ _ (by rw [List.length_set]; omega)]
    rw [List.take_set, List.drop_set_of_lt (by omega)]
    rw [List.take_succ_eq_append_getElem (by omega), List.set_append_right _ _ (by simp; omega)]
    have e : (xs.take o).length = o := by rw [List.length_take]; omega
    rw [e, Nat.sub_self, List.set_cons_zero, List.length_cons, show o + 1 + vs.length = o + (vs.length + 1) by omega]
    simp
theorem own_setCells {base : Nat} {e : TypeId} {size g n cap : Nat} : ∀ (vs : List Value) (w : World) (xs : List Value) (o : Nat), w.ownsRow base e size (.slice (some ⟨g, 0, none⟩) n cap) n xs → (w.setCells g o vs).ownsRow base e size (.slice (some ⟨g, 0, none⟩) n cap) n (setL xs o vs)
  | [], w, xs, o, h => h
  | v :: vs, w, xs, o, h => own_setCells vs _ _ (o + 1) (h.stored o v).1
theorem own_shrink {w : World} {base : Nat} {e : TypeId} {size g n cap m : Nat} {xs : List Value} (h : w.ownsRow base e size (.slice (some ⟨g, 0, none⟩) n cap) n xs) (hm : m ≤ n) : w.ownsRow base e size (.slice (some ⟨g, 0, none⟩) m cap) m (xs.take (m * size)) := by
  have hl := h.1
  have hms : m * size ≤ n * size := Nat.mul_le_mul_right _ hm
  refine ⟨by rw [List.length_take, hl]; omega, ?_⟩
  rcases h.2 with ⟨h1, _⟩ | ⟨g', cap', cur, h1, hb, hg, hnc, hcm, hcs, htake⟩
  · cases h1
  · cases h1
    exact .inr ⟨g, cap, cur, rfl, hb, hg, by omega, hcm, hcs, by rw [← htake, List.take_take, Nat.min_eq_left hms]⟩

theorem run_clear_item (W : World) (ty : TypeId) (g o c : Nat) (h0 : (W.cell? ⟨g, o, none⟩).isSome = true) (h1 : (W.cell? ⟨g, o + 1, none⟩).isSome = true) (f0 : W.frozen? ⟨g, o, none⟩ = false) (f1 : W.frozen? ⟨g, o + 1, none⟩ = false) :
    (Builtin.clear_ #[23] ty #[.slice (some ⟨g, o, none⟩) 1 c]).run Tryz.prog W = .ok (.tuple #[]) (W.setCells g o [.string { data := #[] }, .string { data := #[] }]) := by
  have hst := run_storeCells_cells (P := Tryz.prog) g o [.string { data := #[] }, .string { data := #[] }] 0 W (by
    intro j hj
    have : j = 0 ∨ j = 1 := by simp at hj; omega
    rcases this with rfl | rfl
    · exact h0
    · exact h1) (by
    intro j hj
    have : j = 0 ∨ j = 1 := by simp at hj; omega
    rcases this with rfl | rfl
    · exact f0
    · exact f1) (by intro v hv; simp at hv; subst hv; rfl)
  simp only [Nat.add_zero] at hst
  have hz : (zeroValue 72).run Tryz.prog W = .ok (.agg #[.string { data := #[] }, .string { data := #[] }]) W := by kernel_rfl
  have hzc : (Builtin.zeroCells (Value.agg #[.string { data := #[] }, .string { data := #[] }]).cells 1).toList = [.string { data := #[] }, .string { data := #[] }] := by kernel_rfl
  simp [Builtin.clear_, run_underlying Tryz.underlying23, hz, hzc, hst]

theorem erase_take_drop (is : List It) (k : Nat) : is.eraseIdx k = is.take k ++ is.drop (k + 1) := List.eraseIdx_eq_take_drop_succ ..

set_option maxHeartbeats 4000000 in
theorem delete_any (base g cap k : Nat) (z : Int) (is : List It) (w : World) (hown : w.ownsRow base 72 2 (.slice (some ⟨g, 0, none⟩) is.length cap) is.length (ic is)) (hk : k < is.length) (hz : z = k) (hn : is.length ≤ 1048576) :
    Calls Tryz.prog 48 #[.slice (some ⟨g, 0, none⟩) is.length cap, .int .i64 z, .int .i64 (z + 1)] w fun e w' => e = .returned (.slice (some ⟨g, 0, none⟩) (is.length - 1) cap) ∧ w'.ownsRow base 72 2 (.slice (some ⟨g, 0, none⟩) (is.length - 1) cap) (is.length - 1) (ic (is.eraseIdx k)) ∧ Below base w w' := by
  subst hz
  obtain ⟨i0, hi0, hz0, hz1, hz2⟩ := info_parts info_item
  obtain ⟨hg, hcap, hmx⟩ : base ≤ g ∧ is.length ≤ cap ∧ cap ≤ maxLen := by
    rcases hown.2 with ⟨h1, _⟩ | ⟨g', c', cur, h1, hb, _, h2, h3, _⟩
    · cases h1
    · cases h1; exact ⟨hb, h2, h3⟩
  unfold maxLen at hmx
  have hxl : (ic is).length = is.length * 2 := ic_len is
  have hcell : ∀ W, (W = w ∨ W = w.drew) → ∀ j, j < is.length * 2 → W.cell? ⟨g, j, none⟩ = (ic is)[j]? := by
    rintro W (rfl | rfl) j hj
    · exact hown.cellAt j hj
    · exact hown.cellAt j hj
  have hfz : ∀ j, w.drew.frozen? ⟨g, j, none⟩ = false := fun j => hown.frozenAt j
  obtain ⟨news, hnews⟩ : ∃ news, news = (ic is).drop ((k + 1) * 2) := ⟨_, rfl⟩
  have hnl : news.length = (is.length - (k + 1)) * 2 := by rw [hnews, List.length_drop, hxl]; omega
  have hget : ∀ j u, news[j]? = some u → w.drew.cell? ⟨g, (k + 1) * 2 + j, none⟩ = some u := fun j u hu => by
    have hj : j < news.length := (List.getElem?_eq_some_iff.1 hu).1
    rw [hcell _ (.inr rfl) _ (by omega), ← hu, hnews, List.getElem?_drop]
  have h1c : ∀ u ∈ news, u.oneCell' = true := fun u hu => ic_oneCell is u (by rw [hnews] at hu; exact List.mem_of_mem_drop hu)
  obtain ⟨A, hA, hsrc⟩ : ∃ A : Addr, (if cap = k + 1 then some (⟨g, 0, none⟩ : Addr) else some ⟨g, (k + 1) * 2, none⟩) = some A ∧ Hid (∀ t u, news[t]? = some u → w.drew.cell? (A.add t) = some u) := by
    by_cases h : cap = k + 1
    · refine ⟨⟨g, 0, none⟩, by simp [h], Lib.hid fun t u hu => ?_⟩
      have h0 : news = [] := List.eq_nil_of_length_eq_zero (by omega)
      rw [h0] at hu; simp at hu
    · refine ⟨⟨g, (k + 1) * 2, none⟩, by simp [h], Lib.hid fun t u hu => ?_⟩
      rw [Addr.add_lit]; exact hget t u hu
  have S3 := Lib.hid (show ∀ t, t < news.length → (w.drew.cell? ⟨g, 0 + k * 2 + t, none⟩).isSome = true ∧ w.drew.frozen? ⟨g, 0 + k * 2 + t, none⟩ = false from fun t ht => ⟨by rw [hcell _ (.inr rfl) _ (by omega), List.getElem?_eq_getElem (by omega)]; rfl, hfz _⟩)
  obtain ⟨W1, hW1⟩ : ∃ W1, W1 = w.drew.setCells g (0 + k * 2) news := ⟨_, rfl⟩
  have hown1 : W1.ownsRow base 72 2 (.slice (some ⟨g, 0, none⟩) is.length cap) is.length (setL (ic is) (k * 2) news) := by
    rw [hW1, Nat.zero_add]; exact own_setCells news w.drew (ic is) (k * 2) hown
  have hb1 : Below base w W1 := by rw [hW1]; exact Lib.below_setCells g hg _ _ (Below.refl _ _).drew
  have hsl : setL (ic is) (k * 2) news = ic (is.take k) ++ ic (is.drop (k + 1)) ++ (ic is).drop ((is.length - 1) * 2) := by
    have h3 : (ic (is.drop (k + 1))).length = (is.length - (k + 1)) * 2 := by rw [ic_len, List.length_drop]
    rw [setL_is _ _ _ (by omega), hnews, ic_take, ic_drop, h3, show k * 2 + (is.length - (k + 1)) * 2 = (is.length - 1) * 2 by omega]
  have hl1 : (setL (ic is) (k * 2) news).length = is.length * 2 := by have := hown1.1; omega
  obtain ⟨y0, e0⟩ : ∃ y, W1.cell? ⟨g, (is.length - 1) * 2, none⟩ = some y := ⟨_, by rw [hown1.cellAt _ (by omega)]; exact List.getElem?_eq_getElem (by omega)⟩
  obtain ⟨y1, e1⟩ : ∃ y, W1.cell? ⟨g, (is.length - 1) * 2 + 1, none⟩ = some y := ⟨_, by rw [hown1.cellAt _ (by omega)]; exact List.getElem?_eq_getElem (by omega)⟩
  have hcl := Lib.hid (fun ty c => run_clear_item W1 ty g ((is.length - 1) * 2) c (by rw [e0]; rfl) (by rw [e1]; rfl) (hown1.frozenAt _) (hown1.frozenAt _))
  have hfin := own_shrink (m := is.length - 1) (own_setCells [.string { data := #[] }, .string { data := #[] }] W1 _ ((is.length - 1) * 2) hown1) (by omega)
  have hfl : (setL (setL (ic is) (k * 2) news) ((is.length - 1) * 2) [.string { data := #[] }, .string { data := #[] }]).take ((is.length - 1) * 2) = ic (is.eraseIdx k) := by
    rw [setL_is _ _ _ (by rw [hl1]; simp; omega), List.append_assoc, List.take_append_of_le_length (by rw [List.length_take, hl1]; omega), List.take_take, Nat.min_self, hsl, erase_take_drop, ← ic_append]
    have h2 : (ic (is.take k ++ is.drop (k + 1))).length = (is.length - 1) * 2 := by rw [ic_len]; simp; omega
    rw [List.take_append_of_le_length (by omega), List.take_of_length_le (by omega)]
  rw [hfl] at hfin
  have HF := Lib.hid hfin
  have hbf := Lib.below_setCells g hg [.string { data := #[] }, .string { data := #[] }] ((is.length - 1) * 2) hb1
  have HBF := Lib.hid hbf
  have HW := Lib.hid hW1
  have k0 : (0 : Int) ≤ k := by omega
  have k1 : (k : Int) ≤ cap := by omega
  have k2 : (k : Int) + 1 ≤ is.length := by omega
  have k3 : (is.length : Int) ≤ cap := by omega
  have k4 : (k : Int) + 1 ≤ cap := by omega
  have k5 : (0 : Int) ≤ (k : Int) + 1 := by omega
  clear hW1 hown1 hsl hl1 hfin hfl hbf hget hcell hfz hown hnews e0 e1 hb1
  go_enter Tryz.func48, Tryz.ntmps48
  go_wp2_with fail
  go_region_law (refine step_append_room rfl (.tmp 22) (.tmp 25) 23 rfl 72 i0 2 Tryz.underlying23 hi0 hz1 g 0 k cap (by simp [Act.eval, Act.put]) A (is.length - (k + 1)) (cap - (k + 1)) news (by simp [Act.eval, Act.put]) hnl hsrc.out h1c (by omega) S3.out ?_; rw [← HW.out])
  have hm : k + (is.length - (k + 1)) = is.length - 1 := by omega
  rw [hm]
  obtain ⟨m, hm⟩ : ∃ m, is.length - 1 = m := ⟨_, rfl⟩
  rw [hm] at hcl HF HBF ⊢
  have m0 : (0 : Int) ≤ m := by omega
  have m1 : (m : Int) ≤ is.length := by omega
  have m2 : is.length - m = 1 := by omega
  have m3 : ¬ cap = m := by omega
  have m4 : (m : Int) ≤ cap := by omega
  have hcr := hcl.out
  go_wp2
  go_ret
  rw [hm]
  exact ⟨rfl, HF.out, HBF.out⟩

end Go.Proofs.YtamdlbefiggkfaaGreat.Cmp
