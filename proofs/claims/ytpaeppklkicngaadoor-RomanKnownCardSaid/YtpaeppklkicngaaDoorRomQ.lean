/-
  Contracts of the program's splitting and readLine.
-/
import Derived.Test.YtpaeppklkicngaaDoorRomP
import Derived.Test.YtpaeppklkicngaaDoorRomG
set_option linter.unusedVariables false
set_option linter.unusedSimpArgs false
set_option maxRecDepth 100000
namespace Go.Proofs.YtpaeppklkicngaaDoor.Rom
open Go Go.RowKit Go.Shelf Go.Proofs.YtpaeppklkicngaaDoor.Kit Go.Proofs.YtpaeppklkicngaaDoor.Utf

theorem info_str : (Tryd.prog.info? 9).map (fun i => (i.zero, i.size, i.bytes)) = some (some (.string ByteArray.empty), 1, 16) := by kernel_rfl

/-- strings.Split at one byte. -/
theorem split_one (s : ByteArray) (c : UInt8) (w : World) (hs : s.size ≤ 1048576) :
    Calls Tryd.prog 31 #[.string s, .string { data := #[c] }] w fun e w' => e = .returned (.slice (some ⟨w.heap.size, 0, none⟩) (pc c (bs s)).length (pc c (bs s)).length) ∧
      w' = w.alloc (.cells (((pc c (bs s)).map ba).map Value.string).toArray 9) := by
  have hle := Lib.countB_le { data := #[c] } (Nat.le_refl 1) s.size s (Nat.le_refl _)
  have hlen := Lib.splitB_all { data := #[c] } (Nat.le_refl 1) 0 _ s rfl
  have core := Any.strings_genSplit_core Tryd.lays221 info_str s { data := #[c] } 0 (-1) (Lib.countB s { data := #[c] } + 1) w (by omega) (Nat.le_refl 1) (Nat.zero_le _)
    (fun x cs hx => (Tryd.strings_Index_one x c (w.alloc (.cells cs 9))).mono fun e w' ⟨he, hw⟩ => ⟨by rw [he, ← Lib.index_one], hw⟩)
    ((Tryd.strings_Count_one s c w).mono fun e w' ⟨he, hw⟩ => ⟨by rw [he, show Lib.countB s { data := #[c] } = _ from Lib.count_one c (bs s)]; rfl, hw⟩) (by decide) (by decide) (by rw [if_pos (by decide)]; omega)
  rw [Nat.add_sub_cancel, hlen] at core
  have e2 : Lib.cellsOf (Lib.splitB { data := #[c] } 0 (Lib.countB s { data := #[c] }) s) (Lib.countB s { data := #[c] } + 1) = ((Lib.splitB { data := #[c] } 0 (Lib.countB s { data := #[c] }) s).map Value.string).toArray := by rw [← hlen]; exact Lib.cellsOf_full _
  rw [e2] at core
  have e3 : (pc c (bs s)).length = Lib.countB s { data := #[c] } + 1 := by rw [← hlen, splitB_pc, List.length_map]
  rw [splitB_pc, ← e3] at core
  have core := Lib.hid core
  clear e2 hlen hle e3
  go_enter Tryd.func31, Tryd.ntmps31
  go_wp2_with (go_at_call 48; refine core.out.mono ?_; rintro e w' ⟨rfl, hw⟩; rw [hw])
  go_ret
  refine ⟨rfl, ?_⟩
  rw [List.map_map]
  rfl

theorem cutlite_one (s : ByteArray) (c : UInt8) (w : World) (hs : s.size ≤ 1048576) :
    Calls Tryd.prog 62 #[.string s, .string { data := #[c] }] w fun e w' => e = .returned (.tuple #[.string (ba (Lib.cut (bs s) [c]).1), .string (ba (Lib.cut (bs s) [c]).2.1), .bool (Lib.cut (bs s) [c]).2.2]) ∧ Below w.heap.size w w' := by
  have HI := Lib.hid (Tryd.stringslite_Index_one s c w)
  rcases cut_cases c (bs s) with h | ⟨p, r, e, h⟩
  · rw [cut_no h]
    have hi : Lib.indexByte s.data.toList c = -1 := by rw [← Lib.index_one]; exact index_no h
    rw [hi] at HI
    simp only
    rw [ba_bs]
    go_enter Tryd.func62, Tryd.ntmps62
    go_wp2_with (go_at_call 82; (with_reducible refine HI.out.mono ?_); rintro e w1 ⟨rfl, hw1⟩; obtain rfl := hw1.symm)
    go_ret3
    exact ⟨rfl, Below.refl _ _⟩
  · rw [e, cut_at h]
    have hi : Lib.indexByte s.data.toList c = (p.length : Nat) := by rw [← Lib.index_one]; rw [show s.data.toList = _ from e]; exact index_at h
    rw [hi] at HI
    have hsz : s.size = p.length + 1 + r.length := by rw [← bs_len, e]; simp; omega
    have x1 : s.extract 0 p.length = ba p := by
      apply ba_ext
      rw [show (s.extract 0 p.length).data.toList = (bs s).take p.length by simp [bs, ByteArray.data_extract], e]
      simp [ba]
    have x2 : s.extract (p.length + 1) s.size = ba r := by
      apply ba_ext
      rw [show (s.extract (p.length + 1) s.size).data.toList = ((bs s).take s.size).drop (p.length + 1) by simp [bs, ByteArray.data_extract, List.extract_eq_take_drop, List.take_drop]; rw [show p.length + 1 + (s.size - (p.length + 1)) = s.size by omega], List.take_of_length_le (by rw [bs_len]; omega), e]
      simp [ba]
    simp only
    rw [← x1, ← x2]
    obtain ⟨i, hi2⟩ : ∃ i, p.length = i := ⟨_, rfl⟩
    rw [hi2] at HI hsz ⊢
    have c1 : (0 : Int) ≤ ↑i := by omega
    have c2 : (↑i : Int) ≤ ↑s.size := by omega
    have c3 : (0 : Int) ≤ ↑i + 1 := by omega
    have c4 : (↑i + 1 : Int) ≤ ↑s.size := by omega
    clear x1 x2 hi hi2 hsz
    go_enter Tryd.func62, Tryd.ntmps62
    go_wp2_with (go_at_call 82; (with_reducible refine HI.out.mono ?_); rintro e w1 ⟨rfl, hw1⟩; obtain rfl := hw1.symm)
    go_quiet (fail)
    have hb := below_drews (Below.refl w.heap.size w) nq
    go_wp2
    go_ret3
    exact ⟨rfl, hb⟩

theorem cut_one (s : ByteArray) (c : UInt8) (w : World) (hs : s.size ≤ 1048576) :
    Calls Tryd.prog 50 #[.string s, .string { data := #[c] }] w fun e w' => e = .returned (.tuple #[.string (ba (Lib.cut (bs s) [c]).1), .string (ba (Lib.cut (bs s) [c]).2.1), .bool (Lib.cut (bs s) [c]).2.2]) ∧ Below w.heap.size w w' := by
  have H := Lib.hid (cutlite_one s c w hs)
  go_enter Tryd.func50, Tryd.ntmps50
  go_wp2_with (go_at_call 62; (with_reducible refine H.out.mono ?_); rintro e w1 ⟨rfl, hb⟩)
  go_ret3
  exact ⟨rfl, hb⟩

theorem cut_len (l : List UInt8) (c : UInt8) : (Lib.cut l [c]).1.length ≤ l.length ∧ (Lib.cut l [c]).2.1.length ≤ l.length := by
  rcases cut_cases c l with h | ⟨p, r, rfl, h⟩
  · rw [cut_no h]; simp
  · rw [cut_at h]; simp; omega
theorem lineR_short {line : List UInt8} (h : line.length ≤ 1048576) : Short (lineR line).1 := by
  unfold lineR Short
  simp only [ba_size]
  have h1 := cut_len line 9
  have h2 := cut_len (Lib.cut line [9]).2.1 9
  omega

set_option maxHeartbeats 8000000 in
theorem readLine_any (s : ByteArray) (w : World) (hs : s.size ≤ 1048576) :
    Calls Tryd.prog 33 #[.string s] w fun e w' => e = .returned (.tuple #[ragg (lineR (bs s)).1, .bool (lineR (bs s)).2]) ∧ Below w.heap.size w w' := by
  have H1 := Lib.hid (fun w => cut_one s 9 w hs)
  have hl := cut_len (bs s) 9
  rw [bs_len] at hl
  unfold lineR
  simp only
  generalize Lib.cut (bs s) [9] = a at H1 hl ⊢
  obtain ⟨k, rest, f⟩ := a
  simp only at hl H1 ⊢
  have H2 := Lib.hid (fun w => cut_one (ba rest) 9 w (by rw [ba_size]; omega))
  rw [bs_ba] at H2
  generalize Lib.cut rest [9] = b at H2 ⊢
  obtain ⟨o, n, g⟩ := b
  simp only at H2 ⊢
  have hne : ∀ l : List UInt8, (!(ba l).toList.isEmpty) = decide (l ≠ []) := fun l => by
    rw [nonempty_str, ba_size]
    cases l <;> simp
  have hne2 := hne n
  obtain ⟨q, hq⟩ : ∃ q, decide (n ≠ []) = q := ⟨_, rfl⟩
  rw [hq] at hne2 ⊢
  generalize ba k = bk at H1 ⊢
  generalize ba o = bo at H2 ⊢
  generalize ba n = bn at H2 hne2 ⊢
  generalize ba rest = br at H1 H2
  unfold ragg
  simp only
  clear hne hl hq
  have hA : Var3 (w.alloc (Obj.cells #[.string { data := #[] }, .string { data := #[] }, .string { data := #[] }] 40)) w.heap.size := Var3.of (heap_alloc_new w _)
  have HA := Lib.hid hA
  clear hA
  go_enter Tryd.func33, Tryd.ntmps33
  cases f
  · cases g <;> cases q
    all_goals
      go_wp2_with (go_at_call 50; first
        | ((with_reducible refine (H1.out _).mono ?_); rintro e w1 ⟨rfl, hb1⟩)
        | ((with_reducible refine (H2.out _).mono ?_); rintro e w2 ⟨rfl, hb2⟩; have hbW := hb1.trans (hb2.mono hb1.size); have hv := HA.out.later hbW (by simp); have v0 := hv.z0; have v1 := hv.z1; have v2 := hv.z2; have v3 := hv.y))
      (try simp only [Exit.inBlock, Exit.then])
      refine bodyPost_ret (v := .tuple #[.agg #[.string bk, .string bo, .string bn], .bool false]) ?_ rfl ⟨rfl, below_set3 (((Below.refl _ _).alloc (Nat.le_refl _) _).trans (hbW.mono (by simp))) (Nat.le_refl _) _ _ _⟩
      rw [results_cell_tmp rfl]
      obtain ⟨q0, q1, q2⟩ := hv.set ⟨bk, bo, bn⟩
      show ((loadVar 40 ⟨w.heap.size, 0, none⟩).run Tryd.prog _).andThen _ = _
      rw [load_rule (r := ⟨bk, bo, bn⟩) q0 q1 q2]
      first | rfl | (simp [ragg]; done) | skip
  · cases g
    · cases q
      · go_wp2_with (go_at_call 50; first
          | ((with_reducible refine (H1.out _).mono ?_); rintro e w1 ⟨rfl, hb1⟩)
          | ((with_reducible refine (H2.out _).mono ?_); rintro e w2 ⟨rfl, hb2⟩; have hbW := hb1.trans (hb2.mono hb1.size); have hv := HA.out.later hbW (by simp); have v0 := hv.z0; have v1 := hv.z1; have v2 := hv.z2; have v3 := hv.y))
        (try simp only [Exit.inBlock, Exit.then])
        refine bodyPost_ret (v := .tuple #[.agg #[.string bk, .string bo, .string bn], .bool true]) ?_ rfl ⟨rfl, below_set3 (((Below.refl _ _).alloc (Nat.le_refl _) _).trans (hbW.mono (by simp))) (Nat.le_refl _) _ _ _⟩
        rw [results_cell_tmp rfl]
        obtain ⟨q0, q1, q2⟩ := hv.set ⟨bk, bo, bn⟩
        show ((loadVar 40 ⟨w.heap.size, 0, none⟩).run Tryd.prog _).andThen _ = _
        rw [load_rule (r := ⟨bk, bo, bn⟩) q0 q1 q2]
        first | rfl | (simp [ragg]; done) | skip
      · go_wp2_with (go_at_call 50; first
          | ((with_reducible refine (H1.out _).mono ?_); rintro e w1 ⟨rfl, hb1⟩)
          | ((with_reducible refine (H2.out _).mono ?_); rintro e w2 ⟨rfl, hb2⟩; have hbW := hb1.trans (hb2.mono hb1.size); have hv := HA.out.later hbW (by simp); have v0 := hv.z0; have v1 := hv.z1; have v2 := hv.z2; have v3 := hv.y))
        (try simp only [Exit.inBlock, Exit.then])
        refine bodyPost_ret (v := .tuple #[.agg #[.string bk, .string bo, .string bn], .bool false]) ?_ rfl ⟨rfl, below_set3 (((Below.refl _ _).alloc (Nat.le_refl _) _).trans (hbW.mono (by simp))) (Nat.le_refl _) _ _ _⟩
        rw [results_cell_tmp rfl]
        obtain ⟨q0, q1, q2⟩ := hv.set ⟨bk, bo, bn⟩
        show ((loadVar 40 ⟨w.heap.size, 0, none⟩).run Tryd.prog _).andThen _ = _
        rw [load_rule (r := ⟨bk, bo, bn⟩) q0 q1 q2]
        first | rfl | (simp [ragg]; done) | skip
    · cases q
      · go_wp2_with (go_at_call 50; first
          | ((with_reducible refine (H1.out _).mono ?_); rintro e w1 ⟨rfl, hb1⟩)
          | ((with_reducible refine (H2.out _).mono ?_); rintro e w2 ⟨rfl, hb2⟩; have hbW := hb1.trans (hb2.mono hb1.size); have hv := HA.out.later hbW (by simp); have v0 := hv.z0; have v1 := hv.z1; have v2 := hv.z2; have v3 := hv.y))
        (try simp only [Exit.inBlock, Exit.then])
        refine bodyPost_ret (v := .tuple #[.agg #[.string bk, .string bo, .string bn], .bool false]) ?_ rfl ⟨rfl, below_set3 (((Below.refl _ _).alloc (Nat.le_refl _) _).trans (hbW.mono (by simp))) (Nat.le_refl _) _ _ _⟩
        rw [results_cell_tmp rfl]
        obtain ⟨q0, q1, q2⟩ := hv.set ⟨bk, bo, bn⟩
        show ((loadVar 40 ⟨w.heap.size, 0, none⟩).run Tryd.prog _).andThen _ = _
        rw [load_rule (r := ⟨bk, bo, bn⟩) q0 q1 q2]
        first | rfl | (simp [ragg]; done) | skip
      · go_wp2_with (go_at_call 50; first
          | ((with_reducible refine (H1.out _).mono ?_); rintro e w1 ⟨rfl, hb1⟩)
          | ((with_reducible refine (H2.out _).mono ?_); rintro e w2 ⟨rfl, hb2⟩; have hbW := hb1.trans (hb2.mono hb1.size); have hv := HA.out.later hbW (by simp); have v0 := hv.z0; have v1 := hv.z1; have v2 := hv.z2; have v3 := hv.y))
        (try simp only [Exit.inBlock, Exit.then])
        refine bodyPost_ret (v := .tuple #[.agg #[.string bk, .string bo, .string bn], .bool true]) ?_ rfl ⟨rfl, below_set3 (((Below.refl _ _).alloc (Nat.le_refl _) _).trans (hbW.mono (by simp))) (Nat.le_refl _) _ _ _⟩
        rw [results_cell_tmp rfl]
        obtain ⟨q0, q1, q2⟩ := hv.set ⟨bk, bo, bn⟩
        show ((loadVar 40 ⟨w.heap.size, 0, none⟩).run Tryd.prog _).andThen _ = _
        rw [load_rule (r := ⟨bk, bo, bn⟩) q0 q1 q2]
        first | rfl | (simp [ragg]; done) | skip

end Go.Proofs.YtpaeppklkicngaaDoor.Rom
