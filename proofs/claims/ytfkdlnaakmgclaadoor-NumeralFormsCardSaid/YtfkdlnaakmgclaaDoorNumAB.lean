/-
  Contract of the reference's Forms.
-/
import Derived.Test.YtfkdlnaakmgclaaDoorNumAA
import Derived.Test.YtfkdlnaakmgclaaDoorNumZ
set_option linter.unusedVariables false
set_option linter.unusedSimpArgs false
namespace Go.Proofs.YtfkdlnaakmgclaaDoor.Num
open Go Go.RowKit Go.Proofs.YtfkdlnaakmgclaaDoor.Kit Go.Proofs.YtfkdlnaakmgclaaDoor.Utf

theorem conv_wide (d : Nat) (hd : d ≤ 9) (W : World) (x : Int) (hx : x = 144 + (d : Int)) :
    (convert 29 9 (.slice (some ⟨W.heap.size, 0, none⟩) 3 3)).run Tryd.prog (W.alloc (.cells #[.int .u8 239, .int .u8 188, .int .u8 x] 5)) = .ok (.string (tx [65296 + (d : Int)])) (W.alloc (.cells #[.int .u8 239, .int .u8 188, .int .u8 x] 5)) := by
  subst hx
  have e : [Value.int .u8 239, Value.int .u8 188, Value.int .u8 (144 + (d : Int))] = u8s [239, 188, UInt8.ofNat (144 + d)] := by
    have h : ((UInt8.ofNat (144 + d)).toNat : Int) = 144 + (d : Int) := by rw [toNat_ofNat _ (by omega)]; omega
    show _ = [Value.int .u8 ((239 : UInt8).toNat : Int), Value.int .u8 ((188 : UInt8).toNat : Int), Value.int .u8 ((UInt8.ofNat (144 + d)).toNat : Int)]
    rw [h]; rfl
  have h : (W.alloc (.cells #[.int .u8 239, .int .u8 188, .int .u8 (144 + (d : Int))] 5)).ownsRow 0 5 1 (.slice (some ⟨W.heap.size, 0, none⟩) 3 3) 3 (u8s [239, 188, UInt8.ofNat (144 + d)]) := by
    rw [← e]
    exact ⟨rfl, .inr ⟨W.heap.size, 3, #[.int .u8 239, .int .u8 188, .int .u8 (144 + (d : Int))], rfl, Nat.zero_le _, heap_alloc_new W _, Nat.le_refl _, by simp [maxLen], rfl, by simp⟩⟩
  have := conv_bytes h Tryd.underlying29 Tryd.underlying5 Tryd.underlying9
  rw [this, ← enc_wide d hd]
  show _ = Result.ok (Value.string (tx [65296 + (d : Int)])) _
  rw [show tx [65296 + (d : Int)] = ⟨(enc (65296 + (d : Int))).toArray⟩ by unfold tx encs; simp]

theorem fAcc_bad {g : ByteArray} (h : isDec g = false) : ∀ j, fAcc g j = [] := by
  intro j
  induction j with
  | zero => rfl
  | succ j ih => show (if isDec g = true then _ else _) = _; rw [h]; exact ih
theorem fAcc_step {g : ByteArray} (h : isDec g = true) (j : Nat) : fAcc g (j + 1) = step1 (fAcc g j) (fs g j) := by
  show (if isDec g = true then _ else _) = _; rw [if_pos h]

theorem contains_take_true {acc : List ByteArray} {x : ByteArray} {n : Nat} (h : Lib.containsS (acc.take n) x = true) : Lib.containsS (acc.take (n + 1)) x = true := by
  rw [Lib.containsS_iff] at h ⊢
  exact List.mem_of_mem_take (i := n) (by rw [List.take_take, Nat.min_eq_left (by omega)]; exact h)
theorem contains_take_false {acc : List ByteArray} {x : ByteArray} {n : Nat} (hn : n < acc.length) (h : Lib.containsS (acc.take n) x = false) : Lib.containsS (acc.take (n + 1)) x = (acc[n].toList == x.toList) := by
  have h' : ¬ x ∈ acc.take n := fun e => by rw [(Lib.containsS_iff _ _).2 e] at h; cases h
  by_cases e : acc[n] = x
  · rw [e, same_toList, Lib.containsS_iff, List.take_succ_eq_append_getElem hn, e]; simp
  · have e1 : (acc[n].toList == x.toList) = false := by
      simp only [beq_eq_false_iff_ne]
      rw [ByteArray.toList_eq, ByteArray.toList_eq]
      exact fun h => e (ba_ext h)
    rw [e1]
    cases hc : Lib.containsS (acc.take (n + 1)) x with
    | false => rfl
    | true =>
      rw [Lib.containsS_iff, List.take_succ_eq_append_getElem hn] at hc
      rcases List.mem_append.1 hc with hc | hc
      · exact absurd hc h'
      · exact absurd (List.mem_singleton.1 hc).symm e

set_option maxRecDepth 100000 in
set_option maxHeartbeats 4000000 in
theorem rforms_any (s : ByteArray) (w : World) (hs : s.size ≤ 140737488355000) (hL : Laid w) :
    Calls Tryd.prog 25 #[.string s] w fun e w' => ∃ v, e = .returned v ∧ w'.ownsRow w.heap.size 9 1 v (formsOut s).length ((formsOut s).map Value.string) ∧ Below w.heap.size w w' := by
  have H0 := Lib.hid (rnarrow_any s w hs)
  have hg : (rdOut readW s).size ≤ maxLen := by have := rdW_size s; unfold maxLen; omega
  unfold formsOut
  obtain ⟨g, hge⟩ : ∃ g, rdOut readW s = g := ⟨_, rfl⟩
  rw [hge] at H0 hg ⊢
  cases hd : isDec g with
  | false =>
    rw [hd] at H0
    rw [fAcc_bad hd]
    clear hge hg hs hd
    go_enter Tryd.func25, Tryd.ntmps25
    go_wp2_with (go_at_call 48; refine H0.out.mono ?_; rintro e w1 ⟨rfl, rfl⟩)
    go_ret
    exact ⟨_, rfl, World.ownsRow_nil _ _ _ _, Below.refl _ _⟩
  | true =>
    rw [hd] at H0
    obtain ⟨hds, hsd⟩ := (isDec_iff g).1 hd
    obtain ⟨ds, hde⟩ : ∃ ds, ofDg g = ds := ⟨_, rfl⟩
    rw [hde] at hds hsd
    have hsz : g.size = ds.length := by rw [hsd, dg_size]
    obtain ⟨n, hn⟩ : ∃ n, ds.length = n := ⟨_, rfl⟩
    rw [hn] at hsz
    have hn20 := hds.2.1
    rw [hn] at hn20
    have f0 : fs g 0 = g := by
      show wOut ascC g = g
      unfold wOut; rw [hd, hde]
      show tx (ascC ds) = g
      rw [← dg_tx ds hds.2.2.1, ← hsd]
    have f1 : fs g 1 = tx (wideC ds) := by
      show wOut wideC g = _
      unfold wOut; rw [hd, hde]; rfl
    have HC := Lib.hid (writer_at rcommas_any g (fs g 2) true hg rfl hd)
    have HP := Lib.hid (writer_at rpos_any g (fs g 3) true hg rfl hd)
    have HK := Lib.hid (writer_at rkanji_any g (fs g 4) true hg rfl hd)
    have HF := Lib.hid (writer_at rform_any g (fs g 5) true hg rfl hd)
    have HDS := Lib.hid hds; have HS := Lib.hid hsd; have HSZ := Lib.hid hsz; have HN := Lib.hid hn; have H_0 := Lib.hid f0; have H_1 := Lib.hid f1; have HD := Lib.hid hd
    clear hge hg hs hd hds hsd hde hsz hn f0 f1
    obtain ⟨i0, hi, hz0, hz1, hz2⟩ := info_parts info_str
    go_enter Tryd.func25, Tryd.ntmps25
    go_wp2_with (go_at_call 48; refine H0.out.mono ?_; rintro e w1 ⟨rfl, rfl⟩)
    go_loopw [5, 6] (fun ov iv wr => ∃ k : Nat, iv = .int .i64 k ∧ ov = Value.string (tx (wideC (ds.take k))) ∧ k ≤ n ∧ Below w.heap.size w wr) (fun _ iv _ => n - (intOf iv).toNat)
    case atStart => exact ⟨0, rfl, rfl, Nat.zero_le _, Below.refl _ _⟩
    case round =>
      obtain ⟨k, rfl, rfl, hk, hb⟩ := hrel
      by_cases hkn : k < n
      · have hp : k < g.size := by rw [HSZ.out]; exact hkn
        have hkd : k < ds.length := by rw [HN.out]; exact hkn
        have hby : (g[k]'hp).toNat = 48 + ds[k] := by
          have := HS.out
          subst this
          exact dg_byte ds k hkd HDS.out.2.2.1 hp
        have hd9 : ds[k] ≤ 9 := HDS.out.2.2.1 _ (List.getElem_mem hkd)
        have hts : ds.take (k + 1) = ds.take k ++ [ds[k]] := List.take_succ_eq_append_getElem hkd
        obtain ⟨d, hdd⟩ : ∃ d, ds[k] = d := ⟨_, rfl⟩
        rw [hdd] at hby hd9 hts
        obtain ⟨c, hc⟩ : ∃ c : Int, ((g[k]'hp).toNat : Int) = c := ⟨_, rfl⟩
        have hc1 : 48 ≤ c := by omega
        have hc2 : c ≤ 57 := by omega
        have hw1 : IntKind.u8.wrap (144 + c) = 144 + c := IntWalk.u8_in _ ⟨by omega, by omega⟩
        have hw2 : IntKind.u8.wrap (144 + c - 48) = 144 + c - 48 := IntWalk.u8_in _ ⟨by omega, by omega⟩
        have hcv := fun W => conv_wide d hd9 W (144 + c - 48) (by omega)
        obtain ⟨dc, hdc⟩ : ∃ dc : List Int, [65296 + (d : Int)] = dc := ⟨_, rfl⟩
        have hs2 := Lib.hid (show wideC (ds.take (k + 1)) = wideC (ds.take k) ++ dc by rw [hts, wideC_map, wideC_map, List.map_append, ← hdc]; rfl)
        have hl : (encs (wideC (ds.take k))).length ≤ 60 := by
          have := eachS_size (out := fun _ d _ => [(65296 + d : Int)]) (next := fun b _ _ => b) (m := 3) (fun b d a h _ => len_wide d h) (ds.take k) false (fun x hx => HDS.out.2.2.1 x (List.mem_of_mem_take hx)) (by rw [List.length_take]; omega)
          have h2 : (ds.take k).length ≤ k := by rw [List.length_take]; omega
          unfold wideC; omega
        have hadd := add_tx (wideC (ds.take k)) dc (by rw [← hdc]; have := len_wide d hd9; omega)
        rw [← hs2.out] at hadd
        simp only [hdc] at hcv
        clear hby hts hdd hkd hl hdc hd9
        go_wp2
        go_roundw
        case rel => exact ⟨k + 1, by go_num, rfl, by omega, by first | exact hb.alloc hb.size _ | exact (hb.drew).alloc hb.drew.size _⟩
        case measure => simp [intOf] <;> omega
      · have hkn' : k = n := by omega
        have hfin : tx (wideC (ds.take k)) = fs g 1 := by rw [H_1.out, List.take_of_length_le (by rw [HN.out]; omega)]
        have hks : ¬ ((k : Int) < (g.size : Int)) := by rw [HSZ.out]; omega
        rw [hfin]
        have hB := hb
        clear hfin hkn hkn' hb
        obtain ⟨x1, hx1⟩ : ∃ x, fs g 1 = x := ⟨_, rfl⟩
        obtain ⟨x2, hx2⟩ : ∃ x, fs g 2 = x := ⟨_, rfl⟩
        obtain ⟨x3, hx3⟩ : ∃ x, fs g 3 = x := ⟨_, rfl⟩
        obtain ⟨x4, hx4⟩ : ∃ x, fs g 4 = x := ⟨_, rfl⟩
        obtain ⟨x5, hx5⟩ : ∃ x, fs g 5 = x := ⟨_, rfl⟩
        rw [hx1]
        rw [hx2] at HC
        rw [hx3] at HP
        rw [hx4] at HK
        rw [hx5] at HF
        have HX := Lib.hid (show ∀ j, j < 6 → (#[Value.string g, .string x1, .string x2, .string x3, .string x4, .string x5] : Array Value)[j]? = some (.string (fs g j)) from fun j hj => by
          have : j = 0 ∨ j = 1 ∨ j = 2 ∨ j = 3 ∨ j = 4 ∨ j = 5 := by omega
          rcases this with rfl | rfl | rfl | rfl | rfl | rfl
          · rw [H_0.out]; rfl
          · rw [hx1]; rfl
          · rw [hx2]; rfl
          · rw [hx3]; rfl
          · rw [hx4]; rfl
          · rw [hx5]; rfl)
        clear hx1 hx2 hx3 hx4 hx5
        go_wp2_with (first
          | (go_at_call 19; refine (HC.out _ (hL.next hB)).mono ?_; rintro e w1 ⟨rfl, hb⟩; have hB := hB.trans (hb.mono hB.size); clear hb)
          | (go_at_call 15; refine (HP.out _ (hL.next hB)).mono ?_; rintro e w1 ⟨rfl, hb⟩; have hB := hB.trans (hb.mono hB.size); clear hb)
          | (go_at_call 13; refine (HK.out _ (hL.next hB)).mono ?_; rintro e w1 ⟨rfl, hb⟩; have hB := hB.trans (hb.mono hB.size); clear hb)
          | (go_at_call 17; refine (HF.out _ (hL.next hB)).mono ?_; rintro e w1 ⟨rfl, hb⟩; have hB := hB.trans (hb.mono hB.size); clear hb))
        have hcell : ∀ j, j < 6 → (w1.alloc (.cells #[.string g, .string x1, .string x2, .string x3, .string x4, .string x5] 9)).cell? ⟨w1.heap.size, j, none⟩ = some (.string (fs g j)) := fun j hj => (cell_last w1 _ _ j).trans (HX.out j hj)
        have hBa := hB.alloc hB.size (.cells #[.string g, .string x1, .string x2, .string x3, .string x4, .string x5] 9)
        have hAs : w1.heap.size < (w1.alloc (.cells #[.string g, .string x1, .string x2, .string x3, .string x4, .string x5] 9)).heap.size := by simp
        have hAw : w.heap.size ≤ w1.heap.size := hB.size
        obtain ⟨W0, hW0⟩ : ∃ W0, w1.alloc (.cells #[.string g, .string x1, .string x2, .string x3, .string x4, .string x5] 9) = W0 := ⟨_, rfl⟩
        obtain ⟨A, hA⟩ : ∃ A, w1.heap.size = A := ⟨_, rfl⟩
        rw [hW0] at hcell hBa hAs ⊢
        rw [hA] at hcell hAs hAw ⊢
        obtain ⟨B, hBs⟩ : ∃ B, W0.heap.size = B := ⟨_, rfl⟩
        have HBS := Lib.hid hBs
        rw [hBs] at hAs
        have HCELL := Lib.hid hcell
        have HB0 := Lib.hid hBa
        clear hcell hBa hW0 hA hB HX HC HP HK HF hBs hks HS HSZ HN H_0 H_1 HDS
        go_loopw [16, 17, 18, 19] (fun v iv _ _ wr => ∃ j : Nat, iv = .int .i64 j ∧ j ≤ 6 ∧ Below B W0 wr ∧ wr.ownsRow B 9 1 v (fAcc g j).length ((fAcc g j).map Value.string)) (fun _ iv _ _ _ => 6 - (intOf iv).toNat)
        case atStart => exact ⟨0, rfl, Nat.zero_le _, by rw [← HBS.out]; exact Below.refl _ _, World.ownsRow_nil _ _ _ _⟩
        case round =>
          obtain ⟨j, rfl, hj6, hb, ho⟩ := hrel
          have hzB : B ≤ wr.heap.size := by have := hb.size; rw [← HBS.out]; exact this
          by_cases hlt : j < 6
          · have hal : (fAcc g j).length ≤ 6 := fAcc_len g j (by omega)
            have HST := Lib.hid (fAcc_step HD.out j)
            have hlc : wr.cell? ⟨A, j, none⟩ = some (.string (fs g j)) := by
              rw [hb.cell (p := ⟨A, j, none⟩) hAs]; exact HCELL.out j hlt
            obtain ⟨x, hx⟩ : ∃ x, fs g j = x := ⟨_, rfl⟩
            rw [hx] at hlc HST
            obtain ⟨acc, hacc⟩ : ∃ acc, fAcc g j = acc := ⟨_, rfl⟩
            rw [hacc] at ho hal HST
            clear hx hacc
            obtain ⟨a, cap, hv⟩ := own_shape ho
            subst hv
            obtain ⟨wo, hwo⟩ : ∃ wo, wo = wr := ⟨_, rfl⟩
            subst hwo
            have HO := Lib.hid ho
            have HRD := Lib.hid (fun i (hi : i < acc.length) => reads_at (own_reads ho) hi)
            have HACL := Lib.hid (show (acc.map Value.string).length = acc.length by simp)
            obtain ⟨m, hm⟩ : ∃ m, acc.length = m := ⟨_, rfl⟩
            have HM := Lib.hid hm
            rw [hm] at hal
            have e0 : ((0 : Nat) : Int) = 0 := rfl
            clear ho
            rw [hm]
            clear hm
            go_wp2
            go_loopw [18, 19] (fun ov nv wr => ∃ q : Nat, nv = .int .i64 q ∧ q ≤ m ∧ ov = .bool (!Lib.containsS (acc.take q) x) ∧ ∃ z, wr = wo.drewN z) (fun _ nv _ => m - (intOf nv).toNat)
            case atStart => exact ⟨0, rfl, Nat.zero_le _, rfl, 0, rfl⟩
            case round =>
              obtain ⟨q, rfl, hqm, rfl, z, rfl⟩ := hrel
              by_cases hq : q < m
              · have hqa : q < acc.length := by rw [HM.out]; exact hq
                cases hct : Lib.containsS (acc.take q) x with
                | true =>
                  have HT := Lib.hid (contains_take_true hct)
                  clear hct hqa
                  simp only [Bool.not_true]
                  go_wp2
                  go_quiet (fail)
                  go_wp2
                  go_roundw
                  case rel => exact ⟨q + 1, by go_num, by omega, by rw [HT.out]; rfl, by first | exact ⟨_, rfl⟩ | exact ⟨_, World.drewN_drewN _ _ _⟩⟩
                  case measure => simp [intOf] <;> omega
                | false =>
                  have HT := Lib.hid (contains_take_false hqa hct)
                  obtain ⟨b, o, ea, hy⟩ := HRD.out q hqa
                  subst ea
                  obtain ⟨y, hyx⟩ : ∃ y, acc[q] = y := ⟨_, rfl⟩
                  rw [hyx] at HT hy
                  have i0 : (0 : Int) ≤ (q : Int) := by omega
                  have i1 : (q : Int) < (m : Int) := by omega
                  have j0 : (0 : Int) ≤ (j : Int) := by omega
                  have j1 : (j : Int) < 6 := by omega
                  clear hct hqa hyx
                  simp only [Bool.not_false]
                  cases hxy : (y.toList == x.toList) with
                  | true =>
                    rw [hxy] at HT
                    go_wp2
                    go_quiet (fail)
                    go_wp2
                    go_roundw
                    case rel => exact ⟨q + 1, by go_num, by omega, by rw [HT.out]; rfl, by first | exact ⟨_, rfl⟩ | exact ⟨_, World.drewN_drewN _ _ _⟩⟩
                    case measure => simp [intOf] <;> omega
                  | false =>
                    rw [hxy] at HT
                    go_wp2
                    go_quiet (fail)
                    go_wp2
                    go_roundw
                    case rel => exact ⟨q + 1, by go_num, by omega, by rw [HT.out]; rfl, by first | exact ⟨_, rfl⟩ | exact ⟨_, World.drewN_drewN _ _ _⟩⟩
                    case measure => simp [intOf] <;> omega
              · have hqe : q = m := by omega
                subst hqe
                clear hq hqm
                have hta : acc.take q = acc := List.take_of_length_le (by rw [HM.out]; exact Nat.le_refl _)
                rw [hta]
                clear hta
                have hbz := below_drewN wo z
                have hb4 : Below B W0 (wo.drewN z) := hb.trans (hbz.mono hzB)
                have ho4 := own_later HO.out hbz
                have hl4 : (wo.drewN z).cell? ⟨A, j, none⟩ = some (.string x) := hlc
                have hzB4 : B ≤ (wo.drewN z).heap.size := Nat.le_trans hzB hbz.size
                obtain ⟨w4, hw4⟩ : ∃ w4, wo.drewN z = w4 := ⟨_, rfl⟩
                rw [hw4] at hb4 ho4 hl4 hzB4 ⊢
                clear hw4 hbz hb hlc hzB HRD
                cases hct : Lib.containsS acc x with
                | true =>
                  have HN2 := Lib.hid (show fAcc g (j + 1) = acc by rw [HST.out]; unfold step1; rw [hct]; rfl)
                  clear hct
                  simp only [Bool.not_true]
                  go_wp2
                  go_roundw
                  case rel => exact ⟨j + 1, by go_num, by omega, hb4, by rw [HN2.out, HM.out]; rw [HM.out] at ho4; exact ho4⟩
                  case measure => simp [intOf] <;> omega
                | false =>
                  have HN2 := Lib.hid (show fAcc g (j + 1) = acc ++ [x] by rw [HST.out]; unfold step1; rw [hct]; rfl)
                  clear hct
                  rw [← HM.out]
                  simp only [Bool.not_false]
                  have hal' : acc.length ≤ 6 := by rw [HM.out]; exact hal
                  go_wp2_with (at_builtin; refine wpList_append_own _ rfl _ _ _ rfl B 9 i0 (.string { data := #[] }) 1 16 Tryd.underlying27 hi hz0 hz1 hz2 rfl (by decide) _ acc.length (acc.map Value.string) rfl (ho4.alloc _) ⟨w4.heap.size, 0, none⟩ 1 1 [.string x] rfl rfl (cell_one_new _ _ _) ?c2 ?c3 ?c4 ?c5 ?_)
                  case c2 => simp [Value.oneCell']
                  case c3 => unfold maxLen; omega
                  case c4 => omega
                  case c5 => simp; omega
                  intro v' w5 hown5 hg5 hiff
                  clear hiff
                  have hb5 := below_own (hb4.alloc hzB4 _) (ho4.alloc _) (Nat.le_refl _) (by simp; omega) hg5
                  have hown6 : w5.ownsRow B 9 1 v' (acc ++ [x]).length ((acc ++ [x]).map Value.string) := by simpa using hown5
                  clear hown5 hg5
                  go_wp2
                  go_roundw
                  case rel => exact ⟨j + 1, by go_num, by omega, hb5, by rw [HN2.out]; exact hown6⟩
                  case measure => simp [intOf] <;> omega
          · have hj : j = 6 := by omega
            subst hj
            clear hlt
            go_wp2
            go_ret
            exact ⟨_, rfl, own_base ho (by omega), HB0.out.trans (hb.mono (by omega))⟩

end Go.Proofs.YtfkdlnaakmgclaaDoor.Num
