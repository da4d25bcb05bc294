/-
  Joined texts: AutS, CmpQ, CmpX, CmpR.
-/
import Derived.Test.YtamdlbefiggkfaaGreatM9
import Derived.Deep.RegionLaw
import Derived.Test.YtamdlbefiggkfaaGreatM1
import Derived.Deep.DeepCutAuto
set_option linter.unusedVariables false
set_option linter.unusedSimpArgs false
set_option maxRecDepth 100000
namespace Go.Proofs.YtamdlbefiggkfaaGreat.Aut
open Go Go.RowKit Go.Proofs.YtamdlbefiggkfaaGreat.Kit Go.Proofs.YtamdlbefiggkfaaGreat.Utf Go.Proofs.YtamdlbefiggkfaaGreat.Rom

theorem bs_emp : bs ⟨#[]⟩ = [] := rfl
theorem feed_any {rs : List Rule} (hok : okL rs = true) (B a b : Nat) (p ks : ByteArray) (acc : By) (w : World) (hA : AutoAt B w a rs) (hB : B ≤ b) (hb : b + 1 ≤ w.heap.size) (hBl : Lib.IsBuilderF 119 5 b b (Lib.byteCells acc) w) (hs : acc.length + 16 * (p.size + ks.size) ≤ 35184372088832) :
    Calls Tryz.prog 82 #[.pointer (some ⟨a, 0, none⟩), .pointer (some ⟨b, 0, none⟩), .string p, .string ks] w fun e w' => e = .returned (.string (ba (fd rs (bs p) (bs ks)).2)) ∧ Lib.IsBuilderF 119 5 b b (Lib.byteCells (acc ++ (fd rs (bs p) (bs ks)).1)) w' ∧ Below b w w' ∧ w.heap.size ≤ w'.heap.size := by
  refine ((feed_all hok (p.size + ks.size)).1 B a b p ks acc w hA hB hb hBl (Nat.le_refl _) hs).mono ?_
  rintro e w' ⟨o, q, rfl, hf, hBl, hb, _, hsz⟩
  rw [hf.fd]
  exact ⟨rfl, hBl, hb, hsz⟩

set_option maxHeartbeats 2000000 in
theorem write_any {rs : List Rule} (hok : okL rs = true) (B a : Nat) (p ks : ByteArray) (w : World) (hA : AutoAt B w a rs) (hB : B ≤ w.heap.size) (hs : p.size + ks.size ≤ 1099511627776) :
    Calls Tryz.prog 64 #[.pointer (some ⟨a, 0, none⟩), .string p, .string ks] w fun e w' => e = .returned (.tuple #[.string (ba (fd rs (bs p) (keysOf (bs ks))).1), .string (ba (fd rs (bs p) (keysOf (bs ks))).2)]) ∧ Below w.heap.size w w' := by
  have hfs := (fd_spec hok (bs p) (keysOf (bs ks))).len hok
  have hkl := keysOf_le (bs ks)
  rw [bs_len] at hfs hkl
  have hk2 : (ba (keysOf (bs ks))).size = (keysOf (bs ks)).length := ba_size _
  have hF : Hid (∀ (w1 : World), Below w.heap.size (w.alloc (.cells #[.pointer none, .slice none 0 0] 119)) w1 → Lib.IsBuilderF 119 5 w.heap.size w.heap.size [] w1 → w.heap.size + 1 ≤ w1.heap.size → Calls Tryz.prog 82 #[.pointer (some ⟨a, 0, none⟩), .pointer (some ⟨w.heap.size, 0, none⟩), .string p, .string (ba (keysOf (bs ks)))] w1 fun e w' => e = .returned (.string (ba (fd rs (bs p) (keysOf (bs ks))).2)) ∧ Lib.IsBuilderF 119 5 w.heap.size w.heap.size (Lib.byteCells (fd rs (bs p) (keysOf (bs ks))).1) w' ∧ Below w.heap.size w1 w' ∧ w1.heap.size ≤ w'.heap.size) := Lib.hid fun w1 h1 h2 h3 => by
    have := feed_any hok w.heap.size a w.heap.size p (ba (keysOf (bs ks))) [] w1 ((hA.mono hB).later (((Below.refl _ _).alloc (Nat.le_refl _) _).trans h1) (Nat.le_refl _)) (Nat.le_refl _) h3 h2 (by rw [hk2, List.length_nil]; omega)
    rw [bs_ba] at this
    simpa only [List.nil_append] using this
  have HO := Lib.hid (fun W => only_any ks W (by omega))
  have HB0 := Lib.hid (builder_new2 119 5 w w.heap.size rfl)
  obtain ⟨o, ho⟩ : ∃ o, (fd rs (bs p) (keysOf (bs ks))).1 = o := ⟨_, rfl⟩
  obtain ⟨q, hq⟩ : ∃ q, (fd rs (bs p) (keysOf (bs ks))).2 = q := ⟨_, rfl⟩
  rw [ho, hq] at hF hfs ⊢
  have hql : (ba q).size ≤ 281474976710656 := by rw [ba_size]; omega
  have HC := Lib.hid (fun W => Clone.clone_any (ba q) W hql)
  generalize ba (keysOf (bs ks)) = KS at hF HO hk2
  clear ho hq hA hfs hkl hql
  go_enter Tryz.func64, Tryz.ntmps64
  go_wp2_with (first
    | (go_at_call 65; (with_reducible refine (HO.out _).mono ?_); rintro e w1 ⟨rfl, hb1⟩; have hb1' := hb1.mono (B' := w.heap.size) (by simp); have hz1 : w.heap.size + 1 ≤ w1.heap.size := (by have := hb1.size; simpa using this); have HBl1 := Lib.hid (builder_kept2 HB0.out (fun k _ hk => hb1.block k hk)))
    | (go_at_call 82; (with_reducible refine (hF.out _ hb1' HBl1.out hz1).mono ?_); rintro e w2 ⟨rfl, hBl2, hb2, hs2⟩; have HBl2 := Lib.hid hBl2; clear hBl2)
    | (go_at_call 71; refine (Tryz.Builder_String_any_k w.heap.size w.heap.size o _ HBl2.out (by omega)).mono ?_; rintro e w3 ⟨rfl, _, hb3, _⟩)
    | (go_at_call 26; (with_reducible refine (HC.out _).mono ?_); rintro e w4 ⟨rfl, hb4⟩))
  go_ret2
  exact ⟨rfl, (((((Below.refl _ _).alloc (Nat.le_refl _) _).trans hb1').trans hb2).trans hb3).trans (hb4.mono (by have := hb3.size; omega))⟩

theorem write_nil (p ks : ByteArray) (w : World) :
    Calls Tryz.prog 64 #[.pointer none, .string p, .string ks] w fun e w' => e = .returned (.tuple #[.string ⟨#[]⟩, .string ⟨#[]⟩]) ∧ w' = w := by
  go_enter Tryz.func64, Tryz.ntmps64
  go_wp2
  go_ret2
  exact ⟨rfl, rfl⟩

def strLen (v : Value) : Nat := match v with
  | .string s => s.size
  | _ => 0
theorem strLen_mk (s : ByteArray) : strLen (.string s) = s.size := rfl

set_option maxHeartbeats 2000000 in
theorem flush_any {rs : List Rule} (hok : okL rs = true) (B a : Nat) (p : ByteArray) (w : World) (hA : AutoAt B w a rs) (hB : B ≤ w.heap.size) (hs : p.size ≤ 1099511627776) :
    Calls Tryz.prog 45 #[.pointer (some ⟨a, 0, none⟩), .string p] w fun e w' => ∃ F, e = .returned (.string (ba F)) ∧ Flushes rs (keysOf (bs p)) F ∧ Below w.heap.size w w' := by
  have hkl := keysOf_le (bs p)
  rw [bs_len] at hkl
  have HO := Lib.hid (fun W => only_any p W (by omega))
  have HB0 := Lib.hid (builder_new2 119 5 w w.heap.size rfl)
  obtain ⟨K, hK⟩ : ∃ K, keysOf (bs p) = K := ⟨_, rfl⟩
  rw [hK] at hkl HO ⊢
  have HAP := fun n => (feed_all hok n).2
  unfold ApplyC at HAP
  have HAP := Lib.hid HAP
  have HAU := Lib.hid (hA.mono hB)
  clear hA hK
  go_enter Tryz.func45, Tryz.ntmps45
  go_wp2_with (go_at_call 65; (with_reducible refine (HO.out _).mono ?_); rintro e w1 ⟨rfl, hb1⟩)
  have hb1' := hb1.mono (B' := w.heap.size) (by simp)
  have hz1 : w.heap.size + 1 ≤ w1.heap.size := by have := hb1.size; simpa using this
  have HBl1 := Lib.hid (builder_kept2 HB0.out (fun k _ hk => hb1.block k hk))
  have hbw : Below w.heap.size w w1 := ((Below.refl _ _).alloc (Nat.le_refl _) _).trans hb1'
  clear HB0 HO hb1 hb1'
  go_loopw [6] (fun v wr => ∃ (o q : By), v = .string (ba q) ∧ Hid (∀ F, Flushes rs q F → Flushes rs K (o ++ F)) ∧ o.length + 16 * q.length ≤ 16 * K.length ∧ Hid (Lib.IsBuilderF 119 5 w.heap.size w.heap.size (Lib.byteCells o) wr) ∧ Below w.heap.size w wr ∧ w.heap.size + 1 ≤ wr.heap.size) (fun v _ => strLen v)
  case atStart => exact ⟨[], K, rfl, Lib.hid (fun F h => h), by simp, HBl1, hbw, hz1⟩
  case round =>
    obtain ⟨o, q, rfl, hF, hl, hBk, hbr, hzr⟩ := hrel
    cases q with
    | nil =>
      have he : (ba []).toList.isEmpty = true := by rw [Lib.toList_data]; rfl
      have hFl := Lib.hid (hF.out [] .nil)
      rw [List.append_nil] at hFl
      go_wp2_with (go_at_call 71; refine (Tryz.Builder_String_any_k w.heap.size w.heap.size o _ hBk.out (by omega)).mono ?_; rintro e w3 ⟨rfl, _, hb3, _⟩)
      go_ret
      exact ⟨o, rfl, hFl.out, hbr.trans hb3⟩
    | cons c q =>
      have hsz : (ba (c :: q)).size = q.length + 1 := by rw [ba_size]; rfl
      have hne : ((ba (c :: q)).toList == ([] : List UInt8)) = false := by rw [Lib.toList_data]; rfl
      have hne2 : (ba (c :: q)).toList.isEmpty = false := by rw [Lib.toList_data]; rfl
      have hC := Lib.hid (HAP.out q.length w.heap.size a w.heap.size (ba (c :: q)) o wr (HAU.out.later hbr (Nat.le_refl _)) (Nat.le_refl _) hzr hBk.out (by omega) (by omega) (by rw [hsz]; rw [List.length_cons] at hl; omega))
      rw [bs_ba] at hC
      have hlk := appK_len hok (rs := rs) (s := c :: q) (by simp)
      have hlo := appO_len hok (rs := rs) (c :: q)
      rw [List.length_cons] at hl hlk
      have HH := Lib.hid hF.out
      have HL := Lib.hid hlo
      clear hF hlo
      go_wp2_with (go_at_call 70; (with_reducible refine hC.out.mono ?_); rintro e w4 ⟨o2, q2, rfl, hf2, hBl4, hb4, _, hs4⟩)
      have hlq := hf2.len hok
      rw [List.length_nil] at hlq
      go_roundw
      case rel =>
        refine ⟨o ++ (appO rs (c :: q) ++ o2), q2, rfl, Lib.hid fun F hF2 => ?_, ?_, Lib.hid hBl4, hbr.trans hb4, by omega⟩
        · have := HH.out _ (Flushes.step (by simp) hf2 hF2)
          simpa only [List.append_assoc] using this
        · have := HL.out
          simp only [List.length_append]; omega
      case measure => rw [strLen_mk, strLen_mk, hsz, ba_size]; omega

theorem flush_nil (p : ByteArray) (w : World) :
    Calls Tryz.prog 45 #[.pointer none, .string p] w fun e w' => e = .returned (.string ⟨#[]⟩) ∧ Below w.heap.size w w' := by
  go_enter Tryz.func45, Tryz.ntmps45
  go_wp2
  go_ret
  exact ⟨rfl, Below.refl _ _⟩

theorem conv_lit (W : World) (c : UInt8) {W' : World} (hb : W'.heap[W.heap.size]? = some (Obj.cells #[.int .u8 c.toNat] 5 (0, 0))) :
    (convert 74 9 (.slice (some ⟨W.heap.size, 0, none⟩) 1 1)).run Tryz.prog W' = .ok (.string (ba [c])) W' :=
  conv_bytes (P := Tryz.prog) (l := [c]) (base := 0) (n := 1) (e := 5) ⟨rfl, .inr ⟨W.heap.size, 1, #[.int .u8 c.toNat], rfl, Nat.zero_le _, hb, Nat.le_refl _, by simp [maxLen], rfl, by simp [u8s]⟩⟩ Tryz.underlying74 Tryz.underlying5 Tryz.underlying9

theorem step_any {rs : List Rule} (hok : okL rs = true) (B a : Nat) (p : ByteArray) (c : UInt8) (w : World) (hA : AutoAt B w a rs) (hB : B ≤ w.heap.size) (hs : p.size ≤ 549755813888) :
    Calls Tryz.prog 32 #[.pointer (some ⟨a, 0, none⟩), .string p, .int .u8 c.toNat] w fun e w' => e = .returned (.tuple #[.string (ba (fd rs (keysOf (bs p)) (keysOf [c])).1), .string (ba (fd rs (keysOf (bs p)) (keysOf [c])).2)]) ∧ Below w.heap.size w w' := by
  have hkl := keysOf_le (bs p)
  rw [bs_len] at hkl
  have HW : Hid (∀ W : World, Below w.heap.size w W → Calls Tryz.prog 64 #[.pointer (some ⟨a, 0, none⟩), .string (ba (keysOf (bs p))), .string (ba [c])] W fun e w' => e = .returned (.tuple #[.string (ba (fd rs (keysOf (bs p)) (keysOf [c])).1), .string (ba (fd rs (keysOf (bs p)) (keysOf [c])).2)]) ∧ Below W.heap.size W w') := Lib.hid fun W h => by
    have := write_any hok B a (ba (keysOf (bs p))) (ba [c]) W (hA.later h hB) (Nat.le_trans hB h.size) (by rw [ba_size, ba_size]; simp; omega)
    rw [bs_ba, bs_ba] at this
    exact this
  have HO := Lib.hid (fun W => only_any p W (by omega))
  obtain ⟨o, ho⟩ : ∃ o, (fd rs (keysOf (bs p)) (keysOf [c])).1 = o := ⟨_, rfl⟩
  obtain ⟨q, hq⟩ : ∃ q, (fd rs (keysOf (bs p)) (keysOf [c])).2 = q := ⟨_, rfl⟩
  rw [ho, hq] at HW ⊢
  clear ho hq hA hkl
  generalize ba (keysOf (bs p)) = KS at HW HO
  go_enter Tryz.func32, Tryz.ntmps32
  go_wp2
  have hcv1 : ∀ W : World, (convert 74 9 (.slice (some ⟨W.heap.size, 0, none⟩) 1 1)).run Tryz.prog (W.alloc (Obj.cells #[.int .u8 c.toNat] 5)) = .ok (.string (ba [c])) (W.alloc (Obj.cells #[.int .u8 c.toNat] 5)) := fun W => conv_lit W c (heap_alloc_new W _)
  have hcv2 : ∀ W : World, (convert 74 9 (.slice (some ⟨W.heap.size, 0, none⟩) 1 1)).run Tryz.prog (W.alloc (Obj.cells #[.int .u8 c.toNat] 5)).drew = .ok (.string (ba [c])) (W.alloc (Obj.cells #[.int .u8 c.toNat] 5)).drew := fun W => conv_lit W c (W' := (W.alloc (Obj.cells #[.int .u8 c.toNat] 5)).drew) (heap_alloc_new W _)
  go_region_law (first
    | (go_simp; go_at_call 65; (with_reducible refine (HO.out _).mono ?_); rintro e w1 ⟨rfl, hb1⟩; have hbw1 : Below w.heap.size w w1 := (by first | exact (Below.refl _ w).drew.trans hb1 | exact (((Below.refl _ _).alloc (Nat.le_refl _) _).drew).trans (hb1.mono (by simp))); try have hcv3 := conv_lit w c (W' := w1) (by rw [hb1.block _ (by simp)]; exact heap_alloc_new w _))
    | (go_simp; go_at_call 64; (with_reducible refine (HW.out _ (by first | exact hbw1 | exact hbw1.alloc hbw1.size _)).mono ?_); rintro e w2 ⟨rfl, hb2⟩))
  all_goals go_wp2
  all_goals go_ret2
  all_goals first
    | exact ⟨rfl, hbw1.trans (hb2.mono hbw1.size)⟩
    | exact ⟨rfl, (hbw1.alloc hbw1.size _).trans (hb2.mono (by simp; have := hbw1.size; omega))⟩

theorem step_nil (p : ByteArray) (c : Int) (w : World) (hs : p.size ≤ 140737488351232) (h0 : 0 ≤ c) (h1 : c < 256) :
    Calls Tryz.prog 32 #[.pointer none, .string p, .int .u8 c] w fun e w' => e = .returned (.tuple #[.string ⟨#[]⟩, .string ⟨#[]⟩]) ∧ Below w.heap.size w w' := by
  have HW := Lib.hid (fun s W => write_nil (ba (keysOf (bs p))) s W)
  have HO := Lib.hid (fun W => only_any p W hs)
  obtain ⟨c8, rfl⟩ : ∃ c8 : UInt8, c = (c8.toNat : Int) := ⟨UInt8.ofNat c.toNat, by rw [toNat_ofNat _ (by omega)]; omega⟩
  generalize ba (keysOf (bs p)) = KS at HW HO
  clear h0 h1
  go_enter Tryz.func32, Tryz.ntmps32
  go_wp2
  have hcv1 : ∀ W : World, (convert 74 9 (.slice (some ⟨W.heap.size, 0, none⟩) 1 1)).run Tryz.prog (W.alloc (Obj.cells #[.int .u8 c8.toNat] 5)) = .ok (.string (ba [c8])) (W.alloc (Obj.cells #[.int .u8 c8.toNat] 5)) := fun W => conv_lit W c8 (heap_alloc_new W _)
  have hcv2 : ∀ W : World, (convert 74 9 (.slice (some ⟨W.heap.size, 0, none⟩) 1 1)).run Tryz.prog (W.alloc (Obj.cells #[.int .u8 c8.toNat] 5)).drew = .ok (.string (ba [c8])) (W.alloc (Obj.cells #[.int .u8 c8.toNat] 5)).drew := fun W => conv_lit W c8 (W' := (W.alloc (Obj.cells #[.int .u8 c8.toNat] 5)).drew) (heap_alloc_new W _)
  go_region_law (first
    | (go_simp; go_at_call 65; (with_reducible refine (HO.out _).mono ?_); rintro e w1 ⟨rfl, hb1⟩; have hbw1 : Below w.heap.size w w1 := (by first | exact (Below.refl _ w).drew.trans hb1 | exact (((Below.refl _ _).alloc (Nat.le_refl _) _).drew).trans (hb1.mono (by simp))); try have hcv3 := conv_lit w c8 (W' := w1) (by rw [hb1.block _ (by simp)]; exact heap_alloc_new w _))
    | (go_simp; go_at_call 64; (with_reducible refine (HW.out _ _).mono ?_); rintro e w2 ⟨rfl, hw2⟩; obtain rfl := hw2.symm))
  all_goals go_wp2
  all_goals go_ret2
  all_goals first
    | exact ⟨rfl, hbw1⟩
    | exact ⟨rfl, hbw1.alloc hbw1.size _⟩

end Go.Proofs.YtamdlbefiggkfaaGreat.Aut

set_option linter.unusedVariables false
set_option linter.unusedSimpArgs false
set_option maxRecDepth 100000
namespace Go.Proofs.YtamdlbefiggkfaaGreat.Cmp
open Go Go.RowKit Go.Proofs.YtamdlbefiggkfaaGreat.Kit Go.Proofs.YtamdlbefiggkfaaGreat.Utf Go.Proofs.YtamdlbefiggkfaaGreat.Rom Go.Proofs.YtamdlbefiggkfaaGreat.Aut

abbrev keyObj (k : UInt8) : Obj := Obj.cells #[.int .u8 k.toNat] 5
theorem fromB_one (k : UInt8) : fromB 33 [k] = isKb k := by
  unfold fromB isKb
  simp only [List.all_cons, List.all_nil, Bool.and_true]
  congr 1
  exact propext ⟨fun h => by omega, fun h => by omega⟩
theorem bs_cat (a b : ByteArray) : bs (a ++ b) = bs a ++ bs b := by simp [bs]
theorem val_keys {b : Bf} (h : val b = true) : keysOf (bs b.p) = bs b.p := keysOf_id (fromB_keys.1 (val_parts h).2.2.2.2.2)
theorem trim_any (s p : ByteArray) (w : World) (hs : s.size ≤ 1048577) :
    Calls Tryz.prog 34 #[.string s, .string p] w fun e w' => e = .returned (.string (ba (endsL (bs s) (bs p)))) ∧ w' = w := Tryz.strings_TrimSuffix s p w (by omega)
theorem endsL_len (s p : By) : (endsL s p).length ≤ s.length := by
  unfold endsL
  split
  · rw [List.length_take]; omega
  · exact Nat.le_refl _
theorem chs_le (l : By) : (chs l).length ≤ l.length := by
  unfold chs
  cases hc : chars l with
  | none => simp
  | some cs =>
    obtain ⟨h1, h2⟩ := chars_some hc
    rw [h2]
    exact encs_length_ge h1

theorem reads_set {w : World} {v : Value} {xs : List Value} (h : Reads w v xs) (g o : Nat) (u : Value) (hne : ∀ b, v.ownBlock = some b → b ≠ g) : Reads (w.setCell ⟨g, o, none⟩ u) v xs := by
  obtain ⟨a, len, cap, rfl, hl, hc, hm, h⟩ := h
  refine ⟨a, len, cap, rfl, hl, hc, hm, ?_⟩
  rcases h with h | h | ⟨b, off, rfl, hlt, hx⟩
  · exact .inl h
  · exact .inr (.inl h)
  · refine .inr (.inr ⟨b, off, rfl, by simpa using hlt, fun i x hi => ?_⟩)
    rw [World.cell?_setCell_other _ _ _ _ (fun e => hne b rfl (by injection e with e1 _ _; exact e1.symm))]
    exact hx i x hi

theorem insertkey_nil (b : Bf) (k : UInt8) (v : Value) (w : World) (hR : BfR w v b) :
    Calls Tryz.prog 9 #[.pointer none, v, .int .u8 k.toNat] w (NewBE (noB, 9) w) := by
  obtain ⟨a, len, cap, rfl, hI⟩ := hR.open
  obtain ⟨is, c, p⟩ := b
  simp only at *
  have HST := Lib.hid (fun W (h : (w.alloc (Obj.cells #[.slice a len cap, .int .i64 c, .string p] 25)).alloc zeroBuf = W) => St.start h)
  clear hI hR
  go_enter Tryz.func9, Tryz.ntmps9
  go_wp2
  obtain ⟨W, hW⟩ : ∃ W, (w.alloc (Obj.cells #[.slice a len cap, .int .i64 c, .string p] 25)).alloc zeroBuf = W := ⟨_, rfl⟩
  rw [hW]
  have st0 := HST.out W hW
  obtain ⟨c0, c1, c2, cf, r0, r1, r2, rf⟩ := st0.facts
  refine bodyPost_ret (v := .tuple #[.agg #[.slice none 0 0, .int .i64 0, .string { data := #[] }], .int .i64 9]) ?_ rfl ⟨none, 0, 0, rfl, World.ownsRow_nil _ _ _ _, st0.bel⟩
  rw [results_cell_tmp rfl]
  show ((loadVar 25 ⟨w.heap.size + 1, 0, none⟩).run Tryz.prog _).andThen _ = _
  rw [load_buf r0 r1 r2]
  rfl

set_option maxHeartbeats 8000000 in
theorem insertkey_any {rs : List Rule} (hok : okL rs = true) (Q q0 : Nat) (b : Bf) (k : UInt8) (v : Value) (w : World) (hA : AutoAt Q w q0 rs) (hQ : Q ≤ w.heap.size) (hR : BfR w v b) (hsh : Sh b) :
    Calls Tryz.prog 9 #[.pointer (some ⟨q0, 0, none⟩), v, .int .u8 k.toNat] w (NewBE (keyB rs b k) w) := by
  obtain ⟨a, len, cap, rfl, hI⟩ := hR.open
  have HV := Lib.hid (fun s W (hI : ItR W s b.is) => valid_any b s W hI hsh)
  have HI := Lib.hid (fun (W : World) (h : Below w.heap.size w W) => hI.later h (Nat.le_refl _))
  have HF := fun W => from_any 33 (ba [k]) W (by rw [ba_size]; simp) (by omega) (by omega)
  rw [bs_ba, fromB_one] at HF
  have hvp := @val_parts b
  have hvk := @val_keys b
  have hlen := hI.len.1
  unfold keyB
  clear hR hI
  obtain ⟨is, c, p⟩ := b
  simp only at *
  subst hlen
  have hcv : ∀ o1 o2, (convert 74 9 (.slice (some ⟨w.heap.size + 1 + 1, 0, none⟩) 1 1)).run Tryz.prog (((w.alloc o1).alloc o2).alloc (keyObj k)) = .ok (.string (ba [k])) (((w.alloc o1).alloc o2).alloc (keyObj k)) := fun o1 o2 => by
    have h := conv_lit ((w.alloc o1).alloc o2) k (heap_alloc_new ((w.alloc o1).alloc o2) _)
    have e : ((w.alloc o1).alloc o2).heap.size = w.heap.size + 1 + 1 := by simp
    rw [e] at h
    exact h
  have HST := Lib.hid (show ∀ W, ((w.alloc (Obj.cells #[.slice a is.length cap, .int .i64 c, .string p] 25)).alloc zeroBuf).alloc (keyObj k) = W → St w W (.slice a is.length cap) c p from fun W h => by
    rw [← h]
    have s0 := St.start (w := w) (s := .slice a is.length cap) (c := c) (p := p) rfl
    exact s0.later ((Below.refl _ _).alloc (Nat.le_refl _) _) s0.siz)
  cases hv : val ⟨is, c, p⟩
  · rw [hv] at HV
    have HF := Lib.hid HF
    clear hv hvp hvk
    simp only [Bool.false_and, Bool.false_eq_true, if_false]
    go_enter Tryz.func9, Tryz.ntmps9
    go_wp2_with (first
      | (go_at_call 30; obtain ⟨W, hW⟩ : ∃ W, ((w.alloc (Obj.cells #[.slice a is.length cap, .int .i64 c, .string p] 25)).alloc zeroBuf).alloc (keyObj k) = W := ⟨_, rfl⟩; rw [hW]; have st0 := HST.out W hW; clear hW; (with_reducible refine (HV.out _ W (HI.out W st0.bel)).mono ?_); rintro e w7 ⟨rfl, hb7⟩; have st7 := st0.later hb7 st0.siz; clear st0 hb7; obtain ⟨c0, c1, c2, cf, r0, r1, r2, rf⟩ := st7.facts; have HST7 := Lib.hid st7; clear st7)
      | (go_at_call 31; (with_reducible refine (HF.out _).mono ?_); rintro e w8 ⟨rfl, hw8⟩; obtain rfl := hw8.symm))
    obtain ⟨W9, hW9, hld, how, hbw⟩ := HST7.out.fin none 0 0 0 { data := #[] }
    rw [← hW9]
    refine bodyPost_ret (v := .tuple #[.agg #[.slice none 0 0, .int .i64 0, .string { data := #[] }], .int .i64 1]) ?_ rfl ⟨none, 0, 0, rfl, World.ownsRow_nil _ _ _ _, hbw⟩
    rw [results_cell_tmp rfl]
    show ((loadVar 25 ⟨w.heap.size + 1, 0, none⟩).run Tryz.prog _).andThen _ = _
    rw [hld]
    rfl
  obtain ⟨v1, v2, v3, _, v5, v6⟩ := hvp hv
  have hpk := hvk hv
  rw [hv] at HV
  cases hk : isKb k
  · rw [hk] at HF
    have HF := Lib.hid HF
    clear hv hvp hvk hk
    simp only [Bool.and_false, Bool.false_eq_true, if_false]
    go_enter Tryz.func9, Tryz.ntmps9
    go_wp2_with (first
      | (go_at_call 30; obtain ⟨W, hW⟩ : ∃ W, ((w.alloc (Obj.cells #[.slice a is.length cap, .int .i64 c, .string p] 25)).alloc zeroBuf).alloc (keyObj k) = W := ⟨_, rfl⟩; rw [hW]; have st0 := HST.out W hW; clear hW; (with_reducible refine (HV.out _ W (HI.out W st0.bel)).mono ?_); rintro e w7 ⟨rfl, hb7⟩; have st7 := st0.later hb7 st0.siz; clear st0 hb7; obtain ⟨c0, c1, c2, cf, r0, r1, r2, rf⟩ := st7.facts; have HST7 := Lib.hid st7; clear st7)
      | (go_at_call 31; (with_reducible refine (HF.out _).mono ?_); rintro e w8 ⟨rfl, hw8⟩; obtain rfl := hw8.symm))
    obtain ⟨W9, hW9, hld, how, hbw⟩ := HST7.out.fin none 0 0 0 { data := #[] }
    rw [← hW9]
    refine bodyPost_ret (v := .tuple #[.agg #[.slice none 0 0, .int .i64 0, .string { data := #[] }], .int .i64 1]) ?_ rfl ⟨none, 0, 0, rfl, World.ownsRow_nil _ _ _ _, hbw⟩
    rw [results_cell_tmp rfl]
    show ((loadVar 25 ⟨w.heap.size + 1, 0, none⟩).run Tryz.prog _).andThen _ = _
    rw [hld]
    rfl
  rw [hk] at HF
  have HF := Lib.hid HF
  have hk1 : keysOf [k] = [k] := keysOf_id (AllK.one hk)
  have HSP : Hid (∀ W, Below w.heap.size w W → Calls Tryz.prog 32 #[.pointer (some ⟨q0, 0, none⟩), .string p, .int .u8 k.toNat] W fun e w' => e = .returned (.tuple #[.string (ba (fd rs (bs p) [k]).1), .string (ba (fd rs (bs p) [k]).2)]) ∧ Below W.heap.size W w') := Lib.hid fun W h => by
    have h2 := step_any hok Q q0 p k W (hA.later h hQ) (Nat.le_trans hQ h.size) (by omega)
    rw [hpk, hk1] at h2
    exact h2
  have hfs := fd_spec hok (bs p) [k]
  have hfl := hfs.len hok
  rw [bs_len] at hfl
  have hpe := pend_len hok (feed_pend hfs)
  have hgd := feeds_good hok hfs (fromB_keys.1 v6) (AllK.one hk)
  generalize (fd rs (bs p) [k]).1 = o at *
  generalize (fd rs (bs p) [k]).2 = q at *
  have hol : o.length ≤ 1000 := by simp at hfl; omega
  have HRU := Lib.hid (fun W => runes_uni (ba o) W (by rw [ba_size]; omega))
  rw [bs_ba] at HRU
  have hcv2 := chs_valid o
  have hcl := chs_le o
  have hsm : (chars o).isSome = true := by obtain ⟨cs, h⟩ := hgd; rw [h]; rfl
  rw [hsm] at HRU
  generalize chs o = cs at *
  have hqs : (ba q).size = q.length := ba_size q
  have HTR := Lib.hid (fun W => trim_any (p ++ ba [k]) (ba q) W (by rw [ByteArray.size_append, ba_size]; simp; omega))
  have hsz1 : (ba [k]).size = 1 := by rw [ba_size]; rfl
  rw [show bs (p ++ ba [k]) = bs p ++ [k] by rw [bs_cat, bs_ba], bs_ba] at HTR
  have hus : (ba (endsL (bs p ++ [k]) q)).size ≤ 1048576 := by
    have := endsL_len (bs p ++ [k]) q
    rw [ba_size]
    rw [List.length_append, bs_len] at this
    simp at this
    omega
  generalize ba (endsL (bs p ++ [k]) q) = used at *
  by_cases hl : is.length + cs.length > 64
  · clear hv hvp hvk hk hfs hfl hgd hsm hcv2 hpk hk1
    simp only [Bool.and_true, if_true, if_pos hl]
    go_enter Tryz.func9, Tryz.ntmps9
    go_wp2_with (first
      | (go_at_call 30; obtain ⟨W, hW⟩ : ∃ W, ((w.alloc (Obj.cells #[.slice a is.length cap, .int .i64 c, .string p] 25)).alloc zeroBuf).alloc (keyObj k) = W := ⟨_, rfl⟩; rw [hW]; have st0 := HST.out W hW; clear hW; (with_reducible refine (HV.out _ W (HI.out W st0.bel)).mono ?_); rintro e w7 ⟨rfl, hb7⟩; have st7 := st0.later hb7 st0.siz; clear st0 hb7; obtain ⟨c0, c1, c2, cf, r0, r1, r2, rf⟩ := st7.facts; have HST7 := Lib.hid st7; clear st7)
      | (go_at_call 31; (with_reducible refine (HF.out _).mono ?_); rintro e w8 ⟨rfl, hw8⟩; obtain rfl := hw8.symm)
      | (go_at_call 32; (with_reducible refine (HSP.out w7 HST7.out.bel).mono ?_); rintro e w8 ⟨rfl, hb8⟩; have st8 := HST7.out.later hb8 HST7.out.siz; clear HST7 c0 c1 c2 cf r0 r1 r2 rf hb8; obtain ⟨c0, c1, c2, cf, r0, r1, r2, rf⟩ := st8.facts; have HST7 := Lib.hid st8; clear st8)
      | (go_at_call 33; (with_reducible refine (HRU.out _).mono ?_); rintro e w9 ⟨a5, k5, rfl, hr5, hrb5, hb9⟩; have HRB := Lib.hid (show ∀ b, _ → w.heap.size < b from fun b h => Nat.lt_of_lt_of_le (Nat.lt_of_lt_of_le (Nat.lt_succ_of_lt (Nat.lt_succ_self _)) HST7.out.siz) (hrb5 b h)); clear hrb5; have st9 := HST7.out.later hb9 HST7.out.siz; clear HST7 c0 c1 c2 cf r0 r1 r2 rf hb9; obtain ⟨c0, c1, c2, cf, r0, r1, r2, rf⟩ := st9.facts; have HST7 := Lib.hid st9; have HR5 := Lib.hid hr5; clear st9 hr5))
    obtain ⟨W9, hW9, hld, how, hbw⟩ := HST7.out.fin none 0 0 0 { data := #[] }
    rw [← hW9]
    refine bodyPost_ret (v := .tuple #[.agg #[.slice none 0 0, .int .i64 0, .string { data := #[] }], .int .i64 7]) ?_ rfl ⟨none, 0, 0, rfl, World.ownsRow_nil _ _ _ _, hbw⟩
    rw [results_cell_tmp rfl]
    show ((loadVar 25 ⟨w.heap.size + 1, 0, none⟩).run Tryz.prog _).andThen _ = _
    rw [hld]
    rfl
  have hq8 : (ba q).size ≤ 8 := by omega
  have HIT := Lib.hid (fun v W (h : Reads W v (ints cs)) => items_any used cs v W h (by omega))
  have HIN := Lib.hid (fun s v W (h1 : ItR W s is) (h2 : ItR W v (itemsL used cs)) => insert_new ⟨is, c, ba q⟩ (itemsL used cs) s v W h1 h2 ⟨v2, v3⟩ (insB_sh (b := ⟨is, c, p⟩) (p := ba q) hsh (itemsL_short hus hcv2) (by rw [itemsL_len]; show is.length + _ ≤ _; omega) (by omega)))
  simp only at HIN
  clear hv hvp hvk hk hfs hfl hgd hsm hcv2 hpk hk1 hsh hA
  simp only [Bool.and_true, if_true, if_neg hl]
  generalize insB ⟨is, c, ba q⟩ (itemsL used cs) = R at HIN ⊢
  generalize itemsL used cs = L at HIN HIT
  go_enter Tryz.func9, Tryz.ntmps9
  go_wp2_with (first
    | (go_at_call 30; obtain ⟨W, hW⟩ : ∃ W, ((w.alloc (Obj.cells #[.slice a is.length cap, .int .i64 c, .string p] 25)).alloc zeroBuf).alloc (keyObj k) = W := ⟨_, rfl⟩; rw [hW]; have st0 := HST.out W hW; clear hW; (with_reducible refine (HV.out _ W (HI.out W st0.bel)).mono ?_); rintro e w7 ⟨rfl, hb7⟩; have st7 := st0.later hb7 st0.siz; clear st0 hb7; obtain ⟨c0, c1, c2, cf, r0, r1, r2, rf⟩ := st7.facts; have HST7 := Lib.hid st7; clear st7)
    | (go_at_call 31; (with_reducible refine (HF.out _).mono ?_); rintro e w8 ⟨rfl, hw8⟩; obtain rfl := hw8.symm)
    | (go_at_call 32; (with_reducible refine (HSP.out w7 HST7.out.bel).mono ?_); rintro e w8 ⟨rfl, hb8⟩; have st8 := HST7.out.later hb8 HST7.out.siz; clear HST7 c0 c1 c2 cf r0 r1 r2 rf hb8; obtain ⟨c0, c1, c2, cf, r0, r1, r2, rf⟩ := st8.facts; have HST7 := Lib.hid st8; clear st8)
    | (go_at_call 33; (with_reducible refine (HRU.out _).mono ?_); rintro e w9 ⟨a5, k5, rfl, hr5, hrb5, hb9⟩; have HRB := Lib.hid (show ∀ b, _ → w.heap.size < b from fun b h => Nat.lt_of_lt_of_le (Nat.lt_of_lt_of_le (Nat.lt_succ_of_lt (Nat.lt_succ_self _)) HST7.out.siz) (hrb5 b h)); clear hrb5; have st9 := HST7.out.later hb9 HST7.out.siz; clear HST7 c0 c1 c2 cf r0 r1 r2 rf hb9; obtain ⟨c0, c1, c2, cf, r0, r1, r2, rf⟩ := st9.facts; have HST7 := Lib.hid st9; have HR5 := Lib.hid hr5; clear st9 hr5)
    | (go_at_call 34; (with_reducible refine (HTR.out _).mono ?_); rintro e w10 ⟨rfl, hw10⟩; obtain rfl := hw10.symm))
  obtain ⟨W7, hW7⟩ : ∃ W7, w9.setCell ⟨w.heap.size, 2, none⟩ (.string (ba q)) = W7 := ⟨_, rfl⟩
  rw [hW7]
  have st7 := HST7.out.pend (ba q)
  rw [hW7] at st7
  have hrd : Reads W7.drew (.slice a5 cs.length k5) (ints cs) := by
    have h := reads_set HR5.out w.heap.size 2 (.string (ba q)) (fun b hb => by have := HRB.out b hb; omega)
    rw [hW7] at h
    exact h
  have HRD := Lib.hid hrd
  clear c0 c1 c2 cf r0 r1 r2 rf HST7 hW7
  obtain ⟨c0, c1, c2, cf, r0, r1, r2, rf⟩ := st7.facts
  have HST7 := Lib.hid st7
  clear st7
  have hbel7 := HST7.out.bel
  have hsiz7 := HST7.out.siz
  have rf0 := rf 0
  have rf1 := rf 1
  have rf2 := rf 2
  clear hrd
  go_region_held3 (fun w' => w'.cell? ⟨w.heap.size, 0, none⟩ = some (.slice a is.length cap) ∧ w'.cell? ⟨w.heap.size, 1, none⟩ = some (.int .i64 c) ∧ w'.cell? ⟨w.heap.size, 2, none⟩ = some (.string (ba q)) ∧ w'.cell? ⟨w.heap.size + 1, 0, none⟩ = some (cellOr w' ⟨w.heap.size + 1, 0, none⟩) ∧ w'.cell? ⟨w.heap.size + 1, 1, none⟩ = some (cellOr w' ⟨w.heap.size + 1, 1, none⟩) ∧ w'.cell? ⟨w.heap.size + 1, 2, none⟩ = some (cellOr w' ⟨w.heap.size + 1, 2, none⟩) ∧ w'.frozen? ⟨w.heap.size + 1, 0, none⟩ = false ∧ w'.frozen? ⟨w.heap.size + 1, 1, none⟩ = false ∧ w'.frozen? ⟨w.heap.size + 1, 2, none⟩ = false ∧ Below w.heap.size w w' ∧ w.heap.size + 2 ≤ w'.heap.size)
    (first
      | exact ⟨c0, c1, c2, cellOr_of (by rw [World.cell?_drew, r0]; rfl), cellOr_of (by rw [World.cell?_drew, r1]; rfl), cellOr_of (by rw [World.cell?_drew, r2]; rfl), rf0, rf1, rf2, hbel7.drew, hsiz7⟩
      | (go_split_ands
         refine ⟨?_, ?_, ?_, ?_, ?_, ?_, ?_, ?_, ?_, ?_, ?_⟩
         · (rw [hb.cell (by simp; omega)]; assumption)
         · (rw [hb.cell (by simp; omega)]; assumption)
         · (rw [hb.cell (by simp; omega)]; assumption)
         · exact cellOr_later (by assumption) hb (by simp; omega)
         · exact cellOr_later (by assumption) hb (by simp; omega)
         · exact cellOr_later (by assumption) hb (by simp; omega)
         · (rw [hb.frozen (by simp; omega)]; assumption)
         · (rw [hb.frozen (by simp; omega)]; assumption)
         · (rw [hb.frozen (by simp; omega)]; assumption)
         · exact Below.trans (by assumption) (hb.mono (by omega))
         · exact Nat.le_trans (by assumption) hb.size)
      | (go_split_ands
         refine ⟨?_, ?_, ?_, ?_, ?_, ?_, ?_, ?_, ?_, ?_, ?_⟩
         · simp [*, World.cell?_setCell_far]
         · simp [*, World.cell?_setCell_far]
         · simp [*, World.cell?_setCell_far]
         · exact cellOr_of (isSome_set (isSome_set (isSome_set (isSome_of (by assumption)))))
         · exact cellOr_of (isSome_set (isSome_set (isSome_set (isSome_of (by assumption)))))
         · exact cellOr_of (isSome_set (isSome_set (isSome_set (isSome_of (by assumption)))))
         · simp [*]
         · simp [*]
         · simp [*]
         · exact Below.setCell (Below.setCell (Below.setCell (by assumption) (by simp) _) (by simp) _) (by simp) _
         · simp [*]))
    (first
      | (go_at_call 36; (with_reducible refine (HIT.out _ _ HRD.out).mono ?_); rintro e w9 ⟨v9, rfl, ho9, hb⟩; have hb9 := hb; have HL9 := Lib.hid (items_of_own ho9).1; obtain ⟨a9, m9, k9, rfl⟩ := slice_of_own ho9; clear ho9)
      | (go_at_call 35; go_split_ands; (with_reducible refine (HIN.out _ _ _ (HI.out _ (by assumption)) HL9.out).mono ?_); rintro e w10 ⟨a10, m10, k10, rfl, ho10, hb⟩; have hb10 := hb))
  all_goals go_wp2
  all_goals (try simp only [Exit.inBlock, Exit.then])
  all_goals
    have st9 := HST7.out.later ((Below.refl _ _).drew.trans hb9) hsiz7
    have st10 := st9.later hb10 st9.siz
    obtain ⟨W9, hW9, hld, how, hbw⟩ := st10.fin a10 m10 k10 R.c R.p
    rw [← hW9]
    refine bodyPost_ret (v := .tuple #[.agg #[.slice a10 m10 k10, .int .i64 R.c, .string R.p], .int .i64 0]) ?_ rfl ⟨a10, m10, k10, rfl, how _ _ _ st9.siz ho10, hbw⟩
    rw [results_cell_tmp rfl]
    show ((loadVar 25 ⟨w.heap.size + 1, 0, none⟩).run Tryz.prog _).andThen _ = _
    rw [hld]
    rfl

end Go.Proofs.YtamdlbefiggkfaaGreat.Cmp

set_option linter.unusedVariables false
set_option linter.unusedSimpArgs false
set_option maxRecDepth 100000
namespace Go.Proofs.YtamdlbefiggkfaaGreat.Cmp
open Go Go.RowKit Go.Proofs.YtamdlbefiggkfaaGreat.Kit Go.Proofs.YtamdlbefiggkfaaGreat.Utf Go.Proofs.YtamdlbefiggkfaaGreat.Rom Go.Proofs.YtamdlbefiggkfaaGreat.Aut

theorem noB_sh : Sh noB := ⟨fun i hi => by simp [noB] at hi, Nat.zero_le _, Nat.zero_le _⟩
theorem keyB_sh {rs : List Rule} (hok : okL rs = true) {b : Bf} (h : Sh b) (k : UInt8) : Sh (keyB rs b k).1 := by
  unfold keyB
  split
  · rename_i hv
    rw [Bool.and_eq_true] at hv
    obtain ⟨v1, v2, v3, v4, v5, v6⟩ := val_parts hv.1
    split
    · exact noB_sh
    · rename_i hl
      have hfs := fd_spec hok (bs b.p) [k]
      have hq := pend_len hok (feed_pend hfs)
      refine insB_sh h (itemsL_short ?_ (chs_valid _)) (by rw [itemsL_len]; omega) (by rw [ba_size]; omega)
      have h1 := endsL_len (bs b.p ++ [k]) (fd rs (bs b.p) [k]).2
      rw [List.length_append, bs_len] at h1
      rw [ba_size]
      simp at h1
      omega
  · exact noB_sh

/-- The buffer after keys, one after the other; up to the first one that is refused. -/
noncomputable def typL (rs : List Rule) : Bf → By → Bf × Bool
  | b, [] => (b, true)
  | b, k :: ks => if (keyB rs b k).2 = 0 then typL rs (keyB rs b k).1 ks else (b, false)
theorem keyB_err (rs : List Rule) (b : Bf) (k : UInt8) : (keyB rs b k).2 = 0 ∨ (keyB rs b k).2 = 1 ∨ (keyB rs b k).2 = 7 := by
  unfold keyB
  split
  · split
    · exact .inr (.inr rfl)
    · exact .inl rfl
  · exact .inr (.inl rfl)

set_option maxHeartbeats 8000000 in
theorem typed_any {rs : List Rule} (hok : okL rs = true) (Q q0 : Nat) (ks : ByteArray) (w : World) (hA : AutoAt Q w q0 rs) (hQ : Q ≤ w.heap.size) (hs : ks.size ≤ 1048576) :
    Calls Tryz.prog 27 #[.pointer (some ⟨q0, 0, none⟩), .string ks] w fun e w' => ∃ a m k, e = .returned (.tuple #[.agg #[.slice a m k, .int .i64 (typL rs noB (bs ks)).1.c, .string (typL rs noB (bs ks)).1.p], .bool (typL rs noB (bs ks)).2]) ∧ ItR w' (.slice a m k) (typL rs noB (bs ks)).1.is ∧ Below w.heap.size w w' ∧ Sh (typL rs noB (bs ks)).1 := by
  obtain ⟨T, hT⟩ : ∃ T, typL rs noB (bs ks) = T := ⟨_, rfl⟩
  rw [hT]
  have HT0 := Lib.hid hT
  have HIN := Lib.hid (fun (b : Bf) (k : UInt8) (v : Value) (W : World) (h1 : Below w.heap.size w W) (h2 : BfR W v b) (h3 : Sh b) => insertkey_any hok Q q0 b k v W (hA.later h1 hQ) (Nat.le_trans hQ h1.size) h2 h3)
  have HKS := Lib.hid (fun (b : Bf) (k : UInt8) (h : Sh b) => keyB_sh hok h k)
  have HKE := Lib.hid (keyB_err rs)
  clear hA hT
  go_enter Tryz.func27, Tryz.ntmps27
  go_wp2
  obtain ⟨W, hW⟩ : ∃ W, (w.alloc zeroBuf).alloc zeroBuf = W := ⟨_, rfl⟩
  rw [hW]
  have fact : W.heap[w.heap.size]? = some zeroBuf ∧ W.heap[w.heap.size + 1]? = some zeroBuf ∧ Below w.heap.size w W ∧ W.heap.size = w.heap.size + 2 := start_work hW
  obtain ⟨f1, f2, f3, f4⟩ := fact
  clear hW
  go_loopw [7] (fun i wr => ∃ (n : Nat) (a : Option Addr) (m k : Nat) (b : Bf), i = .int .i64 n ∧ n ≤ ks.size ∧ wr.heap[w.heap.size]? = some zeroBuf ∧ wr.heap[w.heap.size + 1]? = some (Obj.cells #[.slice a m k, .int .i64 b.c, .string b.p] 25) ∧ wr.ownsRow (w.heap.size + 2) 72 2 (.slice a m k) b.is.length (ic b.is) ∧ Below w.heap.size w wr ∧ w.heap.size + 2 ≤ wr.heap.size ∧ Hid (Sh b) ∧ Hid (typL rs b ((bs ks).drop n) = T)) (fun i _ => ks.size - (intOf i).toNat)
  case atStart => exact ⟨0, none, 0, 0, noB, rfl, Nat.zero_le _, f1, f2, World.ownsRow_nil _ _ _ _, f3, by omega, Lib.hid noB_sh, Lib.hid HT0.out⟩
  case round =>
    obtain ⟨n, a, m, k, b, rfl, hn, hres, hbox, hown, hbw, hws, hsb, hty⟩ := hrel
    obtain ⟨r0, r1, r2, rf⟩ := box_facts hres
    obtain ⟨b0, b1, b2, bf⟩ := box_facts hbox
    by_cases hnl : n < ks.size
    · have hrun := run_byte ks n hnl
      rw [bz_bt8] at hrun
      have hdr := Lib.hid (show (bs ks).drop n = bt8 ks n :: (bs ks).drop (n + 1) by
        unfold bt8
        rw [List.drop_eq_getElem_cons (by rw [bs_len]; exact hnl), List.getD_eq_getElem?_getD, List.getElem?_eq_getElem (by rw [bs_len]; exact hnl)]; rfl)
      have hbt0 : (0 : Int) ≤ ((bt8 ks n).toNat : Int) := by omega
      generalize bt8 ks n = key at hrun hdr hbt0
      have HI := Lib.hid (fun (W : World) (h : Below wr.heap.size wr W) => HIN.out b key (.agg #[.slice a m k, .int .i64 b.c, .string b.p]) W (hbw.trans (h.mono hbw.size)) ⟨_, rfl, (items_of_own (own_later hown h)).1⟩ hsb.out)
      have HSR := Lib.hid (HKS.out b key hsb.out)
      have HER := Lib.hid (HKE.out b key)
      have HTY := Lib.hid (show (if (keyB rs b key).2 = 0 then typL rs (keyB rs b key).1 ((bs ks).drop (n + 1)) else (b, false)) = T by
        have h := hty.out
        rw [hdr.out] at h
        exact h)
      generalize keyB rs b key = R at HI HSR HER HTY
      have b0' : (wr.alloc zeroBuf).cell? ⟨w.heap.size + 1, 0, none⟩ = some (.slice a m k) := by rw [World.cell?_alloc_past _ _ _ (by omega)]; exact b0
      have b1' : (wr.alloc zeroBuf).cell? ⟨w.heap.size + 1, 1, none⟩ = some (.int .i64 b.c) := by rw [World.cell?_alloc_past _ _ _ (by omega)]; exact b1
      have b2' : (wr.alloc zeroBuf).cell? ⟨w.heap.size + 1, 2, none⟩ = some (.string b.p) := by rw [World.cell?_alloc_past _ _ _ (by omega)]; exact b2
      have HSZ := Lib.hid (show wr.heap.size ≤ (wr.alloc zeroBuf).drew.heap.size ∧ wr.heap.size < (wr.alloc zeroBuf).drew.heap.size from ⟨by simp, by simp⟩)
      go_upto_region 5 with fail
      go_cut [8, 9] (fun s8 s9 wx => ∃ N a2 m2 k2, s8 = .pointer (some ⟨N, 0, none⟩) ∧ s9 = .int .i64 R.2 ∧ wx.heap[N]? = some (Obj.cells #[.slice a2 m2 k2, .int .i64 R.1.c, .string R.1.p] 25) ∧ wx.ownsRow wr.heap.size 72 2 (.slice a2 m2 k2) R.1.is.length (ic R.1.is) ∧ Below wr.heap.size wr wx ∧ wr.heap.size ≤ N)
      case first =>
        go_region_law (first
          | (go_simp; go_at_call 9; (with_reducible refine (HI.out (wr.alloc zeroBuf).drew (((Below.refl _ _).alloc (Nat.le_refl _) _).drew)).mono ?_); rintro e w5 ⟨a2, m2, k2, rfl, ho5, hb5⟩; have hbw5 := (((Below.refl _ _).alloc (Nat.le_refl _) _).drew).trans (hb5.mono (HSZ.out.1)); have ho6 := own_base ho5 HSZ.out.1; have hz5 := (hb5.block wr.heap.size HSZ.out.2).trans (heap_alloc_new wr zeroBuf); obtain ⟨z0, z1, z2, zf⟩ := box_facts hz5)
          | (go_simp; go_at_call 9; (with_reducible refine (HI.out wr.drew ((Below.refl _ _).drew)).mono ?_); rintro e w5 ⟨a2, m2, k2, rfl, ho5, hb5⟩; have hbw5 := ((Below.refl wr.heap.size wr).drew).trans hb5; have ho6 := own_base (base' := wr.heap.size) ho5 (Nat.le_refl _)))
        all_goals go_wp2_with fail
        all_goals go_meet
        all_goals first
          | exact ⟨_, a2, m2, k2, rfl, rfl, heap_alloc_new w5 _, ho6.alloc _, hbw5.alloc hbw5.size _, hbw5.size⟩
          | exact ⟨_, a2, m2, k2, rfl, rfl, box_set3 hz5, own_base (ownsRow_setCell_below (ownsRow_setCell_below (ownsRow_setCell_below ho5 HSZ.out.2 _) HSZ.out.2 _) HSZ.out.2 _) HSZ.out.1, Below.setCell (Below.setCell (Below.setCell hbw5 (Nat.le_refl _) _) (Nat.le_refl _) _) (Nat.le_refl _) _, Nat.le_refl _⟩
      case rest =>
        obtain ⟨N, a2, m2, k2, rfl, rfl, hN, hoN, hbN, hNl⟩ := hcut
        obtain ⟨n0, n1, n2, nf⟩ := box_facts hN
        obtain ⟨y0, y1, y2, yf⟩ := box_facts ((hbN.block (w.heap.size + 1) (by omega)).trans hbox)
        obtain ⟨s0, s1, s2, sf⟩ := box_facts ((hbN.block w.heap.size (by omega)).trans hres)
        have hbw2 : Below w.heap.size w wc := hbw.trans (hbN.mono hbw.size)
        have hsc := hbN.size
        by_cases hR : R.2 = 0
        · have HTY2 := HTY.out
          rw [if_pos hR] at HTY2
          have HTZ := Lib.hid HTY2
          rw [hR]
          clear HTY2 HTY HI hty HER hR
          go_wp2
          go_roundw
          case rel =>
            refine ⟨n + 1, a2, m2, k2, R.1, by go_num, by omega, ?_, box_set3 ((hbN.block (w.heap.size + 1) (by omega)).trans hbox), ?_, Below.setCell (Below.setCell (Below.setCell hbw2 (by show _ ≤ w.heap.size + 1; omega) _) (by show _ ≤ w.heap.size + 1; omega) _) (by show _ ≤ w.heap.size + 1; omega) _, by simp; omega, HSR, HTZ⟩
            · rw [heap_setCell_other _ _ _ _ (by show w.heap.size ≠ w.heap.size + 1; omega), heap_setCell_other _ _ _ _ (by show w.heap.size ≠ w.heap.size + 1; omega), heap_setCell_other _ _ _ _ (by show w.heap.size ≠ w.heap.size + 1; omega)]
              exact (hbN.block w.heap.size (by omega)).trans hres
            · exact own_base (ownsRow_setCell_below (ownsRow_setCell_below (ownsRow_setCell_below hoN (by show w.heap.size + 1 < _; omega) _) (by show w.heap.size + 1 < _; omega) _) (by show w.heap.size + 1 < _; omega) _) (by omega)
          case measure => simp [intOf]; omega
        · have hR2 : (R.2 != 0) = true := by simpa using hR
          have HTY2 := HTY.out
          rw [if_neg hR] at HTY2
          subst HTY2
          have hownc := own_later hown hbN
          clear HTY HI hty hR HSR
          go_wp2
          obtain ⟨q0', q1', q2'⟩ := three_set (w := wc) (g := w.heap.size) (x := .slice a m k) (y := .int .i64 b.c) (z := .string b.p) (by rw [s0]; rfl) (by rw [s1]; rfl) (by rw [s2]; rfl)
          refine bodyPost_ret (v := .tuple #[.agg #[.slice a m k, .int .i64 b.c, .string b.p], .bool false]) ?_ rfl ⟨a, m, k, rfl, (items_of_own (ownsRow_setCell_below (ownsRow_setCell_below (ownsRow_setCell_below hownc (by show w.heap.size < _; omega) _) (by show w.heap.size < _; omega) _) (by show w.heap.size < _; omega) _)).1, Below.setCell (Below.setCell (Below.setCell hbw2 (Nat.le_refl _) _) (Nat.le_refl _) _) (Nat.le_refl _) _, hsb.out⟩
          rw [results_cell_tmp rfl]
          show ((loadVar 25 ⟨w.heap.size, 0, none⟩).run Tryz.prog _).andThen _ = _
          rw [load_buf q0' q1' q2']
          rfl
    · have hnil : (bs ks).drop n = [] := List.drop_of_length_le (by rw [bs_len]; omega)
      have HTY2 := hty.out
      rw [hnil] at HTY2
      have HTY3 : (b, true) = T := HTY2
      subst HTY3
      clear HTY2 hty
      go_wp2
      obtain ⟨q0', q1', q2'⟩ := three_set (w := wr) (g := w.heap.size) (x := .slice a m k) (y := .int .i64 b.c) (z := .string b.p) (by rw [r0]; rfl) (by rw [r1]; rfl) (by rw [r2]; rfl)
      refine bodyPost_ret (v := .tuple #[.agg #[.slice a m k, .int .i64 b.c, .string b.p], .bool true]) ?_ rfl ⟨a, m, k, rfl, (items_of_own (ownsRow_setCell_below (ownsRow_setCell_below (ownsRow_setCell_below hown (by show w.heap.size < _; omega) _) (by show w.heap.size < _; omega) _) (by show w.heap.size < _; omega) _)).1, Below.setCell (Below.setCell (Below.setCell hbw (Nat.le_refl _) _) (Nat.le_refl _) _) (Nat.le_refl _) _, hsb.out⟩
      rw [results_cell_tmp rfl]
      show ((loadVar 25 ⟨w.heap.size, 0, none⟩).run Tryz.prog _).andThen _ = _
      rw [load_buf q0' q1' q2']
      rfl

end Go.Proofs.YtamdlbefiggkfaaGreat.Cmp

set_option linter.unusedVariables false
set_option linter.unusedSimpArgs false
set_option maxRecDepth 100000
namespace Go.Proofs.YtamdlbefiggkfaaGreat.Cmp
open Go Go.RowKit Go.Proofs.YtamdlbefiggkfaaGreat.Kit Go.Proofs.YtamdlbefiggkfaaGreat.Utf Go.Proofs.YtamdlbefiggkfaaGreat.Rom Go.Proofs.YtamdlbefiggkfaaGreat.Aut

theorem reads_take {w : World} {a : Option Addr} {n k m : Nat} {cs : List Int} (h : Reads w (.slice a n k) (ints cs)) (hm : m ≤ n) : Reads w (.slice a m k) (ints (cs.take m)) := by
  obtain ⟨a', n', k', e, h1, h2, h3, h4⟩ := h
  cases e
  rw [List.length_map] at h1
  refine ⟨a, m, k, rfl, by rw [List.length_map, List.length_take]; omega, by omega, h3, ?_⟩
  rcases h4 with ⟨rfl, hl, hc⟩ | ⟨x, rfl, hl⟩ | ⟨b, off, rfl, hlt, hx⟩
  · exact .inl ⟨rfl, by omega, hc⟩
  · exact .inr (.inl ⟨x, rfl, by omega⟩)
  · refine .inr (.inr ⟨b, off, rfl, hlt, fun i x hi => hx i x ?_⟩)
    rw [List.getElem?_map, List.getElem?_take] at hi
    rw [List.getElem?_map]
    split at hi
    · exact hi
    · simp at hi
theorem runes_upto {w : World} {a : Option Addr} {n k m : Nat} {cs : List Int} (h : Reads w (.slice a n k) (ints cs)) (hm : m ≤ n) :
    ∀ W, (Instr.sliceAt 79 (.slice a n k) none (some (.int .i64 m)) none).run Tryz.prog W = .ok (.slice a m k) W := by
  intro W
  obtain ⟨a', n', k', e, h1, h2, h3, h4⟩ := h
  cases e
  have k2 : (m : Int) ≤ k := by omega
  have u := Tryz.underlying79
  rcases h4 with ⟨rfl, hl, hc0⟩ | ⟨x, rfl, hl⟩ | ⟨b, off, rfl, hlt, hx⟩
  · have k0 : m = 0 := by omega
    subst k0
    subst hc0
    go_simp
  · go_simp
  · go_simp

set_option maxHeartbeats 8000000 in
theorem flushbuf_nil (b : Bf) (v : Value) (w : World) (hR : BfR w v b) (hsh : Sh b) :
    Calls Tryz.prog 15 #[.pointer none, v] w (NewB b w) := by
  obtain ⟨a, len, cap, rfl, hI⟩ := hR.open
  have HV := Lib.hid (fun s W (hI : ItR W s b.is) => valid_any b s W hI hsh)
  have HC := Lib.hid (fun s W (hI : ItR W s b.is) => copied_new b s W hI hsh)
  have HI := Lib.hid (fun (W : World) (h : Below w.heap.size w W) => hI.later h (Nat.le_refl _))
  have hlen := hI.len.1
  clear hR hI
  obtain ⟨is, c, p⟩ := b
  simp only at *
  subst hlen
  have HST := Lib.hid (fun W (h : (w.alloc (Obj.cells #[.slice a is.length cap, .int .i64 c, .string p] 25)).alloc zeroBuf = W) => St.start h)
  go_enter Tryz.func15, Tryz.ntmps15
  go_wp2_with (first
    | (go_at_call 44; first | (obtain ⟨W, hW⟩ : ∃ W, (w.alloc (Obj.cells #[.slice a is.length cap, .int .i64 c, .string p] 25)).alloc zeroBuf = W := ⟨_, rfl⟩; rw [hW]; have st0 := HST.out W hW; clear hW; (with_reducible refine (HC.out _ W (HI.out W st0.bel)).mono ?_); rintro e w5 ⟨a10, m10, k10, rfl, ho10, hb5⟩; have st9 := st0; have st10 := st0.later hb5 st0.siz; have st10 := Lib.hid st10; have st9 := Lib.hid st9; obtain ⟨c0, c1, c2, cf, r0, r1, r2, rf⟩ := st10.out.facts) | ((with_reducible refine (HC.out _ w7 (HI.out w7 HST7.out.bel)).mono ?_); rintro e w5 ⟨a10, m10, k10, rfl, ho10, hb5⟩; have st9 := Lib.hid HST7.out; have st10 := Lib.hid (HST7.out.later hb5 HST7.out.siz); clear c0 c1 c2 cf r0 r1 r2 rf; obtain ⟨c0, c1, c2, cf, r0, r1, r2, rf⟩ := st10.out.facts)))
  obtain ⟨W9, hW9, hld, how, hbw⟩ := st10.out.fin a10 m10 k10 c p
  rw [← hW9]
  refine bodyPost_ret (v := .agg #[.slice a10 m10 k10, .int .i64 c, .string p]) ?_ rfl ⟨a10, m10, k10, rfl, how _ _ _ st9.out.siz ho10, hbw⟩
  rw [results_cell1 rfl]
  exact hld

set_option maxHeartbeats 8000000 in
theorem flushbuf_any {rs : List Rule} (hok : okL rs = true) (Q q0 : Nat) (b : Bf) (F : By) (v : Value) (w : World) (hA : AutoAt Q w q0 rs) (hQ : Q ≤ w.heap.size) (hR : BfR w v b) (hsh : Sh b) (hF : val b = true → Flushes rs (bs b.p) F) :
    Calls Tryz.prog 15 #[.pointer (some ⟨q0, 0, none⟩), v] w (NewB (fluB b F) w) := by
  obtain ⟨a, len, cap, rfl, hI⟩ := hR.open
  have HV := Lib.hid (fun s W (hI : ItR W s b.is) => valid_any b s W hI hsh)
  have HC := Lib.hid (fun s W (hI : ItR W s b.is) => copied_new b s W hI hsh)
  have HI := Lib.hid (fun (W : World) (h : Below w.heap.size w W) => hI.later h (Nat.le_refl _))
  have hlen := hI.len.1
  have hvp := @val_parts b
  have hvk := @val_keys b
  unfold fluB
  clear hR hI
  obtain ⟨is, c, p⟩ := b
  simp only at *
  subst hlen
  have HST := Lib.hid (fun W (h : (w.alloc (Obj.cells #[.slice a is.length cap, .int .i64 c, .string p] 25)).alloc zeroBuf = W) => St.start h)
  cases hv : val ⟨is, c, p⟩
  · rw [hv] at HV
    clear hv hvp hvk hF
    simp only [Bool.false_eq_true, if_false]
    go_enter Tryz.func15, Tryz.ntmps15
    go_wp2_with (first
      | (go_at_call 30; obtain ⟨W, hW⟩ : ∃ W, (w.alloc (Obj.cells #[.slice a is.length cap, .int .i64 c, .string p] 25)).alloc zeroBuf = W := ⟨_, rfl⟩; rw [hW]; have st0 := HST.out W hW; clear hW; (with_reducible refine (HV.out _ W (HI.out W st0.bel)).mono ?_); rintro e w7 ⟨rfl, hb7⟩; have st7 := st0.later hb7 st0.siz; clear st0 hb7; obtain ⟨c0, c1, c2, cf, r0, r1, r2, rf⟩ := st7.facts; have HST7 := Lib.hid st7; clear st7)
      | (go_at_call 44; first | (obtain ⟨W, hW⟩ : ∃ W, (w.alloc (Obj.cells #[.slice a is.length cap, .int .i64 c, .string p] 25)).alloc zeroBuf = W := ⟨_, rfl⟩; rw [hW]; have st0 := HST.out W hW; clear hW; (with_reducible refine (HC.out _ W (HI.out W st0.bel)).mono ?_); rintro e w5 ⟨a10, m10, k10, rfl, ho10, hb5⟩; have st9 := st0; have st10 := st0.later hb5 st0.siz; have st10 := Lib.hid st10; have st9 := Lib.hid st9; obtain ⟨c0, c1, c2, cf, r0, r1, r2, rf⟩ := st10.out.facts) | ((with_reducible refine (HC.out _ w7 (HI.out w7 HST7.out.bel)).mono ?_); rintro e w5 ⟨a10, m10, k10, rfl, ho10, hb5⟩; have st9 := Lib.hid HST7.out; have st10 := Lib.hid (HST7.out.later hb5 HST7.out.siz); clear c0 c1 c2 cf r0 r1 r2 rf; obtain ⟨c0, c1, c2, cf, r0, r1, r2, rf⟩ := st10.out.facts)))
    obtain ⟨W9, hW9, hld, how, hbw⟩ := st10.out.fin a10 m10 k10 c p
    rw [← hW9]
    refine bodyPost_ret (v := .agg #[.slice a10 m10 k10, .int .i64 c, .string p]) ?_ rfl ⟨a10, m10, k10, rfl, how _ _ _ st9.out.siz ho10, hbw⟩
    rw [results_cell1 rfl]
    exact hld
  obtain ⟨v1, v2, v3, _, v5, v6⟩ := hvp hv
  have hpk := hvk hv
  have hF := hF hv
  rw [hv] at HV
  have HFL : Hid (∀ W, Below w.heap.size w W → Calls Tryz.prog 45 #[.pointer (some ⟨q0, 0, none⟩), .string p] W fun e w' => e = .returned (.string (ba F)) ∧ Below W.heap.size W w') := Lib.hid fun W h => by
    refine (flush_any hok Q q0 p W (hA.later h hQ) (Nat.le_trans hQ h.size) (by omega)).mono ?_
    rintro e w' ⟨F', rfl, hF', hb⟩
    rw [hpk] at hF'
    rw [hF'.det hF]
    exact ⟨rfl, hb⟩
  have hfl := hF.len hok
  rw [bs_len] at hfl
  have HRU := Lib.hid (fun W => runes_uni (ba F) W (by rw [ba_size]; omega))
  rw [bs_ba] at HRU
  have hcv2 := chs_valid F
  have hcl := chs_le F
  generalize (chars F).isSome = ok at *
  generalize chs F = cs at *
  obtain ⟨m0, hm0⟩ : ∃ m0, min cs.length (64 - is.length) = m0 := ⟨_, rfl⟩
  have hRle : m0 ≤ cs.length := by omega
  have hmin : min (cs.length : Int) (64 - (is.length : Int)) = (m0 : Int) := by omega
  have hm1 : (0 : Int) ≤ 64 - (is.length : Int) := by omega
  have hts : cs.take (64 - is.length) = cs.take m0 := by rw [← hm0, List.take_eq_take_iff]; omega
  rw [hts]
  obtain ⟨ts, htsd⟩ : ∃ ts, cs.take m0 = ts := ⟨_, rfl⟩
  have HTS := Lib.hid htsd
  have htl : ts.length = m0 := by rw [← htsd, List.length_take]; omega
  have htv : ∀ c ∈ ts, validRune c = true := fun c hc => hcv2 c (by rw [← htsd] at hc; exact List.mem_of_mem_take hc)
  rw [htsd]
  have HIT := Lib.hid (fun v W (h : Reads W v (ints ts)) => items_any p ts v W h (by omega))
  have HIN := Lib.hid (fun s v W (h1 : ItR W s is) (h2 : ItR W v (itemsL p ts)) => insert_new ⟨is, c, ⟨#[]⟩⟩ (itemsL p ts) s v W h1 h2 ⟨v2, v3⟩ (insB_sh (b := ⟨is, c, p⟩) (p := ⟨#[]⟩) hsh (itemsL_short (by omega) htv) (by rw [itemsL_len]; show is.length + _ ≤ _; omega) (Nat.zero_le _)))
  simp only at HIN
  clear hv hvp hvk hF hfl hcv2 hpk hsh hA hcl hts htv htsd
  simp only [if_true]
  generalize insB ⟨is, c, ⟨#[]⟩⟩ (itemsL p ts) = R at HIN ⊢
  generalize itemsL p ts = L at HIN HIT
  clear HC
  go_enter Tryz.func15, Tryz.ntmps15
  go_wp2_with (first
    | (go_at_call 30; obtain ⟨W, hW⟩ : ∃ W, (w.alloc (Obj.cells #[.slice a is.length cap, .int .i64 c, .string p] 25)).alloc zeroBuf = W := ⟨_, rfl⟩; rw [hW]; have st0 := HST.out W hW; clear hW; (with_reducible refine (HV.out _ W (HI.out W st0.bel)).mono ?_); rintro e w7 ⟨rfl, hb7⟩; have st7 := st0.later hb7 st0.siz; clear st0 hb7; obtain ⟨c0, c1, c2, cf, r0, r1, r2, rf⟩ := st7.facts; have HST7 := Lib.hid st7; clear st7)
    | (go_at_call 45; (with_reducible refine (HFL.out w7 HST7.out.bel).mono ?_); rintro e w8 ⟨rfl, hb8⟩; have st8 := HST7.out.later hb8 HST7.out.siz; clear HST7 c0 c1 c2 cf r0 r1 r2 rf hb8; obtain ⟨c0, c1, c2, cf, r0, r1, r2, rf⟩ := st8.facts; have HST7 := Lib.hid st8; clear st8)
    | (go_at_call 33; (with_reducible refine (HRU.out _).mono ?_); rintro e w9 ⟨a5, k5, rfl, hr5, hrb5, hb9⟩; have HRB := Lib.hid (show ∀ b, _ → w.heap.size < b from fun b h => Nat.lt_of_lt_of_le (Nat.lt_of_lt_of_le (Nat.lt_succ_of_lt (Nat.lt_succ_self _)) HST7.out.siz) (hrb5 b h)); clear hrb5; have st9 := HST7.out.later hb9 HST7.out.siz; clear HST7 c0 c1 c2 cf r0 r1 r2 rf hb9; obtain ⟨c0, c1, c2, cf, r0, r1, r2, rf⟩ := st9.facts; have HST7 := Lib.hid st9; have HR5 := Lib.hid hr5; have hsl5 := runes_upto hr5 hRle; clear st9 hr5))
  obtain ⟨W7, hW7⟩ : ∃ W7, w9.setCell ⟨w.heap.size, 2, none⟩ (.string { data := #[] }) = W7 := ⟨_, rfl⟩
  rw [hW7]
  have st7 := HST7.out.pend { data := #[] }
  rw [hW7] at st7
  have hrd : Reads W7.drew (.slice a5 m0 k5) (ints ts) := by
    have h := reads_take (reads_set HR5.out w.heap.size 2 (.string { data := #[] }) (fun b hb => by have := HRB.out b hb; omega)) hRle
    rw [hW7, HTS.out] at h
    exact h
  have HRD := Lib.hid hrd
  clear c0 c1 c2 cf r0 r1 r2 rf HST7 hW7
  obtain ⟨c0, c1, c2, cf, r0, r1, r2, rf⟩ := st7.facts
  have HST7 := Lib.hid st7
  clear st7
  have hbel7 := HST7.out.bel
  have hsiz7 := HST7.out.siz
  have rf0 := rf 0
  have rf1 := rf 1
  have rf2 := rf 2
  clear hrd
  go_region_held3 (fun w' => w'.cell? ⟨w.heap.size, 0, none⟩ = some (.slice a is.length cap) ∧ w'.cell? ⟨w.heap.size, 1, none⟩ = some (.int .i64 c) ∧ w'.cell? ⟨w.heap.size, 2, none⟩ = some (.string { data := #[] }) ∧ w'.cell? ⟨w.heap.size + 1, 0, none⟩ = some (cellOr w' ⟨w.heap.size + 1, 0, none⟩) ∧ w'.cell? ⟨w.heap.size + 1, 1, none⟩ = some (cellOr w' ⟨w.heap.size + 1, 1, none⟩) ∧ w'.cell? ⟨w.heap.size + 1, 2, none⟩ = some (cellOr w' ⟨w.heap.size + 1, 2, none⟩) ∧ w'.frozen? ⟨w.heap.size + 1, 0, none⟩ = false ∧ w'.frozen? ⟨w.heap.size + 1, 1, none⟩ = false ∧ w'.frozen? ⟨w.heap.size + 1, 2, none⟩ = false ∧ Below w.heap.size w w' ∧ w.heap.size + 2 ≤ w'.heap.size)
    (first
      | exact ⟨c0, c1, c2, cellOr_of (by rw [World.cell?_drew, r0]; rfl), cellOr_of (by rw [World.cell?_drew, r1]; rfl), cellOr_of (by rw [World.cell?_drew, r2]; rfl), rf0, rf1, rf2, hbel7.drew, hsiz7⟩
      | (go_split_ands
         refine ⟨?_, ?_, ?_, ?_, ?_, ?_, ?_, ?_, ?_, ?_, ?_⟩
         · (rw [hb.cell (by simp; omega)]; assumption)
         · (rw [hb.cell (by simp; omega)]; assumption)
         · (rw [hb.cell (by simp; omega)]; assumption)
         · exact cellOr_later (by assumption) hb (by simp; omega)
         · exact cellOr_later (by assumption) hb (by simp; omega)
         · exact cellOr_later (by assumption) hb (by simp; omega)
         · (rw [hb.frozen (by simp; omega)]; assumption)
         · (rw [hb.frozen (by simp; omega)]; assumption)
         · (rw [hb.frozen (by simp; omega)]; assumption)
         · exact Below.trans (by assumption) (hb.mono (by omega))
         · exact Nat.le_trans (by assumption) hb.size)
      | (go_split_ands
         refine ⟨?_, ?_, ?_, ?_, ?_, ?_, ?_, ?_, ?_, ?_, ?_⟩
         · simp [*, World.cell?_setCell_far]
         · simp [*, World.cell?_setCell_far]
         · simp [*, World.cell?_setCell_far]
         · exact cellOr_of (isSome_set (isSome_set (isSome_set (isSome_of (by assumption)))))
         · exact cellOr_of (isSome_set (isSome_set (isSome_set (isSome_of (by assumption)))))
         · exact cellOr_of (isSome_set (isSome_set (isSome_set (isSome_of (by assumption)))))
         · simp [*]
         · simp [*]
         · simp [*]
         · exact Below.setCell (Below.setCell (Below.setCell (by assumption) (by simp) _) (by simp) _) (by simp) _
         · simp [*]))
    (first
      | (go_at_call 36; (with_reducible refine (HIT.out _ _ HRD.out).mono ?_); rintro e w9 ⟨v9, rfl, ho9, hb⟩; have hb9 := hb; have HL9 := Lib.hid (items_of_own ho9).1; obtain ⟨a9, m9, k9, rfl⟩ := slice_of_own ho9; clear ho9)
      | (go_at_call 35; go_split_ands; (with_reducible refine (HIN.out _ _ _ (HI.out _ (by assumption)) HL9.out).mono ?_); rintro e w10 ⟨a10, m10, k10, rfl, ho10, hb⟩; have hb10 := hb))
  all_goals go_wp2
  all_goals (try simp only [Exit.inBlock, Exit.then])
  all_goals
    have st9 := HST7.out.later ((Below.refl _ _).drew.trans hb9) hsiz7
    have st10 := st9.later hb10 st9.siz
    obtain ⟨W9, hW9, hld, how, hbw⟩ := st10.fin a10 m10 k10 R.c R.p
    rw [← hW9]
    refine bodyPost_ret (v := .agg #[.slice a10 m10 k10, .int .i64 R.c, .string R.p]) ?_ rfl ⟨a10, m10, k10, rfl, how _ _ _ st9.siz ho10, hbw⟩
    rw [results_cell1 rfl]
    exact hld

end Go.Proofs.YtamdlbefiggkfaaGreat.Cmp
