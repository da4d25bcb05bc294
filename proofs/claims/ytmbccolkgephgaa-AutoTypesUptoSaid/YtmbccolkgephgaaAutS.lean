/-
  Contracts of the automaton's write, Run, Step and Flush.
-/
import Derived.Test.YtmbccolkgephgaaAutF
import Derived.Deep.RegionLaw
set_option linter.unusedVariables false
set_option linter.unusedSimpArgs false
set_option maxRecDepth 100000
namespace Go.Proofs.Ytmbccolkgephgaa.Aut
open Go Go.RowKit Go.Proofs.Ytmbccolkgephgaa.Kit Go.Proofs.Ytmbccolkgephgaa.Utf Go.Proofs.Ytmbccolkgephgaa.Rom

theorem bs_emp : bs ⟨#[]⟩ = [] := rfl
theorem feed_any {rs : List Rule} (hok : okL rs = true) (B a b : Nat) (p ks : ByteArray) (acc : By) (w : World) (hA : AutoAt B w a rs) (hB : B ≤ b) (hb : b + 1 ≤ w.heap.size) (hBl : Lib.IsBuilderF 64 5 b b (Lib.byteCells acc) w) (hs : acc.length + 16 * (p.size + ks.size) ≤ 35184372088832) :
    Calls Try.prog 51 #[.pointer (some ⟨a, 0, none⟩), .pointer (some ⟨b, 0, none⟩), .string p, .string ks] w fun e w' => e = .returned (.string (ba (fd rs (bs p) (bs ks)).2)) ∧ Lib.IsBuilderF 64 5 b b (Lib.byteCells (acc ++ (fd rs (bs p) (bs ks)).1)) w' ∧ Below b w w' ∧ w.heap.size ≤ w'.heap.size := by
  refine ((feed_all hok (p.size + ks.size)).1 B a b p ks acc w hA hB hb hBl (Nat.le_refl _) hs).mono ?_
  rintro e w' ⟨o, q, rfl, hf, hBl, hb, _, hsz⟩
  rw [hf.fd]
  exact ⟨rfl, hBl, hb, hsz⟩

set_option maxHeartbeats 2000000 in
theorem write_any {rs : List Rule} (hok : okL rs = true) (B a : Nat) (p ks : ByteArray) (w : World) (hA : AutoAt B w a rs) (hB : B ≤ w.heap.size) (hs : p.size + ks.size ≤ 1099511627776) :
    Calls Try.prog 34 #[.pointer (some ⟨a, 0, none⟩), .string p, .string ks] w fun e w' => e = .returned (.tuple #[.string (ba (fd rs (bs p) (keysOf (bs ks))).1), .string (ba (fd rs (bs p) (keysOf (bs ks))).2)]) ∧ Below w.heap.size w w' := by
  have hfs := (fd_spec hok (bs p) (keysOf (bs ks))).len hok
  have hkl := keysOf_le (bs ks)
  rw [bs_len] at hfs hkl
  have hk2 : (ba (keysOf (bs ks))).size = (keysOf (bs ks)).length := ba_size _
  have hF : Hid (∀ (w1 : World), Below w.heap.size (w.alloc (.cells #[.pointer none, .slice none 0 0] 64)) w1 → Lib.IsBuilderF 64 5 w.heap.size w.heap.size [] w1 → w.heap.size + 1 ≤ w1.heap.size → Calls Try.prog 51 #[.pointer (some ⟨a, 0, none⟩), .pointer (some ⟨w.heap.size, 0, none⟩), .string p, .string (ba (keysOf (bs ks)))] w1 fun e w' => e = .returned (.string (ba (fd rs (bs p) (keysOf (bs ks))).2)) ∧ Lib.IsBuilderF 64 5 w.heap.size w.heap.size (Lib.byteCells (fd rs (bs p) (keysOf (bs ks))).1) w' ∧ Below w.heap.size w1 w' ∧ w1.heap.size ≤ w'.heap.size) := Lib.hid fun w1 h1 h2 h3 => by
    have := feed_any hok w.heap.size a w.heap.size p (ba (keysOf (bs ks))) [] w1 ((hA.mono hB).later (((Below.refl _ _).alloc (Nat.le_refl _) _).trans h1) (Nat.le_refl _)) (Nat.le_refl _) h3 h2 (by rw [hk2, List.length_nil]; omega)
    rw [bs_ba] at this
    simpa only [List.nil_append] using this
  have HO := Lib.hid (fun W => only_any ks W (by omega))
  have HB0 := Lib.hid (builder_new2 64 5 w w.heap.size rfl)
  obtain ⟨o, ho⟩ : ∃ o, (fd rs (bs p) (keysOf (bs ks))).1 = o := ⟨_, rfl⟩
  obtain ⟨q, hq⟩ : ∃ q, (fd rs (bs p) (keysOf (bs ks))).2 = q := ⟨_, rfl⟩
  rw [ho, hq] at hF hfs ⊢
  have hql : (ba q).size ≤ 281474976710656 := by rw [ba_size]; omega
  have HC := Lib.hid (fun W => Clone.clone_any (ba q) W hql)
  generalize ba (keysOf (bs ks)) = KS at hF HO hk2
  clear ho hq hA hfs hkl hql
  go_enter Try.func34, Try.ntmps34
  go_wp2_with (first
    | (go_at_call 36; (with_reducible refine (HO.out _).mono ?_); rintro e w1 ⟨rfl, hb1⟩; have hb1' := hb1.mono (B' := w.heap.size) (by simp); have hz1 : w.heap.size + 1 ≤ w1.heap.size := (by have := hb1.size; simpa using this); have HBl1 := Lib.hid (builder_kept2 HB0.out (fun k _ hk => hb1.block k hk)))
    | (go_at_call 51; (with_reducible refine (hF.out _ hb1' HBl1.out hz1).mono ?_); rintro e w2 ⟨rfl, hBl2, hb2, hs2⟩; have HBl2 := Lib.hid hBl2; clear hBl2)
    | (go_at_call 38; refine (Try.Builder_String_any_k w.heap.size w.heap.size o _ HBl2.out (by omega)).mono ?_; rintro e w3 ⟨rfl, _, hb3, _⟩)
    | (go_at_call 31; (with_reducible refine (HC.out _).mono ?_); rintro e w4 ⟨rfl, hb4⟩))
  go_ret2
  exact ⟨rfl, (((((Below.refl _ _).alloc (Nat.le_refl _) _).trans hb1').trans hb2).trans hb3).trans (hb4.mono (by have := hb3.size; omega))⟩

theorem write_nil (p ks : ByteArray) (w : World) :
    Calls Try.prog 34 #[.pointer none, .string p, .string ks] w fun e w' => e = .returned (.tuple #[.string ⟨#[]⟩, .string ⟨#[]⟩]) ∧ w' = w := by
  go_enter Try.func34, Try.ntmps34
  go_wp2
  go_ret2
  exact ⟨rfl, rfl⟩

theorem run_any {rs : List Rule} (hok : okL rs = true) (B a : Nat) (ks : ByteArray) (w : World) (hA : AutoAt B w a rs) (hB : B ≤ w.heap.size) (hs : ks.size ≤ 1099511627776) :
    Calls Try.prog 19 #[.pointer (some ⟨a, 0, none⟩), .string ks] w fun e w' => e = .returned (.tuple #[.string (ba (fd rs [] (keysOf (bs ks))).1), .string (ba (fd rs [] (keysOf (bs ks))).2)]) ∧ Below w.heap.size w w' := by
  have HW := Lib.hid (write_any hok B a ⟨#[]⟩ ks w hA hB (by show 0 + _ ≤ _; omega))
  rw [bs_emp] at HW
  obtain ⟨o, ho⟩ : ∃ o, (fd rs [] (keysOf (bs ks))).1 = o := ⟨_, rfl⟩
  obtain ⟨q, hq⟩ : ∃ q, (fd rs [] (keysOf (bs ks))).2 = q := ⟨_, rfl⟩
  rw [ho, hq] at HW ⊢
  clear ho hq
  go_enter Try.func19, Try.ntmps19
  go_wp2_with (go_at_call 34; (with_reducible refine HW.out.mono ?_); rintro e w1 ⟨rfl, hb1⟩)
  go_ret2
  exact ⟨rfl, hb1⟩
theorem run_nil (ks : ByteArray) (w : World) :
    Calls Try.prog 19 #[.pointer none, .string ks] w fun e w' => e = .returned (.tuple #[.string ⟨#[]⟩, .string ⟨#[]⟩]) ∧ Below w.heap.size w w' := by
  have HW := Lib.hid (write_nil ⟨#[]⟩ ks w)
  go_enter Try.func19, Try.ntmps19
  go_wp2_with (go_at_call 34; (with_reducible refine HW.out.mono ?_); rintro e w1 ⟨rfl, hw1⟩; obtain rfl := hw1.symm)
  go_ret2
  exact ⟨rfl, Below.refl _ _⟩

def strLen (v : Value) : Nat := match v with
  | .string s => s.size
  | _ => 0
theorem strLen_mk (s : ByteArray) : strLen (.string s) = s.size := rfl

set_option maxHeartbeats 2000000 in
theorem flush_any {rs : List Rule} (hok : okL rs = true) (B a : Nat) (p : ByteArray) (w : World) (hA : AutoAt B w a rs) (hB : B ≤ w.heap.size) (hs : p.size ≤ 1099511627776) :
    Calls Try.prog 23 #[.pointer (some ⟨a, 0, none⟩), .string p] w fun e w' => ∃ F, e = .returned (.string (ba F)) ∧ Flushes rs (keysOf (bs p)) F ∧ Below w.heap.size w w' := by
  have hkl := keysOf_le (bs p)
  rw [bs_len] at hkl
  have HO := Lib.hid (fun W => only_any p W (by omega))
  have HB0 := Lib.hid (builder_new2 64 5 w w.heap.size rfl)
  obtain ⟨K, hK⟩ : ∃ K, keysOf (bs p) = K := ⟨_, rfl⟩
  rw [hK] at hkl HO ⊢
  have HAP := fun n => (feed_all hok n).2
  unfold ApplyC at HAP
  have HAP := Lib.hid HAP
  have HAU := Lib.hid (hA.mono hB)
  clear hA hK
  go_enter Try.func23, Try.ntmps23
  go_wp2_with (go_at_call 36; (with_reducible refine (HO.out _).mono ?_); rintro e w1 ⟨rfl, hb1⟩)
  have hb1' := hb1.mono (B' := w.heap.size) (by simp)
  have hz1 : w.heap.size + 1 ≤ w1.heap.size := by have := hb1.size; simpa using this
  have HBl1 := Lib.hid (builder_kept2 HB0.out (fun k _ hk => hb1.block k hk))
  have hbw : Below w.heap.size w w1 := ((Below.refl _ _).alloc (Nat.le_refl _) _).trans hb1'
  clear HB0 HO hb1 hb1'
  go_loopw [6] (fun v wr => ∃ (o q : By), v = .string (ba q) ∧ Hid (∀ F, Flushes rs q F → Flushes rs K (o ++ F)) ∧ o.length + 16 * q.length ≤ 16 * K.length ∧ Hid (Lib.IsBuilderF 64 5 w.heap.size w.heap.size (Lib.byteCells o) wr) ∧ Below w.heap.size w wr ∧ w.heap.size + 1 ≤ wr.heap.size) (fun v _ => strLen v)
  case atStart => exact ⟨[], K, rfl, Lib.hid (fun F h => h), by simp, HBl1, hbw, hz1⟩
  case round =>
    obtain ⟨o, q, rfl, hF, hl, hBk, hbr, hzr⟩ := hrel
    cases q with
    | nil =>
      have he : (ba []).toList.isEmpty = true := by rw [Lib.toList_data]; rfl
      have hFl := Lib.hid (hF.out [] .nil)
      rw [List.append_nil] at hFl
      go_wp2_with (go_at_call 38; refine (Try.Builder_String_any_k w.heap.size w.heap.size o _ hBk.out (by omega)).mono ?_; rintro e w3 ⟨rfl, _, hb3, _⟩)
      go_ret
      exact ⟨o, rfl, hFl.out, hbr.trans hb3⟩
    | cons c q =>
      have hsz : (ba (c :: q)).size = q.length + 1 := by rw [ba_size]; rfl
      have hne : ((ba (c :: q)).toList == ([] : List UInt8)) = false := by rw [Lib.toList_data]; rfl
      have hne2 : (ba (c :: q)).toList.isEmpty = false := by rw [Lib.toList_data]; rfl
      have hC := Lib.hid (HAP.out q.length w.heap.size a w.heap.size (ba (c :: q)) o wr (HAU.out.later hbr (Nat.le_refl _)) (Nat.le_refl _) hzr hBk.out (by omega) (by omega) (by rw [hsz]; rw [List.length_cons] at hl; omega))
      rw [bs_ba] at hC
      have hlk := appK_len hok (rs := rs) (s := c :: q) (by simp)
      have hlo := appO_len hok (rs := rs) (c :: q)
      rw [List.length_cons] at hl hlk
      have HH := Lib.hid hF.out
      have HL := Lib.hid hlo
      clear hF hlo
      go_wp2_with (go_at_call 37; (with_reducible refine hC.out.mono ?_); rintro e w4 ⟨o2, q2, rfl, hf2, hBl4, hb4, _, hs4⟩)
      have hlq := hf2.len hok
      rw [List.length_nil] at hlq
      go_roundw
      case rel =>
        refine ⟨o ++ (appO rs (c :: q) ++ o2), q2, rfl, Lib.hid fun F hF2 => ?_, ?_, Lib.hid hBl4, hbr.trans hb4, by omega⟩
        · have := HH.out _ (Flushes.step (by simp) hf2 hF2)
          simpa only [List.append_assoc] using this
        · have := HL.out
          simp only [List.length_append]; omega
      case measure => rw [strLen_mk, strLen_mk, hsz, ba_size]; omega

theorem flush_nil (p : ByteArray) (w : World) :
    Calls Try.prog 23 #[.pointer none, .string p] w fun e w' => e = .returned (.string ⟨#[]⟩) ∧ Below w.heap.size w w' := by
  go_enter Try.func23, Try.ntmps23
  go_wp2
  go_ret
  exact ⟨rfl, Below.refl _ _⟩

theorem conv_lit (W : World) (c : UInt8) {W' : World} (hb : W'.heap[W.heap.size]? = some (Obj.cells #[.int .u8 c.toNat] 5 (0, 0))) :
    (convert 47 9 (.slice (some ⟨W.heap.size, 0, none⟩) 1 1)).run Try.prog W' = .ok (.string (ba [c])) W' :=
  conv_bytes (P := Try.prog) (l := [c]) (base := 0) (n := 1) (e := 5) ⟨rfl, .inr ⟨W.heap.size, 1, #[.int .u8 c.toNat], rfl, Nat.zero_le _, hb, Nat.le_refl _, by simp [maxLen], rfl, by simp [u8s]⟩⟩ Try.underlying47 Try.underlying5 Try.underlying9

theorem step_any {rs : List Rule} (hok : okL rs = true) (B a : Nat) (p : ByteArray) (c : UInt8) (w : World) (hA : AutoAt B w a rs) (hB : B ≤ w.heap.size) (hs : p.size ≤ 549755813888) :
    Calls Try.prog 21 #[.pointer (some ⟨a, 0, none⟩), .string p, .int .u8 c.toNat] w fun e w' => e = .returned (.tuple #[.string (ba (fd rs (keysOf (bs p)) (keysOf [c])).1), .string (ba (fd rs (keysOf (bs p)) (keysOf [c])).2)]) ∧ Below w.heap.size w w' := by
  have hkl := keysOf_le (bs p)
  rw [bs_len] at hkl
  have HW : Hid (∀ W : World, Below w.heap.size w W → Calls Try.prog 34 #[.pointer (some ⟨a, 0, none⟩), .string (ba (keysOf (bs p))), .string (ba [c])] W fun e w' => e = .returned (.tuple #[.string (ba (fd rs (keysOf (bs p)) (keysOf [c])).1), .string (ba (fd rs (keysOf (bs p)) (keysOf [c])).2)]) ∧ Below W.heap.size W w') := Lib.hid fun W h => by
    have := write_any hok B a (ba (keysOf (bs p))) (ba [c]) W (hA.later h hB) (Nat.le_trans hB h.size) (by rw [ba_size, ba_size]; simp; omega)
    rw [bs_ba, bs_ba] at this
    exact this
  have HO := Lib.hid (fun W => only_any p W (by omega))
  obtain ⟨o, ho⟩ : ∃ o, (fd rs (keysOf (bs p)) (keysOf [c])).1 = o := ⟨_, rfl⟩
  obtain ⟨q, hq⟩ : ∃ q, (fd rs (keysOf (bs p)) (keysOf [c])).2 = q := ⟨_, rfl⟩
  rw [ho, hq] at HW ⊢
  clear ho hq hA hkl
  generalize ba (keysOf (bs p)) = KS at HW HO
  go_enter Try.func21, Try.ntmps21
  go_wp2
  have hcv1 : ∀ W : World, (convert 47 9 (.slice (some ⟨W.heap.size, 0, none⟩) 1 1)).run Try.prog (W.alloc (Obj.cells #[.int .u8 c.toNat] 5)) = .ok (.string (ba [c])) (W.alloc (Obj.cells #[.int .u8 c.toNat] 5)) := fun W => conv_lit W c (heap_alloc_new W _)
  have hcv2 : ∀ W : World, (convert 47 9 (.slice (some ⟨W.heap.size, 0, none⟩) 1 1)).run Try.prog (W.alloc (Obj.cells #[.int .u8 c.toNat] 5)).drew = .ok (.string (ba [c])) (W.alloc (Obj.cells #[.int .u8 c.toNat] 5)).drew := fun W => conv_lit W c (W' := (W.alloc (Obj.cells #[.int .u8 c.toNat] 5)).drew) (heap_alloc_new W _)
  go_region_law (first
    | (go_simp; go_at_call 36; (with_reducible refine (HO.out _).mono ?_); rintro e w1 ⟨rfl, hb1⟩; have hbw1 : Below w.heap.size w w1 := (by first | exact (Below.refl _ w).drew.trans hb1 | exact (((Below.refl _ _).alloc (Nat.le_refl _) _).drew).trans (hb1.mono (by simp))); try have hcv3 := conv_lit w c (W' := w1) (by rw [hb1.block _ (by simp)]; exact heap_alloc_new w _))
    | (go_simp; go_at_call 34; (with_reducible refine (HW.out _ (by first | exact hbw1 | exact hbw1.alloc hbw1.size _)).mono ?_); rintro e w2 ⟨rfl, hb2⟩))
  all_goals go_wp2
  all_goals go_ret2
  all_goals first
    | exact ⟨rfl, hbw1.trans (hb2.mono hbw1.size)⟩
    | exact ⟨rfl, (hbw1.alloc hbw1.size _).trans (hb2.mono (by simp; have := hbw1.size; omega))⟩

theorem step_nil (p : ByteArray) (c : Int) (w : World) (hs : p.size ≤ 140737488351232) (h0 : 0 ≤ c) (h1 : c < 256) :
    Calls Try.prog 21 #[.pointer none, .string p, .int .u8 c] w fun e w' => e = .returned (.tuple #[.string ⟨#[]⟩, .string ⟨#[]⟩]) ∧ Below w.heap.size w w' := by
  have HW := Lib.hid (fun s W => write_nil (ba (keysOf (bs p))) s W)
  have HO := Lib.hid (fun W => only_any p W hs)
  obtain ⟨c8, rfl⟩ : ∃ c8 : UInt8, c = (c8.toNat : Int) := ⟨UInt8.ofNat c.toNat, by rw [toNat_ofNat _ (by omega)]; omega⟩
  generalize ba (keysOf (bs p)) = KS at HW HO
  clear h0 h1
  go_enter Try.func21, Try.ntmps21
  go_wp2
  have hcv1 : ∀ W : World, (convert 47 9 (.slice (some ⟨W.heap.size, 0, none⟩) 1 1)).run Try.prog (W.alloc (Obj.cells #[.int .u8 c8.toNat] 5)) = .ok (.string (ba [c8])) (W.alloc (Obj.cells #[.int .u8 c8.toNat] 5)) := fun W => conv_lit W c8 (heap_alloc_new W _)
  have hcv2 : ∀ W : World, (convert 47 9 (.slice (some ⟨W.heap.size, 0, none⟩) 1 1)).run Try.prog (W.alloc (Obj.cells #[.int .u8 c8.toNat] 5)).drew = .ok (.string (ba [c8])) (W.alloc (Obj.cells #[.int .u8 c8.toNat] 5)).drew := fun W => conv_lit W c8 (W' := (W.alloc (Obj.cells #[.int .u8 c8.toNat] 5)).drew) (heap_alloc_new W _)
  go_region_law (first
    | (go_simp; go_at_call 36; (with_reducible refine (HO.out _).mono ?_); rintro e w1 ⟨rfl, hb1⟩; have hbw1 : Below w.heap.size w w1 := (by first | exact (Below.refl _ w).drew.trans hb1 | exact (((Below.refl _ _).alloc (Nat.le_refl _) _).drew).trans (hb1.mono (by simp))); try have hcv3 := conv_lit w c8 (W' := w1) (by rw [hb1.block _ (by simp)]; exact heap_alloc_new w _))
    | (go_simp; go_at_call 34; (with_reducible refine (HW.out _ _).mono ?_); rintro e w2 ⟨rfl, hw2⟩; obtain rfl := hw2.symm))
  all_goals go_wp2
  all_goals go_ret2
  all_goals first
    | exact ⟨rfl, hbw1⟩
    | exact ⟨rfl, hbw1.alloc hbw1.size _⟩

end Go.Proofs.Ytmbccolkgephgaa.Aut
