/-
  Contract of the reference's guess.
-/
import Derived.Test.YtfkdlnaakmgclaaDoorNumAE
set_option linter.unusedVariables false
set_option linter.unusedSimpArgs false
namespace Go.Proofs.YtfkdlnaakmgclaaDoor.Num
open Go Go.RowKit Go.Proofs.YtfkdlnaakmgclaaDoor.Kit Go.Proofs.YtfkdlnaakmgclaaDoor.Utf

theorem conv_mark (w : World) : (convert 29 29 (.slice (some ⟨w.heap.size, 0, none⟩) 20 20)).run Tryd.prog (w.alloc (.cells #[.int .u8 48, .int .u8 48, .int .u8 48, .int .u8 48, .int .u8 48, .int .u8 48, .int .u8 48, .int .u8 48, .int .u8 48, .int .u8 48, .int .u8 48, .int .u8 48, .int .u8 48, .int .u8 48, .int .u8 48, .int .u8 48, .int .u8 48, .int .u8 48, .int .u8 48, .int .u8 48] 5)) = .ok (.slice (some ⟨w.heap.size, 0, none⟩) 20 20) ((w.alloc (.cells #[.int .u8 48, .int .u8 48, .int .u8 48, .int .u8 48, .int .u8 48, .int .u8 48, .int .u8 48, .int .u8 48, .int .u8 48, .int .u8 48, .int .u8 48, .int .u8 48, .int .u8 48, .int .u8 48, .int .u8 48, .int .u8 48, .int .u8 48, .int .u8 48, .int .u8 48, .int .u8 48] 5)).freeze ⟨w.heap.size, 20, none⟩ 1) := by
  have hsh : (w.alloc (.cells #[.int .u8 48, .int .u8 48, .int .u8 48, .int .u8 48, .int .u8 48, .int .u8 48, .int .u8 48, .int .u8 48, .int .u8 48, .int .u8 48, .int .u8 48, .int .u8 48, .int .u8 48, .int .u8 48, .int .u8 48, .int .u8 48, .int .u8 48, .int .u8 48, .int .u8 48, .int .u8 48] 5)).shape? w.heap.size = some (5, 20) := by
    simp [World.shape?, World.alloc, -World.alloc_eq]
  obtain ⟨W, hW⟩ : ∃ W, w.alloc (.cells #[.int .u8 48, .int .u8 48, .int .u8 48, .int .u8 48, .int .u8 48, .int .u8 48, .int .u8 48, .int .u8 48, .int .u8 48, .int .u8 48, .int .u8 48, .int .u8 48, .int .u8 48, .int .u8 48, .int .u8 48, .int .u8 48, .int .u8 48, .int .u8 48, .int .u8 48, .int .u8 48] 5) = W := ⟨_, rfl⟩
  rw [hW] at hsh ⊢
  simp [convert, run_underlying Tryd.underlying29, run_underlying Tryd.underlying5, markStringish, hsh, Result.andThen]
theorem zeros_made (w : World) : Row ((w.alloc (.cells #[.int .u8 48, .int .u8 48, .int .u8 48, .int .u8 48, .int .u8 48, .int .u8 48, .int .u8 48, .int .u8 48, .int .u8 48, .int .u8 48, .int .u8 48, .int .u8 48, .int .u8 48, .int .u8 48, .int .u8 48, .int .u8 48, .int .u8 48, .int .u8 48, .int .u8 48, .int .u8 48] 5)).freeze ⟨w.heap.size, 20, none⟩ 1) w.heap.size (fun _ => 0) ∧ Below w.heap.size w ((w.alloc (.cells #[.int .u8 48, .int .u8 48, .int .u8 48, .int .u8 48, .int .u8 48, .int .u8 48, .int .u8 48, .int .u8 48, .int .u8 48, .int .u8 48, .int .u8 48, .int .u8 48, .int .u8 48, .int .u8 48, .int .u8 48, .int .u8 48, .int .u8 48, .int .u8 48, .int .u8 48, .int .u8 48] 5)).freeze ⟨w.heap.size, 20, none⟩ 1) := by
  have hH : ((w.alloc (.cells #[.int .u8 48, .int .u8 48, .int .u8 48, .int .u8 48, .int .u8 48, .int .u8 48, .int .u8 48, .int .u8 48, .int .u8 48, .int .u8 48, .int .u8 48, .int .u8 48, .int .u8 48, .int .u8 48, .int .u8 48, .int .u8 48, .int .u8 48, .int .u8 48, .int .u8 48, .int .u8 48] 5)).freeze ⟨w.heap.size, 20, none⟩ 1).heap[w.heap.size]? = some (.cells #[.int .u8 48, .int .u8 48, .int .u8 48, .int .u8 48, .int .u8 48, .int .u8 48, .int .u8 48, .int .u8 48, .int .u8 48, .int .u8 48, .int .u8 48, .int .u8 48, .int .u8 48, .int .u8 48, .int .u8 48, .int .u8 48, .int .u8 48, .int .u8 48, .int .u8 48, .int .u8 48] 5 (20, 21)) := by
    simp [World.freeze, World.alloc, -World.alloc_eq]
    rw [Array.getElem_modify_self]
    simp
  have hO : ∀ k, k < w.heap.size → ((w.alloc (.cells #[.int .u8 48, .int .u8 48, .int .u8 48, .int .u8 48, .int .u8 48, .int .u8 48, .int .u8 48, .int .u8 48, .int .u8 48, .int .u8 48, .int .u8 48, .int .u8 48, .int .u8 48, .int .u8 48, .int .u8 48, .int .u8 48, .int .u8 48, .int .u8 48, .int .u8 48, .int .u8 48] 5)).freeze ⟨w.heap.size, 20, none⟩ 1).heap[k]? = w.heap[k]? := fun k hk => by
    have h1 : w.heap.size ≠ k := by omega
    simp [World.freeze, World.alloc, -World.alloc_eq, Array.getElem?_modify, Array.getElem?_push, h1, Ne.symm h1]
  have hS : ((w.alloc (.cells #[.int .u8 48, .int .u8 48, .int .u8 48, .int .u8 48, .int .u8 48, .int .u8 48, .int .u8 48, .int .u8 48, .int .u8 48, .int .u8 48, .int .u8 48, .int .u8 48, .int .u8 48, .int .u8 48, .int .u8 48, .int .u8 48, .int .u8 48, .int .u8 48, .int .u8 48, .int .u8 48] 5)).freeze ⟨w.heap.size, 20, none⟩ 1).heap.size = w.heap.size + 1 := by
    simp [World.freeze, World.alloc, -World.alloc_eq]
  refine ⟨⟨by rw [hS]; omega, fun i hi => ?_, fun i hi => ?_⟩, ⟨rfl, rfl, rfl, by rw [hS]; omega, hO⟩⟩
  · rw [cell_of_row _ _ i _ _ _ hH]
    have : i = 0 ∨ i = 1 ∨ i = 2 ∨ i = 3 ∨ i = 4 ∨ i = 5 ∨ i = 6 ∨ i = 7 ∨ i = 8 ∨ i = 9 ∨ i = 10 ∨ i = 11 ∨ i = 12 ∨ i = 13 ∨ i = 14 ∨ i = 15 ∨ i = 16 ∨ i = 17 ∨ i = 18 ∨ i = 19 := by omega
    rcases this with rfl | rfl | rfl | rfl | rfl | rfl | rfl | rfl | rfl | rfl | rfl | rfl | rfl | rfl | rfl | rfl | rfl | rfl | rfl | rfl <;> rfl
  · unfold World.frozen?
    rw [hH]
    simp; omega

theorem len3_pu : ∀ x ∈ lPu, x.length = 0 ∨ x.length = 3 := by decide
theorem len3_fu : ∀ x ∈ lFu, x.length = 0 ∨ x.length = 3 := by decide
theorem len3_fd : ∀ x ∈ lFd, x.length = 0 ∨ x.length = 3 := by decide
theorem len3_gu : ∀ x ∈ lGu, x.length = 0 ∨ x.length = 3 := by decide

theorem back_last {t : ByteArray} (h3 : 3 ≤ t.size) {cs : List Int} (h : ∀ c ∈ cs, (enc c).length = 3) (ht : t = tx cs) (st : GS) :
    ∃ c2, (∀ c ∈ c2, (enc c).length = 3) ∧ t.extract 0 (t.size - 3) = tx c2 ∧ back st cs = back (gstep st (tri (bs (t.extract (t.size - 3) t.size)))) c2 := by
  rcases List.eq_nil_or_concat cs with e | ⟨c2, c, e⟩
  · subst e; subst ht; rw [tx_size] at h3; simp [encs] at h3
  · rw [List.concat_eq_append] at e
    subst e
    have hc3 : (enc c).length = 3 := h c (by simp)
    have hb : bs t = encs c2 ++ enc c := by rw [ht, bs_tx, encs_append]; simp [encs]
    have hz : t.size = (encs c2).length + 3 := by rw [← bs_len, hb, List.length_append, hc3]
    refine ⟨c2, fun x hx => h x (by simp [hx]), ?_, ?_⟩
    · apply ba_ext
      rw [Lib.extract_data]
      show ((bs t).drop 0).take (t.size - 3 - 0) = bs (tx c2)
      rw [bs_tx, List.drop_zero, hb, hz, Nat.add_sub_cancel, Nat.sub_zero, List.take_left]
    · have e2 : bs (t.extract (t.size - 3) t.size) = enc c := by
        rw [show bs (t.extract (t.size - 3) t.size) = ((bs t).drop (t.size - 3)).take (t.size - (t.size - 3)) from Lib.extract_data _ _ _]
        rw [hb, hz, Nat.add_sub_cancel, List.drop_left, List.take_of_length_le (by omega)]
      rw [e2, back_append]; rfl

/-- What guess returns. -/
def GPost (s : ByteArray) (w : World) (e : Ending) (w' : World) : Prop :=
  ∃ es, e = .returned (.string (dg es)) ∧ DS es ∧ (∀ cs, (∀ c ∈ cs, (enc c).length = 3) → s = tx cs → es = strip1 (big (back g0 cs).1)) ∧ Below w.heap.size w w'

/-- What is still to read of s. -/
def Still (s t : ByteArray) (st : GS) : Prop := ∀ cs, (∀ c ∈ cs, (enc c).length = 3) → s = tx cs → ∃ c2, (∀ c ∈ c2, (enc c).length = 3) ∧ t = tx c2 ∧ back g0 cs = back st c2
theorem Still.next {s t : ByteArray} {st st' : GS} (h : Still s t st) (h3 : 3 ≤ t.size) (e : gstep st (tri (bs (t.extract (t.size - 3) t.size))) = st') : Still s (t.extract 0 (t.size - 3)) st' := fun cs hc hs => by
  obtain ⟨c2, k1, k2, k3⟩ := h cs hc hs
  obtain ⟨c3, l1, l2, l3⟩ := back_last h3 k1 k2 st
  exact ⟨c3, l1, l2, by rw [k3, l3, e]⟩
theorem Still.done {s t : ByteArray} {st : GS} (h : Still s t st) (h3 : t.size < 3) : ∀ cs, (∀ c ∈ cs, (enc c).length = 3) → s = tx cs → back g0 cs = st := fun cs hc hs => by
  obtain ⟨c2, k1, k2, k3⟩ := h cs hc hs
  cases c2 with
  | nil => exact k3
  | cons c t' =>
    have := k1 c (by simp)
    rw [k2, tx_size, encs_cons, List.length_append] at h3
    omega

def litP : Array Value := #[.string { data := #[] }, .string { data := #[229, 141, 129] }, .string { data := #[231, 153, 190] }, .string { data := #[229, 141, 131] }]
theorem at_pu (w : World) : AtStrs (w.alloc (.cells #[.string { data := #[] }, .string { data := #[229, 141, 129] }, .string { data := #[231, 153, 190] }, .string { data := #[229, 141, 131] }] 9)) w.heap.size lPu :=
  (heap_last w _).trans (congrArg (fun a => some (Obj.cells a 9 (0, 0))) (by kernel_rfl))
theorem at_fu (w : World) : AtStrs (w.alloc (.cells #[.string { data := #[] }, .string { data := #[230, 139, 190] }, .string { data := #[231, 153, 190] }, .string { data := #[229, 141, 131] }] 9)) w.heap.size lFu :=
  (heap_last w _).trans (congrArg (fun a => some (Obj.cells a 9 (0, 0))) (by kernel_rfl))

theorem index_last (L : List (List UInt8)) (n : Nat) (hn : L.length = n) (hn10 : n ≤ 10) (hL3 : ∀ x ∈ L, x.length = 0 ∨ x.length = 3) (last : ByteArray) (hl : last.size = 3) (r : Int) (hr : ixC L (bs last) = r) (g : Nat) (w : World) (hat : AtStrs w g L) :
    Calls Tryd.prog 60 #[.slice (some ⟨g, 0, none⟩) n n, .string last, .int .i64 0] w fun e w' => e = .returned (.int .i64 r) ∧ Below w.heap.size w w' := by
  refine (index_any L n hn hn10 hL3 g last 0 (Int.le_refl _) (by omega) (by omega) w hat).mono ?_
  rintro e w' ⟨rfl, z, rfl⟩
  refine ⟨?_, below_drewN w z⟩
  rw [show (0 : Int).toNat = 0 from rfl, List.drop_zero, List.take_of_length_le (by rw [bs_len]; omega), hr]

set_option maxRecDepth 100000 in
set_option maxHeartbeats 4000000 in
theorem guess_any (s : ByteArray) (w : World) (hs : s.size ≤ 140737488355000) :
    Calls Tryd.prog 43 #[.string s] w (GPost s w) := by
  have hcv := conv_mark w
  have hZ := zeros_made w
  obtain ⟨W, hW⟩ : ∃ W, (w.alloc (.cells #[.int .u8 48, .int .u8 48, .int .u8 48, .int .u8 48, .int .u8 48, .int .u8 48, .int .u8 48, .int .u8 48, .int .u8 48, .int .u8 48, .int .u8 48, .int .u8 48, .int .u8 48, .int .u8 48, .int .u8 48, .int .u8 48, .int .u8 48, .int .u8 48, .int .u8 48, .int .u8 48] 5)).freeze ⟨w.heap.size, 20, none⟩ 1 = W := ⟨_, rfl⟩
  rw [hW] at hcv hZ
  have HR0 := Lib.hid hZ.1
  have HB0 := Lib.hid hZ.2
  clear hZ hW
  go_enter Tryd.func43, Tryd.ntmps43
  go_wp2
  clear hcv
  obtain ⟨A, hA⟩ : ∃ A, w.heap.size = A := ⟨_, rfl⟩
  have HA := Lib.hid hA
  rw [hA] at HR0 HB0 ⊢
  clear hA
  have hcap : 20 ≤ 20 := Nat.le_refl _
  go_loopw [0, 4, 5, 6, 7, 8, 9] (fun sv gv uv _ _ _ _ wr => ∃ (t : ByteArray) (num : Nat → Nat) (G U : Nat), sv = .string t ∧ gv = .int .i64 G ∧ uv = .int .i64 U ∧ G ≤ 16 ∧ U ≤ 3 ∧ t.size ≤ s.size ∧ Hid (∀ p, num p ≤ 9) ∧ Hid (Row wr A num) ∧ Hid (Below A w wr) ∧ Hid (Still s t (num, G, U))) (fun sv _ _ _ _ _ _ _ => match sv with | .string t => t.size | _ => 0)
  case atStart => exact ⟨s, fun _ => 0, 0, 0, rfl, rfl, rfl, by omega, by omega, Nat.le_refl _, Lib.hid (fun _ => Nat.zero_le _), HR0, HB0, Lib.hid (fun cs hc hs => ⟨cs, hc, hs, rfl⟩)⟩
  case round =>
    obtain ⟨t, num, G, U, rfl, rfl, rfl, hG, hU, hts, h9, hR, hBw, hst⟩ := hrel
    by_cases h3 : 3 ≤ t.size
    · obtain ⟨last, hla⟩ : ∃ l, t.extract (t.size - 3) t.size = l := ⟨_, rfl⟩
      obtain ⟨t2, ht2⟩ : ∃ l, t.extract 0 (t.size - 3) = l := ⟨_, rfl⟩
      have hl3 : last.size = 3 := by rw [← hla, ByteArray.size_extract]; omega
      have ht2z : t2.size = t.size - 3 := by rw [← ht2, ByteArray.size_extract]; omega
      have hs1 : ∀ w, (Instr.slice 9 (.string t) (some (.int .i64 ((t.size : Int) - 3))) none none).run Tryd.prog w = .ok (.string last) w := fun w => by
        rw [run_slice_string_from_if w 9 _ .i64 _ Tryd.underlying9, if_pos ⟨by omega, by omega⟩, ← hla, show ((t.size : Int) - 3).toNat = t.size - 3 by omega]
      have hs2 : ∀ w, (Instr.slice 9 (.string t) none (some (.int .i64 ((t.size : Int) - 3))) none).run Tryd.prog w = .ok (.string t2) w := fun w => by
        rw [run_slice_string_to_if w 9 _ .i64 _ Tryd.underlying9, if_pos ⟨by omega, by omega⟩, ← ht2, show ((t.size : Int) - 3).toNat = t.size - 3 by omega]
      have hnx := fun st' e => hst.out.next (st' := st') h3 e
      rw [hla, ht2] at hnx
      unfold tri at hnx
      obtain ⟨r1, hr1⟩ : ∃ r, ixC lGu (bs last) = r := ⟨_, rfl⟩
      obtain ⟨r2, hr2⟩ : ∃ r, ixC lPu (bs last) = r := ⟨_, rfl⟩
      obtain ⟨r3, hr3⟩ : ∃ r, ixC lFu (bs last) = r := ⟨_, rfl⟩
      obtain ⟨r4, hr4⟩ : ∃ r, ixC lPd (bs last) = r := ⟨_, rfl⟩
      obtain ⟨r5, hr5⟩ : ∃ r, ixC lFd (bs last) = r := ⟨_, rfl⟩
      have b1 := ixC_le lGu (bs last)
      have b2 := ixC_le lPu (bs last)
      have b3 := ixC_le lFu (bs last)
      have b4 := ixC_le lPd (bs last)
      have b5 := ixC_le lFd (bs last)
      rw [hr1, show ((lGu.length : Nat) : Int) = 5 from rfl] at b1
      rw [hr2, show ((lPu.length : Nat) : Int) = 4 from rfl] at b2
      rw [hr3, show ((lFu.length : Nat) : Int) = 4 from rfl] at b3
      rw [hr4, show ((lPd.length : Nat) : Int) = 10 from rfl] at b4
      rw [hr5, show ((lFd.length : Nat) : Int) = 10 from rfl] at b5
      rw [hr1, hr2, hr3, hr4, hr5] at hnx
      have I1 := Lib.hid (index_last lGu 5 rfl (by omega) len3_gu last hl3 r1 hr1)
      have I2 := Lib.hid (index_last lPu 4 rfl (by omega) len3_pu last hl3 r2 hr2)
      have I3 := Lib.hid (index_last lFu 4 rfl (by omega) len3_fu last hl3 r3 hr3)
      have I4 := Lib.hid (index_last lPd 10 rfl (by omega) len3_pd last hl3 r4 hr4)
      have I5 := Lib.hid (index_last lFd 10 rfl (by omega) len3_fd last hl3 r5 hr5)
      obtain ⟨m2, hm2⟩ : ∃ m, max r2 r3 = m := ⟨_, rfl⟩
      obtain ⟨m3, hm3⟩ : ∃ m, max r4 r5 = m := ⟨_, rfl⟩
      rw [hm2, hm3] at hnx
      have c1 : -1 ≤ r1 ∧ r1 < 5 := by omega
      have c2 : -1 ≤ m2 ∧ m2 < 4 := by omega
      have c3 : -1 ≤ m3 ∧ m3 < 10 := by omega
      have HNX := Lib.hid hnx
      have hB := Below.refl wr.heap.size wr
      have h3i : (3 : Int) ≤ (t.size : Int) := by omega
      have hAlt : A < wr.heap.size := hR.out.1
      clear hnx hla ht2 hr1 hr2 hr3 hr4 hr5 hst b1 b2 b3 b4 b5
      have hAw : A ≤ wr.heap.size := Nat.le_of_lt hAlt
      by_cases k1 : 0 < r1
      · obtain ⟨gN, rfl⟩ : ∃ g : Nat, r1 = (g : Int) := ⟨r1.toNat, by omega⟩
        have HQ := Lib.hid (HNX.out (num, 4 * gN, 0) (by unfold gstep; rw [if_pos k1, Int.toNat_natCast]))
        have hg4 : gN ≤ 4 := by omega
        clear HNX
        go_wp2_with (first
          | (go_at_call 50; refine (units_any _).mono ?_; rintro e w2 ⟨rfl, hat, hb⟩; have hB := hB.trans (hb.mono hB.size); clear hb)
          | (go_at_call 33; refine (plain_any _).mono ?_; rintro e w2 ⟨rfl, hat, hb⟩; have hB := hB.trans (hb.mono hB.size); clear hb)
          | (go_at_call 37; refine (rformal_any _).mono ?_; rintro e w2 ⟨rfl, hat, hb⟩; have hB := hB.trans (hb.mono hB.size); clear hb)
          | (go_at_call 60; (first | with_reducible refine (I1.out _ _ hat).mono ?_ | with_reducible refine (I4.out _ _ hat).mono ?_ | with_reducible refine (I5.out _ _ hat).mono ?_); rintro e w2 ⟨rfl, hb⟩; have hB := hB.trans (hb.mono hB.size); clear hb hat)
          | (go_at_call 60; (first | with_reducible refine (I2.out _ _ (at_pu _)).mono ?_ | with_reducible refine (I3.out _ _ (at_fu _)).mono ?_); rintro e w2 ⟨rfl, hb⟩; have hB := (hB.alloc hB.size _).trans (hb.mono (hB.alloc hB.size _).size); clear hb))
        go_roundw
        case rel => exact ⟨t2, num, 4 * gN, 0, rfl, by go_num, rfl, by omega, by omega, by omega, h9, Lib.hid (hR.out.next hB hAlt), Lib.hid (hBw.out.trans (hB.mono hAw)), HQ⟩
        case measure => show t2.size < t.size; omega
      · by_cases k2 : 0 < m2
        · obtain ⟨uN, hu⟩ : ∃ g : Nat, m2 = (g : Int) := ⟨m2.toNat, by omega⟩
          subst hu
          have HQ := Lib.hid (HNX.out ((fun p => if p = G + uN ∧ num p = 0 then 1 else num p), G, uN) (by unfold gstep; rw [if_neg k1, if_pos k2, Int.toNat_natCast]))
          have H92 := Lib.hid (show ∀ p, (if p = G + uN ∧ num p = 0 then 1 else num p) ≤ 9 from fun p => by
            have := h9.out p
            split <;> omega)
          have hu3 : uN ≤ 3 := by omega
          have HPUT := Lib.hid (fun w hRw => put_any A 20 A (G + uN) num w hRw (Nat.le_refl _) (by omega) (h9.out _))
          rw [show ((G + uN : Nat) : Int) = (G : Int) + (uN : Int) by omega] at HPUT
          clear HNX
          go_wp2_with (first
            | (go_at_call 50; refine (units_any _).mono ?_; rintro e w2 ⟨rfl, hat, hb⟩; have hB := hB.trans (hb.mono hB.size); clear hb)
            | (go_at_call 33; refine (plain_any _).mono ?_; rintro e w2 ⟨rfl, hat, hb⟩; have hB := hB.trans (hb.mono hB.size); clear hb)
            | (go_at_call 37; refine (rformal_any _).mono ?_; rintro e w2 ⟨rfl, hat, hb⟩; have hB := hB.trans (hb.mono hB.size); clear hb)
            | (go_at_call 60; (first | with_reducible refine (I1.out _ _ hat).mono ?_ | with_reducible refine (I4.out _ _ hat).mono ?_ | with_reducible refine (I5.out _ _ hat).mono ?_); rintro e w2 ⟨rfl, hb⟩; have hB := hB.trans (hb.mono hB.size); clear hb hat)
            | (go_at_call 60; (first | with_reducible refine (I2.out _ _ (at_pu _)).mono ?_ | with_reducible refine (I3.out _ _ (at_fu _)).mono ?_); rintro e w2 ⟨rfl, hb⟩; have hB := (hB.alloc hB.size _).trans (hb.mono (hB.alloc hB.size _).size); clear hb)
            | (go_at_call 61; refine (HPUT.out _ (hR.out.next hB hAlt)).mono ?_; rintro e w4 ⟨⟨b, rfl⟩, hR4, hb4⟩))
          go_roundw
          case rel => exact ⟨t2, (fun p => if p = G + uN ∧ num p = 0 then 1 else num p), G, uN, rfl, rfl, rfl, by omega, by omega, by omega, H92, Lib.hid hR4, Lib.hid ((hBw.out.trans (hB.mono hAw)).trans hb4), HQ⟩
          case measure => show t2.size < t.size; omega
        · by_cases k3 : 0 < m3
          · obtain ⟨dN, hd⟩ : ∃ g : Nat, m3 = (g : Int) := ⟨m3.toNat, by omega⟩
            subst hd
            have HQ := Lib.hid (HNX.out ((fun p => if p = G + U then dN else num p), G, U) (by unfold gstep; rw [if_neg k1, if_neg k2, if_pos k3, Int.toNat_natCast]))
            have hd9 : dN ≤ 9 := by omega
            have H92 := Lib.hid (show ∀ p, (if p = G + U then dN else num p) ≤ 9 from fun p => by
              have := h9.out p
              split <;> omega)
            obtain ⟨q, hq⟩ : ∃ q, (G + U) + q = 19 := ⟨19 - (G + U), by omega⟩
            have q0 : (0 : Int) ≤ (q : Int) := by omega
            have q1 : (q : Int) < 20 := by omega
            have i1 : (20 : Int) - 1 - (G : Int) - (U : Int) = (q : Int) := by omega
            have i2 : (19 : Int) - (G : Int) - (U : Int) = (q : Int) := by omega
            have gu20 : (G : Int) + (U : Int) < 20 := by omega
            have hw1 : IntKind.u8.wrap (48 + (dN : Int)) = 48 + (dN : Int) := IntWalk.u8_in _ ⟨by omega, by omega⟩
            have hq20 : q < 20 := by omega
            have HSET := Lib.hid (fun (w : World) (h : Row w A num) => h.set hq dN (.int .u8 (48 + (dN : Int))) (by congr 1))
            clear HNX hq
            go_wp2_with (first
              | (go_at_call 50; refine (units_any _).mono ?_; rintro e w2 ⟨rfl, hat, hb⟩; have hB := hB.trans (hb.mono hB.size); clear hb)
              | (go_at_call 33; refine (plain_any _).mono ?_; rintro e w2 ⟨rfl, hat, hb⟩; have hB := hB.trans (hb.mono hB.size); clear hb)
              | (go_at_call 37; refine (rformal_any _).mono ?_; rintro e w2 ⟨rfl, hat, hb⟩; have hB := hB.trans (hb.mono hB.size); clear hb)
              | (go_at_call 60; (first | with_reducible refine (I1.out _ _ hat).mono ?_ | with_reducible refine (I4.out _ _ hat).mono ?_ | with_reducible refine (I5.out _ _ hat).mono ?_); rintro e w2 ⟨rfl, hb⟩; have hB := hB.trans (hb.mono hB.size); clear hb hat; have hR3 := hR.out.next hB hAlt; have hc3 := hR3.2.1 q hq20; have hf3 := hR3.2.2 q hq20; clear hR3)
              | (go_at_call 60; (first | with_reducible refine (I2.out _ _ (at_pu _)).mono ?_ | with_reducible refine (I3.out _ _ (at_fu _)).mono ?_); rintro e w2 ⟨rfl, hb⟩; have hB := (hB.alloc hB.size _).trans (hb.mono (hB.alloc hB.size _).size); clear hb))
            go_roundw
            case rel => exact ⟨t2, (fun p => if p = G + U then dN else num p), G, U, rfl, rfl, rfl, by omega, by omega, by omega, H92, Lib.hid (HSET.out _ (hR.out.next hB hAlt)), Lib.hid ((hBw.out.trans (hB.mono hAw)).setCell (p := ⟨A, q, none⟩) (Nat.le_refl _) _), HQ⟩
            case measure => show t2.size < t.size; omega
          · have HQ := Lib.hid (HNX.out (num, G, U) (by unfold gstep; rw [if_neg k1, if_neg k2, if_neg k3]))
            clear HNX
            go_wp2_with (first
              | (go_at_call 50; refine (units_any _).mono ?_; rintro e w2 ⟨rfl, hat, hb⟩; have hB := hB.trans (hb.mono hB.size); clear hb)
              | (go_at_call 33; refine (plain_any _).mono ?_; rintro e w2 ⟨rfl, hat, hb⟩; have hB := hB.trans (hb.mono hB.size); clear hb)
              | (go_at_call 37; refine (rformal_any _).mono ?_; rintro e w2 ⟨rfl, hat, hb⟩; have hB := hB.trans (hb.mono hB.size); clear hb)
              | (go_at_call 60; (first | with_reducible refine (I1.out _ _ hat).mono ?_ | with_reducible refine (I4.out _ _ hat).mono ?_ | with_reducible refine (I5.out _ _ hat).mono ?_); rintro e w2 ⟨rfl, hb⟩; have hB := hB.trans (hb.mono hB.size); clear hb hat)
              | (go_at_call 60; (first | with_reducible refine (I2.out _ _ (at_pu _)).mono ?_ | with_reducible refine (I3.out _ _ (at_fu _)).mono ?_); rintro e w2 ⟨rfl, hb⟩; have hB := (hB.alloc hB.size _).trans (hb.mono (hB.alloc hB.size _).size); clear hb))
            go_roundw
            case rel => exact ⟨t2, num, G, U, rfl, rfl, rfl, by omega, by omega, by omega, h9, Lib.hid (hR.out.next hB hAlt), Lib.hid (hBw.out.trans (hB.mono hAw)), HQ⟩
            case measure => show t2.size < t.size; omega
    · have hend := hst.out.done (by omega)
      have HE := Lib.hid (show ∀ cs, (∀ c ∈ cs, (enc c).length = 3) → s = tx cs → strip1 (big num) = strip1 (big (back g0 cs).1) from fun cs hc hs => by rw [hend cs hc hs])
      have HD := Lib.hid (strip1_DS (l := big num) (by rw [big_len]; omega) (by rw [big_len]; omega) (fun d hd => by
        unfold big at hd
        obtain ⟨i, _, rfl⟩ := List.mem_map.1 hd
        exact h9.out _))
      have HT := Lib.hid (text_any A 20 num h9.out wr hR.out (by omega) (by omega))
      have ht3 : ¬ ((3 : Int) ≤ (t.size : Int)) := by omega
      clear hend hst h9 h3
      go_wp2_with (go_at_call 62; refine HT.out.mono ?_; rintro e w3 ⟨rfl, z, rfl⟩)
      go_ret
      exact ⟨_, rfl, HD.out, HE.out, by rw [HA.out]; exact hBw.out.trans ((below_drewN wr z).mono (Nat.le_of_lt hR.out.1))⟩

end Go.Proofs.YtfkdlnaakmgclaaDoor.Num
