/-
  Contract of numeral.writeEach: whatever the function that writes the parts, if it writes what a function of a kept Bool, the digit and its place says.
-/
import Derived.Test.YteelmjmiankflaaDoorNumA
set_option linter.unusedVariables false
set_option linter.unusedSimpArgs false
namespace Go.Proofs.YteelmjmiankflaaDoor.Num
open Go Go.RowKit Go.Proofs.YteelmjmiankflaaDoor.Kit Go.Proofs.YteelmjmiankflaaDoor.Utf

/-- What a part's function does: it writes out's string, and keeps all blocks but those from B to n0. -/
def Parts (F : FuncId) (caps : Array Value) (out : Bool → Nat → Nat → List Int) (next : Bool → Nat → Nat → Bool) (B n0 : Nat) (Inv : Bool → World → Prop) : Prop :=
  ∀ (b : Bool) (d a : Nat) (x y : Int) (W : World), x = d → y = a → d ≤ 9 → a ≤ 19 → n0 ≤ W.heap.size → Laid W → Inv b W →
    Calls Tryd.prog F (#[.int .i64 x, .int .i64 y] ++ caps) W fun e W' => e = .returned (.string (tx (out b d a))) ∧ Inv (next b d a) W' ∧ Below B W W' ∧ ∀ k, n0 ≤ k → k < W.heap.size → W'.heap[k]? = W.heap[k]?

/-- A function that keeps all. -/
theorem Parts.plain {F : FuncId} {out : Bool → Nat → Nat → List Int} (h : ∀ (d a : Nat) (x y : Int) (W : World), x = d → y = a → d ≤ 9 → a ≤ 19 → Laid W → Calls Tryd.prog F #[.int .i64 x, .int .i64 y] W fun e W' => e = .returned (.string (tx (out false d a))) ∧ Below W.heap.size W W') (n0 : Nat) :
    Parts F #[] out (fun b _ _ => b) n0 n0 (fun b _ => b = false) := by
  intro b d a x y W hx hy hd ha hn hL hb
  subst hb
  refine (h d a x y W hx hy hd ha hL).mono ?_
  rintro e W' ⟨he, hb⟩
  exact ⟨he, rfl, hb.mono hn, fun k _ hk => hb.block k hk⟩

theorem writeEach_bad (s : ByteArray) (fv : Value) (w : World) (hs : s.size ≤ maxLen) (h : isDec s = false) :
    Calls Tryd.prog 58 #[.string s, fv] w fun e w' => e = .returned (.tuple #[.string { data := #[] }, .bool false]) ∧ Below w.heap.size w w' := by
  have hc := decimal_any s w hs
  rw [h] at hc
  have H := Lib.hid hc; clear hc h
  go_enter Tryd.func58, Tryd.ntmps58
  go_wp2_with (go_at_call 65; refine H.out.mono ?_; rintro e w1 ⟨rfl, hb⟩)
  go_ret2
  exact ⟨rfl, hb⟩

theorem dg_byte (ds : List Nat) (k : Nat) (h : k < ds.length) (h9 : ∀ d ∈ ds, d ≤ 9) (hp : k < (dg ds).size) : ((dg ds)[k]'hp).toNat = 48 + ds[k] := by
  have e1 := bs_get hp
  rw [bs_dg, List.getElem?_map, List.getElem?_eq_getElem h] at e1
  simp only [Option.map_some, Option.some.injEq] at e1
  rw [← e1, toNat_ofNat _ (by have := h9 ds[k] (List.getElem_mem h); omega)]

theorem writeEach_good (ds : List Nat) (s : ByteArray) (F : FuncId) (caps : Array Value) (out : Bool → Nat → Nat → List Int) (next : Bool → Nat → Nat → Bool) (B : Nat) (Inv : Bool → World → Prop) (w : World)
    (hd : DS ds) (hsd : s = dg ds) (eF : ∀ args w, (callFunc F args).run Tryd.prog w = .ok (.enter F args) w) (hB : B ≤ w.heap.size) (h5 : 5 + 1 ≤ B) (hL : Laid w) (hI : Inv false w)
    (hst : ∀ b W W', Inv b W → Below w.heap.size W W' → w.heap.size ≤ W.heap.size → Inv b W') (hP : Parts F caps out next B w.heap.size Inv) (hlen : ∀ b d a, d ≤ 9 → a ≤ 19 → (encs (out b d a)).length ≤ 100) :
    Calls Tryd.prog 58 #[.string s, .func (.func F) #[] caps] w fun e w' => e = .returned (.tuple #[.string (tx (eachS out next false ds)), .bool true]) ∧ Below B w w' := by
  have hsz : s.size = ds.length := by rw [hsd, dg_size]
  have hn20 := hd.2.1
  have hc := decimal_any s w (by unfold maxLen; omega)
  rw [show isDec s = true by rw [hsd]; exact isDec_dg hd] at hc
  have H := Lib.hid hc; clear hc
  have HD := Lib.hid hd; clear hd
  have HI := Lib.hid hI; clear hI
  have HST := Lib.hid hst; clear hst
  have HP := Lib.hid hP; clear hP
  have HLEN := Lib.hid hlen; clear hlen
  have HSD := Lib.hid hsd; clear hsd
  obtain ⟨n, hn⟩ : ∃ n, ds.length = n := ⟨_, rfl⟩
  rw [hn] at hsz hn20
  have HN := Lib.hid hn; clear hn
  have HSZ := Lib.hid hsz; clear hsz
  go_enter Tryd.func58, Tryd.ntmps58
  go_wp2_with (go_at_call 65; refine H.out.mono ?_; rintro e w1 ⟨rfl, hb1⟩)
  obtain ⟨b, hbd⟩ : ∃ b, w1.heap.size = b := ⟨_, rfl⟩
  have hwb : w.heap.size ≤ b := by rw [← hbd]; exact hb1.size
  have hb0 : Below w.heap.size w ((w1.alloc (.cells #[.pointer none, .slice none 0 0] 59)).iter s 0) := (hb1.alloc hb1.size _).alloc (by have := hb1.size; simp; omega) _
  have hB0 : Lib.IsBuilderF 59 5 b b (Lib.byteCells (encs [])) ((w1.alloc (.cells #[.pointer none, .slice none 0 0] 59)).iter s 0) := (builder_new 59 5 w1 b hbd.symm).alloc _
  have hit0 : ((w1.alloc (.cells #[.pointer none, .slice none 0 0] 59)).iter s 0).heap[b + 1]? = some (.stringIter s 0) := by
    have := World.iter_heap (w1.alloc (.cells #[.pointer none, .slice none 0 0] 59)) s 0
    rw [show (w1.alloc (.cells #[.pointer none, .slice none 0 0] 59)).heap.size = b + 1 by simp [hbd]] at this
    exact this
  have hs0 : b + 2 ≤ ((w1.alloc (.cells #[.pointer none, .slice none 0 0] 59)).iter s 0).heap.size := by simp [World.iter, hbd]
  rw [hbd]
  obtain ⟨W, hW⟩ : ∃ W, (w1.alloc (.cells #[.pointer none, .slice none 0 0] 59)).iter s 0 = W := ⟨_, rfl⟩
  rw [hW] at hb0 hB0 hit0 hs0 ⊢
  have hI0 := Lib.hid (HST.out false w W HI.out hb0 (Nat.le_refl _))
  have hb0' := hb0.mono hB
  clear hW hbd hb0 hb1 HI H
  go_loopw [7, 8] (fun _ _ wr => ∃ (k : Nat) (st : Bool) (acc : List Int), k ≤ n ∧ Lib.IsBuilderF 59 5 b b (Lib.byteCells (encs acc)) wr ∧ wr.heap[b + 1]? = some (.stringIter s k) ∧ Below B w wr ∧ Hid (Inv st wr) ∧ Hid (acc ++ eachS out next st (ds.drop k) = eachS out next false ds) ∧ (encs acc).length ≤ 100 * k ∧ b + 2 ≤ wr.heap.size) (fun _ _ wr => n - wr.iterPos (b + 1))
  case atStart => exact ⟨0, false, [], Nat.zero_le _, hB0, hit0, hb0', hI0, Lib.hid (by rw [List.drop_zero, List.nil_append]), by simp [encs], hs0⟩
  case round =>
    obtain ⟨k, st, acc, hk, hBl, hit, hb, hInv, heq, hacc, hsw⟩ := hrel
    have hm := iterPos_of hit
    by_cases hkn : k < n
    · have hp : k < s.size := by rw [HSZ.out]; exact hkn
      have hkd : k < ds.length := by rw [HN.out]; exact hkn
      have hby : (s[k]'hp).toNat = 48 + ds[k] := by
        have := HSD.out
        subst this
        exact dg_byte ds k hkd HD.out.2.2.1 hp
      have hd9 : ds[k] ≤ 9 := HD.out.2.2.1 _ (List.getElem_mem hkd)
      have hcons : ds.drop k = ds[k] :: ds.drop (k + 1) := List.drop_eq_getElem_cons hkd
      have hdl : (ds.drop (k + 1)).length = n - 1 - k := by rw [List.length_drop, HN.out]; omega
      obtain ⟨d, hdd⟩ : ∃ d, ds[k] = d := ⟨_, rfl⟩
      rw [hdd] at hby hd9 hcons
      have heq2 : (acc ++ out st d (n - 1 - k)) ++ eachS out next (next st d (n - 1 - k)) (ds.drop (k + 1)) = eachS out next false ds := by
        rw [← heq.out, hcons]
        show _ = acc ++ (out st d (ds.drop (k + 1)).length ++ eachS out next (next st d (ds.drop (k + 1)).length) (ds.drop (k + 1)))
        rw [hdl, List.append_assoc]
      have hnx : ∀ ty, (Instr.next (.pointer (some ⟨b + 1, 0, none⟩)) true ty).run Tryd.prog wr = _ := fun ty => Lib.run_next_ascii_at (P := Tryd.prog) wr (b + 1) s k ty hit hp (by omega)
      obtain ⟨c, hc⟩ : ∃ c : Int, ((s[k]'hp).toNat : Int) = c := ⟨_, rfl⟩
      have hc0 : c = 48 + (d : Int) := by rw [← hc, hby]; simp
      have hc1 : 48 ≤ c := by omega
      have hc2 : c ≤ 57 := by omega
      have hit4 := Lib.iterAt_heap wr (b + 1) s k (k + 1) hit
      have hb4 := Lib.below_iterAt hb (k := b + 1) (by omega) s (k + 1)
      have hb4' := Lib.below_iterAt (Below.refl w.heap.size wr) (k := b + 1) (by omega) s (k + 1)
      have hBl4 := hBl.iterAt hit (k + 1)
      have hsw4 : b + 2 ≤ (wr.iterAt (b + 1) s (k + 1)).heap.size := by rw [Lib.iterAt_size]; exact hsw
      have hI4 := Lib.hid (HST.out st wr _ hInv.out hb4' (by omega))
      obtain ⟨W4, hW4⟩ : ∃ W4, wr.iterAt (b + 1) s (k + 1) = W4 := ⟨_, rfl⟩
      rw [hW4] at hit4 hb4 hBl4 hsw4 hI4
      simp only [hW4, hc] at hnx
      have hy : ((n : Int) - 1 - (k : Int)) = ((n - 1 - k : Nat) : Int) := by omega
      have hCall := HP.out st d (n - 1 - k) (c - 48) ((s.size : Int) - 1 - (k : Int)) W4 (by omega) (by rw [HSZ.out]; exact hy) hd9 (by omega) (by omega) (hL.below hb4 h5) hI4.out
      have hol := HLEN.out st d (n - 1 - k) hd9 (by omega)
      obtain ⟨o, ho⟩ : ∃ o, out st d (n - 1 - k) = o := ⟨_, rfl⟩
      obtain ⟨st', hst'⟩ : ∃ st', next st d (n - 1 - k) = st' := ⟨_, rfl⟩
      rw [ho, hst'] at hCall heq2
      rw [ho] at hol
      have HC := Lib.hid hCall
      have HQ := Lib.hid heq2
      have hs20 : s.size ≤ 20 := by rw [HSZ.out]; exact hn20
      clear hW4 hc hy hCall heq2 heq hit hb hBl hInv hb4' hst' ho hdl hcons hdd hby hc0 hI4 hkd
      go_wp2_with (first
        | (go_at_call 33; refine (Tryd.writeString b b (Lib.byteCells (encs acc)) (tx o) _ hBl5 (by rw [Lib.byteCells_length, tx_size]; omega) (by omega)).mono ?_; rintro e w6 ⟨rfl, hA6, hb6, ho6⟩)
        | (refine HC.out.mono ?_
           rintro e w5 ⟨rfl, hI5, hb5, hk5⟩
           have hBl5 := builder_kept hBl4 (fun j h1 h2 => hk5 j (by omega) h2)
           have hit5 : w5.heap[b + 1]? = some (.stringIter s (k + 1)) := by rw [hk5 (b + 1) (by omega) (by omega)]; exact hit4
           have hsz5 : b + 2 ≤ w5.heap.size := by have := hb5.size; omega
           have HI5 := Lib.hid hI5
           have hb5' := hb4.trans hb5
           clear hI5 hk5 hBl4 hit4 hb4 hb5))
      have hit6 := ho6.iter hit5 (by omega)
      have hI6 := Lib.hid (HST.out st' w5 w6 HI5.out (hb6.mono hwb) (by omega))
      have hBl6 : Lib.IsBuilderF 59 5 b b (Lib.byteCells (encs (acc ++ o))) w6 := by
        rw [encs_append, byteCells_append, ← tx_cells]; exact .inr hA6
      have hsz6 : b + 2 ≤ w6.heap.size := by have := hb6.size; omega
      have hb7 := hb5'.trans (hb6.mono (by omega))
      go_roundw
      case rel => exact ⟨k + 1, st', acc ++ o, by omega, hBl6, hit6, hb7, hI6, HQ, by rw [encs_append, List.length_append]; omega, hsz6⟩
      case measure => rw [iterPos_of hit6, hm]; omega
    · have hkn' : k = n := by omega
      subst hkn'
      have hp : ¬ k < s.size := by rw [HSZ.out]; omega
      have hnx : ∀ ty, (Instr.next (.pointer (some ⟨b + 1, 0, none⟩)) true ty).run Tryd.prog wr = _ := fun ty => Lib.run_next_end_at (P := Tryd.prog) wr (b + 1) s k ty hit hp
      have hall : acc = eachS out next false ds := by
        rw [← heq.out, List.drop_of_length_le (by rw [HN.out]; omega)]
        show acc = acc ++ []
        rw [List.append_nil]
      have HA := Lib.hid hall
      clear hall hm hp hkn
      go_wp2_with (go_at_call 34; refine (Tryd.Builder_String_any_k b b (encs acc) _ hBl (by omega)).mono ?_; rintro e w8 ⟨rfl, _, hb8, _⟩)
      go_ret2
      exact ⟨by rw [← HA.out]; rfl, hb.trans (hb8.mono (by omega))⟩

end Go.Proofs.YteelmjmiankflaaDoor.Num
