/-
  Joined texts: NumB, NumC, NumD, NumE, NumPS, CalP, CalQ, CalR.
-/
import Derived.Test.YteelmjmiankflaaGreatDoorM4
import Derived.Test.YteelmjmiankflaaGreatDoorM3
import Derived.Lib.AppendIntMem
import Derived.Lib.SmallJoins
import Derived.Deep.RegionWith
import Derived.Deep.MidRow
set_option linter.unusedVariables false
set_option linter.unusedSimpArgs false
namespace Go.Proofs.YteelmjmiankflaaGreatDoor.Num
open Go Go.RowKit Go.Proofs.YteelmjmiankflaaGreatDoor.Kit Go.Proofs.YteelmjmiankflaaGreatDoor.Utf

/-- What a part's function does: it writes out's string, and keeps all blocks but those from B to n0. -/
def Parts (F : FuncId) (caps : Array Value) (out : Bool → Nat → Nat → List Int) (next : Bool → Nat → Nat → Bool) (B n0 : Nat) (Inv : Bool → World → Prop) : Prop :=
  ∀ (b : Bool) (d a : Nat) (x y : Int) (W : World), x = d → y = a → d ≤ 9 → a ≤ 19 → n0 ≤ W.heap.size → Laid W → Inv b W →
    Calls Tryz.prog F (#[.int .i64 x, .int .i64 y] ++ caps) W fun e W' => e = .returned (.string (tx (out b d a))) ∧ Inv (next b d a) W' ∧ Below B W W' ∧ ∀ k, n0 ≤ k → k < W.heap.size → W'.heap[k]? = W.heap[k]?

/-- A function that keeps all. -/
theorem Parts.plain {F : FuncId} {out : Bool → Nat → Nat → List Int} (h : ∀ (d a : Nat) (x y : Int) (W : World), x = d → y = a → d ≤ 9 → a ≤ 19 → Laid W → Calls Tryz.prog F #[.int .i64 x, .int .i64 y] W fun e W' => e = .returned (.string (tx (out false d a))) ∧ Below W.heap.size W W') (n0 : Nat) :
    Parts F #[] out (fun b _ _ => b) n0 n0 (fun b _ => b = false) := by
  intro b d a x y W hx hy hd ha hn hL hb
  subst hb
  refine (h d a x y W hx hy hd ha hL).mono ?_
  rintro e W' ⟨he, hb⟩
  exact ⟨he, rfl, hb.mono hn, fun k _ hk => hb.block k hk⟩

theorem writeEach_bad (s : ByteArray) (fv : Value) (w : World) (hs : s.size ≤ maxLen) (h : isDec s = false) :
    Calls Tryz.prog 93 #[.string s, fv] w fun e w' => e = .returned (.tuple #[.string { data := #[] }, .bool false]) ∧ Below w.heap.size w w' := by
  have hc := decimal_any s w hs
  rw [h] at hc
  have H := Lib.hid hc; clear hc h
  go_enter Tryz.func93, Tryz.ntmps93
  go_wp2_with (go_at_call 120; refine H.out.mono ?_; rintro e w1 ⟨rfl, hb⟩)
  go_ret2
  exact ⟨rfl, hb⟩

theorem dg_byte (ds : List Nat) (k : Nat) (h : k < ds.length) (h9 : ∀ d ∈ ds, d ≤ 9) (hp : k < (dg ds).size) : ((dg ds)[k]'hp).toNat = 48 + ds[k] := by
  have e1 := bs_get hp
  rw [bs_dg, List.getElem?_map, List.getElem?_eq_getElem h] at e1
  simp only [Option.map_some, Option.some.injEq] at e1
  rw [← e1, toNat_ofNat _ (by have := h9 ds[k] (List.getElem_mem h); omega)]

theorem writeEach_good (ds : List Nat) (s : ByteArray) (F : FuncId) (caps : Array Value) (out : Bool → Nat → Nat → List Int) (next : Bool → Nat → Nat → Bool) (B : Nat) (Inv : Bool → World → Prop) (w : World)
    (hd : DS ds) (hsd : s = dg ds) (eF : ∀ args w, (callFunc F args).run Tryz.prog w = .ok (.enter F args) w) (hB : B ≤ w.heap.size) (h5 : 8 + 1 ≤ B) (hL : Laid w) (hI : Inv false w)
    (hst : ∀ b W W', Inv b W → Below w.heap.size W W' → w.heap.size ≤ W.heap.size → Inv b W') (hP : Parts F caps out next B w.heap.size Inv) (hlen : ∀ b d a, d ≤ 9 → a ≤ 19 → (encs (out b d a)).length ≤ 100) :
    Calls Tryz.prog 93 #[.string s, .func (.func F) #[] caps] w fun e w' => e = .returned (.tuple #[.string (tx (eachS out next false ds)), .bool true]) ∧ Below B w w' := by
  have hsz : s.size = ds.length := by rw [hsd, dg_size]
  have hn20 := hd.2.1
  have hc := decimal_any s w (by unfold maxLen; omega)
  rw [show isDec s = true by rw [hsd]; exact isDec_dg hd] at hc
  have H := Lib.hid hc; clear hc
  have HD := Lib.hid hd; clear hd
  have HI := Lib.hid hI; clear hI
  have HST := Lib.hid hst; clear hst
  have HP := Lib.hid hP; clear hP
  have HLEN := Lib.hid hlen; clear hlen
  have HSD := Lib.hid hsd; clear hsd
  obtain ⟨n, hn⟩ : ∃ n, ds.length = n := ⟨_, rfl⟩
  rw [hn] at hsz hn20
  have HN := Lib.hid hn; clear hn
  have HSZ := Lib.hid hsz; clear hsz
  go_enter Tryz.func93, Tryz.ntmps93
  go_wp2_with (go_at_call 120; refine H.out.mono ?_; rintro e w1 ⟨rfl, hb1⟩)
  obtain ⟨b, hbd⟩ : ∃ b, w1.heap.size = b := ⟨_, rfl⟩
  have hwb : w.heap.size ≤ b := by rw [← hbd]; exact hb1.size
  have hb0 : Below w.heap.size w ((w1.alloc (.cells #[.pointer none, .slice none 0 0] 68)).iter s 0) := (hb1.alloc hb1.size _).alloc (by have := hb1.size; simp; omega) _
  have hB0 : Lib.IsBuilderF 68 5 b b (Lib.byteCells (encs [])) ((w1.alloc (.cells #[.pointer none, .slice none 0 0] 68)).iter s 0) := (builder_new 68 5 w1 b hbd.symm).alloc _
  have hit0 : ((w1.alloc (.cells #[.pointer none, .slice none 0 0] 68)).iter s 0).heap[b + 1]? = some (.stringIter s 0) := by
    have := World.iter_heap (w1.alloc (.cells #[.pointer none, .slice none 0 0] 68)) s 0
    rw [show (w1.alloc (.cells #[.pointer none, .slice none 0 0] 68)).heap.size = b + 1 by simp [hbd]] at this
    exact this
  have hs0 : b + 2 ≤ ((w1.alloc (.cells #[.pointer none, .slice none 0 0] 68)).iter s 0).heap.size := by simp [World.iter, hbd]
  rw [hbd]
  obtain ⟨W, hW⟩ : ∃ W, (w1.alloc (.cells #[.pointer none, .slice none 0 0] 68)).iter s 0 = W := ⟨_, rfl⟩
  rw [hW] at hb0 hB0 hit0 hs0 ⊢
  have hI0 := Lib.hid (HST.out false w W HI.out hb0 (Nat.le_refl _))
  have hb0' := hb0.mono hB
  clear hW hbd hb0 hb1 HI H
  go_loopw [7, 8] (fun _ _ wr => ∃ (k : Nat) (st : Bool) (acc : List Int), k ≤ n ∧ Lib.IsBuilderF 68 5 b b (Lib.byteCells (encs acc)) wr ∧ wr.heap[b + 1]? = some (.stringIter s k) ∧ Below B w wr ∧ Hid (Inv st wr) ∧ Hid (acc ++ eachS out next st (ds.drop k) = eachS out next false ds) ∧ (encs acc).length ≤ 100 * k ∧ b + 2 ≤ wr.heap.size) (fun _ _ wr => n - wr.iterPos (b + 1))
  case atStart => exact ⟨0, false, [], Nat.zero_le _, hB0, hit0, hb0', hI0, Lib.hid (by rw [List.drop_zero, List.nil_append]), by simp [encs], hs0⟩
  case round =>
    obtain ⟨k, st, acc, hk, hBl, hit, hb, hInv, heq, hacc, hsw⟩ := hrel
    have hm := iterPos_of hit
    by_cases hkn : k < n
    · have hp : k < s.size := by rw [HSZ.out]; exact hkn
      have hkd : k < ds.length := by rw [HN.out]; exact hkn
      have hby : (s[k]'hp).toNat = 48 + ds[k] := by
        have := HSD.out
        subst this
        exact dg_byte ds k hkd HD.out.2.2.1 hp
      have hd9 : ds[k] ≤ 9 := HD.out.2.2.1 _ (List.getElem_mem hkd)
      have hcons : ds.drop k = ds[k] :: ds.drop (k + 1) := List.drop_eq_getElem_cons hkd
      have hdl : (ds.drop (k + 1)).length = n - 1 - k := by rw [List.length_drop, HN.out]; omega
      obtain ⟨d, hdd⟩ : ∃ d, ds[k] = d := ⟨_, rfl⟩
      rw [hdd] at hby hd9 hcons
      have heq2 : (acc ++ out st d (n - 1 - k)) ++ eachS out next (next st d (n - 1 - k)) (ds.drop (k + 1)) = eachS out next false ds := by
        rw [← heq.out, hcons]
        show _ = acc ++ (out st d (ds.drop (k + 1)).length ++ eachS out next (next st d (ds.drop (k + 1)).length) (ds.drop (k + 1)))
        rw [hdl, List.append_assoc]
      have hnx : ∀ ty, (Instr.next (.pointer (some ⟨b + 1, 0, none⟩)) true ty).run Tryz.prog wr = _ := fun ty => Lib.run_next_ascii_at (P := Tryz.prog) wr (b + 1) s k ty hit hp (by omega)
      obtain ⟨c, hc⟩ : ∃ c : Int, ((s[k]'hp).toNat : Int) = c := ⟨_, rfl⟩
      have hc0 : c = 48 + (d : Int) := by rw [← hc, hby]; simp
      have hc1 : 48 ≤ c := by omega
      have hc2 : c ≤ 57 := by omega
      have hit4 := Lib.iterAt_heap wr (b + 1) s k (k + 1) hit
      have hb4 := Lib.below_iterAt hb (k := b + 1) (by omega) s (k + 1)
      have hb4' := Lib.below_iterAt (Below.refl w.heap.size wr) (k := b + 1) (by omega) s (k + 1)
      have hBl4 := hBl.iterAt hit (k + 1)
      have hsw4 : b + 2 ≤ (wr.iterAt (b + 1) s (k + 1)).heap.size := by rw [Lib.iterAt_size]; exact hsw
      have hI4 := Lib.hid (HST.out st wr _ hInv.out hb4' (by omega))
      obtain ⟨W4, hW4⟩ : ∃ W4, wr.iterAt (b + 1) s (k + 1) = W4 := ⟨_, rfl⟩
      rw [hW4] at hit4 hb4 hBl4 hsw4 hI4
      simp only [hW4, hc] at hnx
      have hy : ((n : Int) - 1 - (k : Int)) = ((n - 1 - k : Nat) : Int) := by omega
      have hCall := HP.out st d (n - 1 - k) (c - 48) ((s.size : Int) - 1 - (k : Int)) W4 (by omega) (by rw [HSZ.out]; exact hy) hd9 (by omega) (by omega) (hL.below hb4 h5) hI4.out
      have hol := HLEN.out st d (n - 1 - k) hd9 (by omega)
      obtain ⟨o, ho⟩ : ∃ o, out st d (n - 1 - k) = o := ⟨_, rfl⟩
      obtain ⟨st', hst'⟩ : ∃ st', next st d (n - 1 - k) = st' := ⟨_, rfl⟩
      rw [ho, hst'] at hCall heq2
      rw [ho] at hol
      have HC := Lib.hid hCall
      have HQ := Lib.hid heq2
      have hs20 : s.size ≤ 20 := by rw [HSZ.out]; exact hn20
      clear hW4 hc hy hCall heq2 heq hit hb hBl hInv hb4' hst' ho hdl hcons hdd hby hc0 hI4 hkd
      go_wp2_with (first
        | (go_at_call 41; refine (Tryz.writeString b b (Lib.byteCells (encs acc)) (tx o) _ hBl5 (by rw [Lib.byteCells_length, tx_size]; omega) (by omega)).mono ?_; rintro e w6 ⟨rfl, hA6, hb6, ho6⟩)
        | (refine HC.out.mono ?_
           rintro e w5 ⟨rfl, hI5, hb5, hk5⟩
           have hBl5 := builder_kept hBl4 (fun j h1 h2 => hk5 j (by omega) h2)
           have hit5 : w5.heap[b + 1]? = some (.stringIter s (k + 1)) := by rw [hk5 (b + 1) (by omega) (by omega)]; exact hit4
           have hsz5 : b + 2 ≤ w5.heap.size := by have := hb5.size; omega
           have HI5 := Lib.hid hI5
           have hb5' := hb4.trans hb5
           clear hI5 hk5 hBl4 hit4 hb4 hb5))
      have hit6 := ho6.iter hit5 (by omega)
      have hI6 := Lib.hid (HST.out st' w5 w6 HI5.out (hb6.mono hwb) (by omega))
      have hBl6 : Lib.IsBuilderF 68 5 b b (Lib.byteCells (encs (acc ++ o))) w6 := by
        rw [encs_append, byteCells_append, ← tx_cells]; exact .inr hA6
      have hsz6 : b + 2 ≤ w6.heap.size := by have := hb6.size; omega
      have hb7 := hb5'.trans (hb6.mono (by omega))
      go_roundw
      case rel => exact ⟨k + 1, st', acc ++ o, by omega, hBl6, hit6, hb7, hI6, HQ, by rw [encs_append, List.length_append]; omega, hsz6⟩
      case measure => rw [iterPos_of hit6, hm]; omega
    · have hkn' : k = n := by omega
      subst hkn'
      have hp : ¬ k < s.size := by rw [HSZ.out]; omega
      have hnx : ∀ ty, (Instr.next (.pointer (some ⟨b + 1, 0, none⟩)) true ty).run Tryz.prog wr = _ := fun ty => Lib.run_next_end_at (P := Tryz.prog) wr (b + 1) s k ty hit hp
      have hall : acc = eachS out next false ds := by
        rw [← heq.out, List.drop_of_length_le (by rw [HN.out]; omega)]
        show acc = acc ++ []
        rw [List.append_nil]
      have HA := Lib.hid hall
      clear hall hm hp hkn
      go_wp2_with (go_at_call 42; refine (Tryz.Builder_String_any_k b b (encs acc) _ hBl (by omega)).mono ?_; rintro e w8 ⟨rfl, _, hb8, _⟩)
      go_ret2
      exact ⟨by rw [← HA.out]; rfl, hb.trans (hb8.mono (by omega))⟩

end Go.Proofs.YteelmjmiankflaaGreatDoor.Num

set_option linter.unusedVariables false
set_option linter.unusedSimpArgs false
namespace Go.Proofs.YteelmjmiankflaaGreatDoor.Num
open Go Go.RowKit Go.Proofs.YteelmjmiankflaaGreatDoor.Kit Go.Proofs.YteelmjmiankflaaGreatDoor.Utf

/-- What writes a digit other than 0 with its unit. -/
def Unit1 (F : FuncId) (h : Nat → Nat → List Int) : Prop :=
  ∀ (d u : Nat) (x y : Int) (W : World), x = d → y = u → 1 ≤ d → d ≤ 9 → u ≤ 3 → Laid W →
    Calls Tryz.prog F #[.int .i64 x, .int .i64 y] W fun e W' => e = .returned (.string (tx (h d u))) ∧ Below W.heap.size W W'

theorem below_drewN (w : World) (n : Nat) : Below w.heap.size w (w.drewN n) := by
  refine ⟨rfl, rfl, rfl, Nat.le_refl _, fun _ _ => rfl⟩

theorem add_tx (a b : List Int) (h : (encs a).length + (encs b).length ≤ 8388608) : ∀ w, (Op.stringOp .add (tx a) (tx b)).run Tryz.prog w = .ok (.string (tx (a ++ b))) w := by
  intro w
  rw [← tx_append]
  exact run_string_add_sum (P := Tryz.prog) (w := w) _ _ (by rw [tx_size, tx_size]; omega)
theorem len_pd : ∀ d, d ≤ 9 → (encs [pd d]).length = 3 := by decide
theorem len_fd : ∀ d, d ≤ 9 → (encs [fd d]).length = 3 := by decide
theorem len_pu : ∀ d, d ≤ 3 → (encs (pu d)).length ≤ 3 := by decide
theorem len_fu : ∀ d, d ≤ 3 → (encs (fu d)).length ≤ 3 := by decide
theorem len_gu : ∀ d, d ≤ 4 → (encs (gu d)).length ≤ 3 := by decide

theorem kanji1 : Unit1 76 kp := by
  intro d u x y W hx hy hd1 hd9 hu hL
  have hx1 : 1 ≤ x := by omega
  have hx9 : x ≤ 9 := by omega
  have hy0 : 0 ≤ y := by omega
  have hy3 : y ≤ 3 := by omega
  have hxa : 0 ≤ x := by omega
  have hxb : x < 10 := by omega
  have hyb : y < 4 := by omega
  have h1 : W.cell? ⟨4, x.toNat, none⟩ = some (.string (tx [pd d])) := by rw [show x.toNat = d by omega]; exact hL.pd d (by omega)
  have h2 : W.cell? ⟨3, y.toNat, none⟩ = some (.string (tx (pu u))) := by rw [show y.toNat = u by omega]; exact hL.pu u (by omega)
  have hadd := add_tx [pd d] (pu u) (by have := len_pd d hd9; have := len_pu u hu; omega)
  by_cases hc : x = 1 ∧ 0 < y
  · have hk : kp d u = pu u := by unfold kp; rw [if_pos (by omega)]
    have hk := Lib.hid hk
    obtain ⟨hc1, hc2⟩ := hc
    subst hc1
    clear hx hy hadd
    go_enter Tryz.func76, Tryz.ntmps76
    go_wp2
    go_ret
    exact ⟨by rw [hk.out]; rfl, Below.refl _ _⟩
  · have hk : kp d u = pd d :: pu u := by unfold kp; rw [if_neg (by omega)]
    have hk := Lib.hid hk
    have hcase : ((x == 1) = true ∧ decide (0 < y) = false) ∨ (x == 1) = false := by
      by_cases e : x = 1
      · left; exact ⟨by simp [e], by simp; omega⟩
      · right; simp [e]
    clear hc hx hy
    rcases hcase with ⟨e1, e2⟩ | e1
    · go_enter Tryz.func76, Tryz.ntmps76
      go_wp2
      try clear e1
      try clear e2
      go_quiet (fail)
      go_wp2
      go_ret
      exact ⟨by rw [hk.out]; rfl, by first | exact Below.refl _ _ | exact below_drewN _ _⟩
    · go_enter Tryz.func76, Tryz.ntmps76
      go_wp2
      try clear e1
      try clear e2
      go_quiet (fail)
      go_wp2
      go_ret
      exact ⟨by rw [hk.out]; rfl, by first | exact Below.refl _ _ | exact below_drewN _ _⟩

theorem formal1 : Unit1 95 fp := by
  intro d u x y W hx hy hd1 hd9 hu hL
  have hx1 : 1 ≤ x := by omega
  have hx9 : x ≤ 9 := by omega
  have hy0 : 0 ≤ y := by omega
  have hy3 : y ≤ 3 := by omega
  have hxa : 0 ≤ x := by omega
  have hxb : x < 10 := by omega
  have hyb : y < 4 := by omega
  have h1 : W.cell? ⟨6, x.toNat, none⟩ = some (.string (tx [fd d])) := by rw [show x.toNat = d by omega]; exact hL.fd d (by omega)
  have h2 : W.cell? ⟨7, y.toNat, none⟩ = some (.string (tx (fu u))) := by rw [show y.toNat = u by omega]; exact hL.fu u (by omega)
  have hk := Lib.hid (show fp d u = [fd d] ++ fu u from rfl)
  have hadd := add_tx [fd d] (fu u) (by have := len_fd d hd9; have := len_fu u hu; omega)
  clear hx hy
  go_enter Tryz.func95, Tryz.ntmps95
  go_wp2
  go_quiet (fail)
  go_wp2
  go_ret
  exact ⟨by rw [hk.out]; rfl, by first | exact Below.refl _ _ | exact below_drewN _ _⟩

theorem pos1 (d a : Nat) (x y : Int) (W : World) (hx : x = d) (hy : y = a) (hd : d ≤ 9) (ha : a ≤ 19) (hL : Laid W) :
    Calls Tryz.prog 94 #[.int .i64 x, .int .i64 y] W fun e W' => e = .returned (.string (tx [pd d])) ∧ Below W.heap.size W W' := by
  have hx0 : 0 ≤ x := by omega
  have hx9 : x ≤ 9 := by omega
  have h1 : W.cell? ⟨4, x.toNat, none⟩ = some (.string (tx [pd d])) := by rw [show x.toNat = d by omega]; exact hL.pd d (by omega)
  clear hx hy
  go_enter Tryz.func94, Tryz.ntmps94
  go_wp2
  go_ret
  exact ⟨rfl, by first | exact Below.refl _ _ | exact below_drewN _ _⟩

/-- strconv.Itoa at a digit. -/
theorem itoa_digit (d : Nat) (x : Int) (w : World) (hx : x = d) (hd : d ≤ 9) :
    Calls Tryz.prog 43 #[.int .i64 x] w fun e w' => e = .returned (.string (tx [48 + (d : Int)])) ∧ w' = w := by
  subst hx
  have h := Tryz.strconv_Itoa_small d (by omega) w
  rw [Lib.decDigits_one (by omega)] at h
  have e : tx [48 + (d : Int)] = ⟨[UInt8.ofNat (48 + d)].toArray⟩ := by unfold tx; rw [encs_cons, dg_enc d hd]; rfl
  rw [e]
  exact h

end Go.Proofs.YteelmjmiankflaaGreatDoor.Num

set_option linter.unusedVariables false
set_option linter.unusedSimpArgs false
namespace Go.Proofs.YteelmjmiankflaaGreatDoor.Num
open Go Go.RowKit Go.Proofs.YteelmjmiankflaaGreatDoor.Kit Go.Proofs.YteelmjmiankflaaGreatDoor.Utf

theorem tx_one (c : Int) : Utf8.encode c = tx [c] := by
  apply ba_ext
  show (Utf8.encode c).data.toList = bs (tx [c])
  rw [bs_tx]
  simp [encs, enc]

/-- What withUnits keeps: the function of its parts, and whether the group has been begun. -/
def UInv (FU : FuncId) (p g : Nat) (b : Bool) (W : World) : Prop :=
  W.heap[p]? = some (.cells #[.func (.func FU) #[] #[]] 82 (0, 0)) ∧ W.heap[g]? = some (.cells #[.bool b] 4 (0, 0))

theorem uinv_below {FU : FuncId} {p g n0 : Nat} {b : Bool} {W W' : World} (h : UInv FU p g b W) (hb : ∀ k, k < n0 → W'.heap[k]? = W.heap[k]?) (hp : p < n0) (hg : g < n0) : UInv FU p g b W' :=
  ⟨by rw [hb p hp]; exact h.1, by rw [hb g hg]; exact h.2⟩
theorem uinv_set {FU : FuncId} {p g : Nat} {b : Bool} {W : World} (h : UInv FU p g b W) (hne : p ≠ g) (b' : Bool) : UInv FU p g b' (W.setCell ⟨g, 0, none⟩ (.bool b')) := by
  refine ⟨?_, ?_⟩
  · rw [Below.heap_setCell _ _ _ _ (fun e => hne e)]; exact h.1
  · have := heap_setCell_same W g 0 #[.bool b] 4 (.bool b') h.2
    rw [this]; rfl

theorem len_kp : ∀ d, d ≤ 9 → ∀ u, u ≤ 3 → (encs (kp d u)).length ≤ 6 := by decide
theorem len_fp : ∀ d, d ≤ 9 → ∀ u, u ≤ 3 → (encs (fp d u)).length ≤ 6 := by decide

theorem unit_part (FU : FuncId) (h : Nat → Nat → List Int) (hU : Unit1 FU h) (eF : ∀ args w, (callFunc FU args).run Tryz.prog w = .ok (.enter FU args) w) (hl : ∀ d, d ≤ 9 → ∀ u, u ≤ 3 → (encs (h d u)).length ≤ 6) (B p g n0 : Nat) (hB : 8 + 1 ≤ B) (hp : B ≤ p) (hpn : p < n0) (hg : B ≤ g) (hgn : g < n0) (hpg : p ≠ g) :
    Parts 101 #[.pointer (some ⟨p, 0, none⟩), .pointer (some ⟨g, 0, none⟩)] (uo h) un B n0 (UInv FU p g) := by
  intro b d a x y W hx hy hd ha hn hL hI
  have hy0 : 0 ≤ y := by omega
  have hy19 : y ≤ 19 := by omega
  have c0 : W.cell? ⟨p, 0, none⟩ = some (.func (.func FU) #[] #[]) := by simp [World.cell?, hI.1]
  have c1 : W.cell? ⟨g, 0, none⟩ = some (.bool b) := by simp [World.cell?, hI.2]
  have f1 : W.frozen? ⟨g, 0, none⟩ = false := by simp [World.frozen?, hI.2]
  have cg : W.cell? ⟨8, (y / 4).toNat, none⟩ = some (.string (tx (gu (a / 4)))) := by rw [show (y / 4).toNat = a / 4 by omega]; exact hL.gu _ (by omega)
  have ya : 0 ≤ y / 4 := by omega
  have yb : y / 4 < 5 := by omega
  have ne1 : ¬ (8 = g) := by omega
  have HI := Lib.hid hI; clear hI
  have hkS : ∀ (W1 : World) (v : Value), (∀ k, n0 ≤ k → k < W.heap.size → W1.heap[k]? = W.heap[k]?) → ∀ k, n0 ≤ k → k < W.heap.size → (W1.setCell ⟨g, 0, none⟩ v).heap[k]? = W.heap[k]? := fun W1 v h k h1 h2 => by
    rw [Below.heap_setCell _ _ _ _ (fun e => by have : k = g := e; omega)]; exact h k h1 h2
  have HKS := Lib.hid hkS; clear hkS
  by_cases hd0 : d = 0
  · have e0 : (x != 0) = false := by simp; omega
    by_cases ha4 : a % 4 = 0
    · have e1 : ((y % 4 : Int) == 0) = true := by simp; omega
      cases b with
      | false =>
        have ho : uo h false d a = [] := by unfold uo; rw [if_pos hd0, if_neg (fun e => by rcases e.2 with e | e <;> simp_all)]; rfl
        have hn2 : un false d a = false := by unfold un; rw [if_pos ha4]
        rw [ho, hn2]
        clear ho hn2 hx hy
        go_enter Tryz.func101, Tryz.ntmps101
        go_wp2
        go_ret
        exact ⟨rfl, HI.out, Below.refl _ _, fun _ _ _ => rfl⟩
      | true =>
        have ho : uo h true d a = gu (a / 4) := by unfold uo; rw [if_pos hd0, if_pos ⟨ha4, .inl rfl⟩]; rfl
        have hn2 : un true d a = false := by unfold un; rw [if_pos ha4]
        have hadd : ∀ w, (Op.stringOp .add { data := #[] } (tx (gu (a / 4)))).run Tryz.prog w = .ok (.string (tx (gu (a / 4)))) w := fun w => by
          have := add_tx [] (gu (a / 4)) (by have := len_gu (a / 4) (by omega); have h0 : (encs ([] : List Int)).length = 0 := rfl; omega) w
          exact this
        rw [ho, hn2]
        clear ho hn2 hx hy
        go_enter Tryz.func101, Tryz.ntmps101
        go_wp2
        go_ret
        exact ⟨rfl, uinv_set HI.out hpg false, (Below.refl B W).setCell (p := ⟨g, 0, none⟩) hg _, HKS.out W _ (fun _ _ _ => rfl)⟩
    · have e1 : ((y % 4 : Int) == 0) = false := by simp; omega
      have ho : uo h b d a = [] := by unfold uo; rw [if_pos hd0, if_neg (fun e => ha4 e.1)]; rfl
      have hn2 : un b d a = b := by unfold un; rw [if_neg ha4, hd0]; cases b <;> rfl
      rw [ho, hn2]
      clear ho hn2 hx hy
      go_enter Tryz.func101, Tryz.ntmps101
      go_wp2
      go_ret
      exact ⟨rfl, HI.out, Below.refl _ _, fun _ _ _ => rfl⟩
  · have e0 : (x != 0) = true := by simp; omega
    have hCall := Lib.hid (hU d (a % 4) x (y % 4) W hx (by omega) (by omega) hd (by omega) hL)
    have hWL : ∀ W1, Below W.heap.size W W1 → UInv FU p g b W1 ∧ W1.cell? ⟨8, (y / 4).toNat, none⟩ = some (.string (tx (gu (a / 4)))) := fun W1 hb => by
      refine ⟨uinv_below HI.out (fun k hk => hb.block k hk) (show p < W.heap.size by omega) (by omega), ?_⟩
      rw [show (y / 4).toNat = a / 4 by omega]; exact (hL.next hb).gu _ (by omega)
    have HWL := Lib.hid hWL; clear hWL
    have hlh := hl d hd (a % 4) (by omega)
    by_cases ha4 : a % 4 = 0
    · have e1 : ((y % 4 : Int) == 0) = true := by simp; omega
      have ho : uo h b d a = h d (a % 4) ++ gu (a / 4) := by unfold uo; rw [if_neg hd0, if_pos ⟨ha4, .inr hd0⟩]
      have hn2 : un b d a = false := by unfold un; rw [if_pos ha4]
      have hadd := add_tx (h d (a % 4)) (gu (a / 4)) (by have := len_gu (a / 4) (by omega); omega)
      rw [ho, hn2]
      clear ho hn2 hx hy c1 f1 cg ha4
      go_enter Tryz.func101, Tryz.ntmps101
      go_wp2_with (refine hCall.out.mono ?_
                   rintro e w1 ⟨rfl, hb1⟩
                   obtain ⟨hI1, cg⟩ := HWL.out w1 hb1
                   have c1 : w1.cell? ⟨g, 0, none⟩ = some (.bool b) := by simp [World.cell?, hI1.2]
                   have f1 : w1.frozen? ⟨g, 0, none⟩ = false := by simp [World.frozen?, hI1.2]
                   have HI1 := Lib.hid hI1; clear hI1)
      go_ret
      exact ⟨rfl, uinv_set (uinv_set HI1.out hpg true) hpg false, ((hb1.mono (by omega)).setCell (p := ⟨g, 0, none⟩) hg _).setCell (p := ⟨g, 0, none⟩) hg _, HKS.out _ _ (HKS.out w1 _ (fun k _ h2 => hb1.block k h2))⟩
    · have e1 : ((y % 4 : Int) == 0) = false := by simp; omega
      have ho : uo h b d a = h d (a % 4) := by unfold uo; rw [if_neg hd0, if_neg (fun e => ha4 e.1), List.append_nil]
      have hn2 : un b d a = true := by unfold un; rw [if_neg ha4]; cases b <;> simp [hd0]
      rw [ho, hn2]
      clear ho hn2 hx hy c1 f1 cg
      go_enter Tryz.func101, Tryz.ntmps101
      go_wp2_with (refine hCall.out.mono ?_
                   rintro e w1 ⟨rfl, hb1⟩
                   obtain ⟨hI1, cg⟩ := HWL.out w1 hb1
                   have c1 : w1.cell? ⟨g, 0, none⟩ = some (.bool b) := by simp [World.cell?, hI1.2]
                   have f1 : w1.frozen? ⟨g, 0, none⟩ = false := by simp [World.frozen?, hI1.2]
                   have HI1 := Lib.hid hI1; clear hI1)
      go_ret
      exact ⟨rfl, uinv_set HI1.out hpg true, (hb1.mono (by omega)).setCell (p := ⟨g, 0, none⟩) hg _, HKS.out w1 _ (fun k _ h2 => hb1.block k h2)⟩

theorem heap_last (w : World) (o : Obj) : (w.alloc o).heap[w.heap.size]? = some o := by show (w.heap.push o)[w.heap.size]? = _; simp

/-- What the writers return. -/
def wOut (f : List Nat → List Int) (s : ByteArray) : ByteArray := if isDec s then tx (f (ofDg s)) else { data := #[] }
theorem wOut_dg (f : List Nat → List Int) {ds : List Nat} (h : DS ds) : wOut f (dg ds) = tx (f ds) := by unfold wOut; rw [isDec_dg h, ofDg_dg ds h.2.2.1]; rfl
theorem wOut_bad (f : List Nat → List Int) {s : ByteArray} (h : isDec s = false) : wOut f s = { data := #[] } := by unfold wOut; rw [h]; rfl

theorem dg_zero : dg [0] = { data := #[48] } := rfl
theorem isDec_zero : isDec { data := #[48] } = true := by decide

theorem withUnits_any (FU : FuncId) (h : Nat → Nat → List Int) (hU : Unit1 FU h) (eF : ∀ args w, (callFunc FU args).run Tryz.prog w = .ok (.enter FU args) w) (hl : ∀ d, d ≤ 9 → ∀ u, u ≤ 3 → (encs (h d u)).length ≤ 6)
    (s : ByteArray) (w : World) (hs : s.size ≤ maxLen) (hL : Laid w) :
    Calls Tryz.prog 75 #[.string s, .func (.func FU) #[] #[]] w fun e w' => e = .returned (.tuple #[.string (wOut (fun ds => if ds = [0] then [38646] else units h false ds) s), .bool (isDec s)]) ∧ Below w.heap.size w w' := by
  by_cases hz : s = { data := #[48] }
  · subst hz
    have e1 : wOut (fun ds => if ds = [0] then [38646] else units h false ds) { data := #[48] } = { data := #[233, 155, 182] } := by
      have := wOut_dg (fun ds => if ds = [0] then [38646] else units h false ds) (show DS [0] by decide)
      rw [dg_zero] at this
      rw [this, if_pos rfl]; decide
    rw [e1, isDec_zero]
    clear e1
    go_enter Tryz.func75, Tryz.ntmps75
    go_wp2
    go_ret2
    exact ⟨rfl, (Below.refl _ w).alloc (Nat.le_refl _) _⟩
  · have ne : (s.toList == ({ data := #[48] } : ByteArray).toList) = false := by
      rw [ByteArray.toList_eq, ByteArray.toList_eq]
      simp only [beq_eq_false_iff_ne]
      intro e; exact hz (ba_ext e)
    have ne' := ne
    rw [ByteArray.toList_eq (bs := { data := #[48] })] at ne'
    have hbw : Below w.heap.size w ((w.alloc (.cells #[.func (.func FU) #[] #[]] 82)).alloc (.cells #[.bool false] 4)) := ((Below.refl _ w).alloc (Nat.le_refl _) _).alloc (by simp) _
    have hLw := hL.next hbw
    have h5 := hL.size
    have hI0 : UInv FU w.heap.size (w.heap.size + 1) false ((w.alloc (.cells #[.func (.func FU) #[] #[]] 82)).alloc (.cells #[.bool false] 4)) := by
      refine ⟨?_, ?_⟩
      · rw [Lib.alloc_old _ _ _ (by simp)]
        show (w.heap.push _)[w.heap.size]? = _; simp
      · have e : (w.alloc (.cells #[.func (.func FU) #[] #[]] 82)).heap.size = w.heap.size + 1 := by simp
        have := heap_last (w.alloc (.cells #[.func (.func FU) #[] #[]] 82)) (.cells #[.bool false] 4)
        rw [e] at this
        exact this
    have hsz : ((w.alloc (.cells #[.func (.func FU) #[] #[]] 82)).alloc (.cells #[.bool false] 4)).heap.size = w.heap.size + 2 := by simp
    obtain ⟨W, hW⟩ : ∃ W, (w.alloc (.cells #[.func (.func FU) #[] #[]] 82)).alloc (.cells #[.bool false] 4) = W := ⟨_, rfl⟩
    rw [hW] at hbw hLw hI0 hsz
    have HW := Lib.hid hW; clear hW
    cases hd : isDec s with
    | false =>
      have HB := Lib.hid (fun fv => writeEach_bad s fv W hs hd)
      rw [wOut_bad _ hd]
      clear hd hz hI0 hLw hsz
      go_enter Tryz.func75, Tryz.ntmps75
      go_wp2_with (go_at_call 93; rw [HW.out]; refine (HB.out _).mono ?_; rintro e w1 ⟨rfl, hb1⟩)
      go_ret2
      exact ⟨rfl, hbw.trans (hb1.mono hbw.size)⟩
    | true =>
      obtain ⟨hds, hsd⟩ := (isDec_iff s).1 hd
      obtain ⟨ds, hde⟩ : ∃ ds, ofDg s = ds := ⟨_, rfl⟩
      rw [hde] at hds hsd
      have hnz : ds ≠ [0] := fun e => hz (by rw [hsd, e]; rfl)
      have ew : wOut (fun ds => if ds = [0] then [38646] else units h false ds) s = tx (units h false ds) := by
        rw [hsd, wOut_dg _ hds, if_neg hnz]
      have HG := Lib.hid (writeEach_good ds s 101 #[.pointer (some ⟨w.heap.size, 0, none⟩), .pointer (some ⟨w.heap.size + 1, 0, none⟩)] (uo h) un w.heap.size (UInv FU w.heap.size (w.heap.size + 1)) W hds hsd (fun _ _ => by kernel_rfl) hbw.size h5 hLw hI0
        (fun b W1 W2 hi hb _ => uinv_below hi (fun k hk => hb.block k hk) (show w.heap.size < W.heap.size by omega) (by omega))
        (unit_part FU h hU eF hl w.heap.size w.heap.size (w.heap.size + 1) W.heap.size h5 (Nat.le_refl _) (by omega) (by omega) (by omega) (by omega))
        (fun b d a h9 h19 => by
          have h1 := hl d h9 (a % 4) (by omega)
          have h2 := len_gu (a / 4) (by omega)
          have h0 : (encs ([] : List Int)).length = 0 := rfl
          unfold uo
          rw [encs_append, List.length_append]
          split <;> split <;> omega))
      rw [ew]
      clear hd hz hI0 hLw hsz hds hsd hde hnz ew
      go_enter Tryz.func75, Tryz.ntmps75
      go_wp2_with (go_at_call 93; rw [HW.out]; refine HG.out.mono ?_; rintro e w1 ⟨rfl, hb1⟩)
      go_ret2
      exact ⟨rfl, hbw.trans hb1⟩

end Go.Proofs.YteelmjmiankflaaGreatDoor.Num

set_option linter.unusedVariables false
set_option linter.unusedSimpArgs false
namespace Go.Proofs.YteelmjmiankflaaGreatDoor.Num
open Go Go.RowKit Go.Proofs.YteelmjmiankflaaGreatDoor.Kit Go.Proofs.YteelmjmiankflaaGreatDoor.Utf

/-- A function that writes decimal digits as f says. -/
def Writer (F : FuncId) (f : List Nat → List Int) : Prop :=
  ∀ (s : ByteArray) (w : World), s.size ≤ maxLen → Laid w → Calls Tryz.prog F #[.string s] w fun e w' => e = .returned (.tuple #[.string (wOut f s), .bool (isDec s)]) ∧ Below w.heap.size w w'

theorem each_any (F : FuncId) (out : Bool → Nat → Nat → List Int) (eF : ∀ args w, (callFunc F args).run Tryz.prog w = .ok (.enter F args) w)
    (h : ∀ (d a : Nat) (x y : Int) (W : World), x = d → y = a → d ≤ 9 → a ≤ 19 → Laid W → Calls Tryz.prog F #[.int .i64 x, .int .i64 y] W fun e W' => e = .returned (.string (tx (out false d a))) ∧ Below W.heap.size W W')
    (hl : ∀ b d a, d ≤ 9 → a ≤ 19 → (encs (out b d a)).length ≤ 100) (s : ByteArray) (w : World) (hs : s.size ≤ maxLen) (hL : Laid w) :
    Calls Tryz.prog 93 #[.string s, .func (.func F) #[] #[]] w fun e w' => e = .returned (.tuple #[.string (wOut (eachS out (fun b _ _ => b) false) s), .bool (isDec s)]) ∧ Below w.heap.size w w' := by
  cases hd : isDec s with
  | false => rw [wOut_bad _ hd]; exact writeEach_bad s _ w hs hd
  | true =>
    obtain ⟨hds, hsd⟩ := (isDec_iff s).1 hd
    have := writeEach_good (ofDg s) s F #[] out (fun b _ _ => b) w.heap.size (fun b _ => b = false) w hds hsd eF (Nat.le_refl _) hL.size hL rfl (fun b W W' h _ _ => h) (Parts.plain h _) hl
    have e : wOut (eachS out (fun b _ _ => b) false) s = tx (eachS out (fun b _ _ => b) false (ofDg s)) := by unfold wOut; rw [hd]; rfl
    rw [e]
    exact this

theorem len_asc : ∀ d : Nat, d ≤ 9 → (encs [48 + (d : Int)]).length ≤ 3 := by decide
theorem len_comma : ∀ d : Nat, d ≤ 9 → (encs [48 + (d : Int), 44]).length ≤ 3 := by decide
theorem len_wide : ∀ d : Nat, d ≤ 9 → (encs [65296 + (d : Int)]).length ≤ 3 := by decide

theorem kanji_any : Writer 49 kanjiC := by
  intro s w hs hL
  have H := Lib.hid (withUnits_any 76 kp kanji1 (fun _ _ => by kernel_rfl) len_kp s w hs hL)
  go_enter Tryz.func49, Tryz.ntmps49
  go_wp2_with (go_at_call 75; refine H.out.mono ?_; rintro e w1 ⟨rfl, hb1⟩)
  go_ret2
  exact ⟨rfl, hb1⟩

theorem formal_any : Writer 72 formC := by
  intro s w hs hL
  have H := Lib.hid (withUnits_any 95 fp formal1 (fun _ _ => by kernel_rfl) len_fp s w hs hL)
  go_enter Tryz.func72, Tryz.ntmps72
  go_wp2_with (go_at_call 75; refine H.out.mono ?_; rintro e w1 ⟨rfl, hb1⟩)
  go_ret2
  exact ⟨rfl, hb1⟩

theorem pos_any : Writer 71 posC := by
  intro s w hs hL
  have H := Lib.hid (each_any 94 (fun _ d _ => [pd d]) (fun _ _ => by kernel_rfl) pos1 (fun b d a h _ => by have := len_pd d h; show (encs [pd d]).length ≤ 100; omega) s w hs hL)
  go_enter Tryz.func71, Tryz.ntmps71
  go_wp2_with (go_at_call 93; refine H.out.mono ?_; rintro e w1 ⟨rfl, hb1⟩)
  go_ret2
  exact ⟨rfl, hb1⟩

end Go.Proofs.YteelmjmiankflaaGreatDoor.Num

set_option linter.unusedVariables false
set_option linter.unusedSimpArgs false
namespace Go.Proofs.YteelmjmiankflaaGreatDoor.Num
open Go Go.RowKit Go.Proofs.YteelmjmiankflaaGreatDoor.Kit Go.Proofs.YteelmjmiankflaaGreatDoor.Utf

theorem eachS_size {out : Bool → Nat → Nat → List Int} {next : Bool → Nat → Nat → Bool} {m : Nat} (h : ∀ b d a, d ≤ 9 → a ≤ 19 → (encs (out b d a)).length ≤ m) :
    ∀ (ds : List Nat) (b : Bool), (∀ d ∈ ds, d ≤ 9) → ds.length ≤ 20 → (encs (eachS out next b ds)).length ≤ m * ds.length := by
  intro ds
  induction ds with
  | nil => intro b _ _; simp [eachS, encs]
  | cons d ds ih =>
    intro b h9 hl
    simp only [List.length_cons] at hl ⊢
    unfold eachS
    rw [encs_append, List.length_append]
    have h1 := h b d ds.length (h9 d (by simp)) (by omega)
    have h2 := ih (next b d ds.length) (fun x hx => h9 x (by simp [hx])) (by omega)
    rw [Nat.mul_succ]; omega
theorem size_uo {h : Nat → Nat → List Int} (hl : ∀ d, d ≤ 9 → ∀ u, u ≤ 3 → (encs (h d u)).length ≤ 6) : ∀ b d a, d ≤ 9 → a ≤ 19 → (encs (uo h b d a)).length ≤ 9 := by
  intro b d a h9 h19
  have h1 := hl d h9 (a % 4) (by omega)
  have h2 := len_gu (a / 4) (by omega)
  have h0 : (encs ([] : List Int)).length = 0 := rfl
  unfold uo
  rw [encs_append, List.length_append]
  split <;> split <;> omega
theorem size_kanji {ds : List Nat} (hd : DS ds) : (tx (kanjiC ds)).size ≤ 200 := by
  rw [tx_size]
  unfold kanjiC
  split
  · decide
  · have := eachS_size (next := un) (size_uo len_kp) ds false hd.2.2.1 hd.2.1
    have h20 := hd.2.1
    unfold units; omega
theorem size_form {ds : List Nat} (hd : DS ds) : (tx (formC ds)).size ≤ 200 := by
  rw [tx_size]
  unfold formC
  split
  · decide
  · have := eachS_size (next := un) (size_uo len_fp) ds false hd.2.2.1 hd.2.1
    have h20 := hd.2.1
    unfold units; omega
theorem size_pos {ds : List Nat} (hd : DS ds) : (tx (posC ds)).size ≤ 200 := by
  rw [tx_size]
  have := eachS_size (out := fun _ d _ => [pd d]) (next := fun b _ _ => b) (m := 3) (fun b d a h _ => Nat.le_of_eq (len_pd d h)) ds false hd.2.2.1 hd.2.1
  have h20 := hd.2.1
  unfold posC; omega

end Go.Proofs.YteelmjmiankflaaGreatDoor.Num

set_option linter.unusedVariables false
set_option linter.unusedSimpArgs false
namespace Go.Proofs.YteelmjmiankflaaGreatDoor.Cal
open Go Go.RowKit Go.Proofs.YteelmjmiankflaaGreatDoor.Kit Go.Proofs.YteelmjmiankflaaGreatDoor.Utf
open Go.Proofs.YteelmjmiankflaaGreatDoor.Num

/-- The tables that the forms of a day read. -/
structure FLaid (w : World) : Prop where
  era : ELaid w
  num : Num.Laid w
  pow : Lib.TabIs Tryz.prog w "internal/strconv.uint64pow10" .u64 Lib.pow10Tab
theorem FLaid.next {w w' : World} (h : FLaid w) (hb : Below w.heap.size w w') : FLaid w' :=
  ⟨h.era.next hb, h.num.next hb, Joins.tab_stays (g := 11) (by kernel_rfl) h.pow hb (Nat.le_refl _)⟩

theorem itoa_at (n : Nat) (hn : n ≤ 9999) (w : World) (hL : FLaid w) :
    Calls Tryz.prog 43 #[.int .i64 n] w fun e w' => e = .returned (.string (tx (ascC (digs n)))) ∧ Below w.heap.size w w' := by
  have e1 : (⟨(Lib.itoa (n : Int)).toArray⟩ : ByteArray) = tx (ascC (digs n)) := by
    rw [← dg_tx _ (digs_le n), dg_digs]
    unfold Lib.itoa
    rw [if_neg (by omega)]; rfl
  refine (Tryz.strconv_Itoa (n : Int) (by omega) (by omega) w hL.pow).mono ?_
  rintro e w' ⟨rfl, k, os, rfl⟩
  exact ⟨by rw [e1], Lib.below_grow _ _ (Nat.le_refl _) k os⟩

theorem repeat_at (c : Nat) (hc : c ≤ 4) (w : World) :
    Calls Tryz.prog 44 #[.string { data := #[48] }, .int .i64 c] w fun e w' => e = .returned (.string (tx (ascC (List.replicate c 0)))) ∧ Below w.heap.size w w' := by
  have e1 : (⟨(Lib.repeatL [48] c).toArray⟩ : ByteArray) = tx (ascC (List.replicate c 0)) := by
    rw [repeat_zero, dg_tx]
    intro d hd
    rw [(List.mem_replicate.1 hd).2]; omega
  refine (Tryz.strings_Repeat { data := #[48] } c w (by omega) (by show 1 * c ≤ _; omega)).mono ?_
  rintro e w' ⟨rfl, hb⟩
  exact ⟨by rw [← e1], hb⟩

/-- A field of a form. -/
def fieldV (n k : Nat) (u : List Int) : Value := .agg #[.int .i64 n, .int .i64 k, .string (tx u)]

set_option maxHeartbeats 4000000 in
theorem decimal_at (n k : Nat) (u : List Int) (hn : n ≤ 9999) (hk : k ≤ 4) (hu : (encs u).length ≤ 100) (w : World) (hL : FLaid w) :
    Calls Tryz.prog 23 #[.agg #[.int .i64 n, .int .i64 k, .string (tx u)]] w fun e w' => e = .returned (.string (tx (decC n k u))) ∧ Below w.heap.size w w' := by
  have hb1 : Below w.heap.size w (w.alloc (.cells #[.int .i64 n, .int .i64 k, .string (tx u)] 47)) := (Below.refl _ w).alloc (Nat.le_refl _) _
  have hsz1 := size_alloc w (.cells #[.int .i64 n, .int .i64 k, .string (tx u)] 47)
  have HI := Lib.hid (itoa_at n hn _ (hL.next hb1))
  have k1 : (w.alloc (.cells #[.int .i64 n, .int .i64 k, .string (tx u)] 47)).cell? ⟨w.heap.size, 1, none⟩ = some (.int .i64 k) := by rw [World.cell?_alloc_at _ _ _ _ rfl]; rfl
  have k2 : (w.alloc (.cells #[.int .i64 n, .int .i64 k, .string (tx u)] 47)).cell? ⟨w.heap.size, 2, none⟩ = some (.string (tx u)) := by rw [World.cell?_alloc_at _ _ _ _ rfl]; rfl
  have HC : ∀ w2, Below (w.alloc (.cells #[.int .i64 n, .int .i64 k, .string (tx u)] 47)).heap.size (w.alloc (.cells #[.int .i64 n, .int .i64 k, .string (tx u)] 47)) w2 →
      w2.cell? ⟨w.heap.size, 1, none⟩ = some (.int .i64 k) ∧ w2.cell? ⟨w.heap.size, 2, none⟩ = some (.string (tx u)) ∧ Below w.heap.size w w2 ∧ w.heap.size < w2.heap.size := by
    intro w2 h2
    refine ⟨?_, ?_, hb1.trans (h2.mono (by rw [hsz1]; omega)), by have := h2.size; omega⟩
    · rw [h2.cell (p := ⟨w.heap.size, 1, none⟩) (show w.heap.size < _ by rw [hsz1]; omega)]; exact k1
    · rw [h2.cell (p := ⟨w.heap.size, 2, none⟩) (show w.heap.size < _ by rw [hsz1]; omega)]; exact k2
  have HC := Lib.hid HC
  have hlen := asc_len (digs n) (digs_le n)
  have hl4 := digs_len4 hn
  have hl1 := digs_len_pos n
  have hts := tx_size (ascC (digs n))
  rw [hlen] at hts
  have hx1 := add_tx (ascC (List.replicate (k - (digs n).length) 0)) (ascC (digs n)) (by
    rw [hlen, asc_len _ (fun d hd => by rw [(List.mem_replicate.1 hd).2]; omega), List.length_replicate]; omega)
  have hx2 := add_tx (ascC (List.replicate (k - (digs n).length) 0) ++ ascC (digs n)) u (by
    rw [encs_append, List.length_append, hlen, asc_len _ (fun d hd => by rw [(List.mem_replicate.1 hd).2]; omega), List.length_replicate]; omega)
  have hres : ascC (List.replicate (k - (digs n).length) 0) ++ ascC (digs n) ++ u = decC n k u := by
    unfold decC pad
    rw [ascC_map, ascC_map, ascC_map, List.map_append]
  rw [hres] at hx2
  have HR := Lib.hid (repeat_at (k - (digs n).length) (by omega))
  obtain ⟨z, hz⟩ : ∃ z : Int, ((k - (digs n).length : Nat) : Int) = z := ⟨_, rfl⟩
  have hw : IntKind.i64.wrap ((k : Int) - (digs n).length) = (k : Int) - (digs n).length := IntWalk.i64_in _ ⟨by omega, by omega⟩
  have hm : max 0 ((k : Int) - (digs n).length) = z := by omega
  rw [hz] at HR
  obtain ⟨L, hLn⟩ : ∃ L, (digs n).length = L := ⟨_, rfl⟩
  rw [hLn] at hx1 hx2 hl4 hl1 hts HR hz hw hm
  clear hz
  generalize ascC (List.replicate (k - L) 0) = Z at *
  generalize ascC (digs n) = D at *
  generalize decC n k u = R at *
  clear hres hLn hlen hsz1 k1 k2 hb1 hL
  go_enter Tryz.func23, Tryz.ntmps23
  go_wp2_with (go_at_call 43; refine HI.out.mono ?_; rintro e w2 ⟨rfl, hb2⟩)
  obtain ⟨q1, q2, hb3, hs3⟩ := HC.out w2 hb2
  clear hb2 HC HI
  go_region_with (go_at_call 44; refine (HR.out _).mono ?_; rintro e w3 ⟨rfl, hb4⟩; have q3 : w3.cell? ⟨w.heap.size, 2, none⟩ = some (.string (tx u)) := (hb4.cell (p := ⟨w.heap.size, 2, none⟩) hs3).trans q2)
  all_goals
    go_wp2
    go_ret
    exact ⟨rfl, hb3.drew.trans (hb4.mono hb3.size)⟩

end Go.Proofs.YteelmjmiankflaaGreatDoor.Cal

set_option linter.unusedVariables false
set_option linter.unusedSimpArgs false
namespace Go.Proofs.YteelmjmiankflaaGreatDoor.Cal
open Go Go.RowKit Go.Proofs.YteelmjmiankflaaGreatDoor.Kit Go.Proofs.YteelmjmiankflaaGreatDoor.Utf
open Go.Proofs.YteelmjmiankflaaGreatDoor.Num

theorem kanjiN_at (n : Nat) (hn : n ≤ 9999) (w : World) (hL : FLaid w) :
    Calls Tryz.prog 49 #[.string (tx (ascC (digs n)))] w fun e w' => e = .returned (.tuple #[.string (tx (kanjiC (digs n))), .bool true]) ∧ Below w.heap.size w w' := by
  have hd := digs_DS hn
  have h := kanji_any (dg (digs n)) w (by rw [dg_size]; have := digs_len4 hn; unfold maxLen; omega) hL.num
  rw [wOut_dg _ hd, isDec_dg hd, dg_tx _ hd.2.2.1] at h
  exact h

theorem kanji_at (n k : Nat) (u : List Int) (hn : n ≤ 9999) (hu : (encs u).length ≤ 100) (w : World) (hL : FLaid w) :
    Calls Tryz.prog 32 #[.agg #[.int .i64 n, .int .i64 k, .string (tx u)]] w fun e w' => e = .returned (.string (tx (kanC n k u))) ∧ Below w.heap.size w w' := by
  have hb1 : Below w.heap.size w (w.alloc (.cells #[.int .i64 n, .int .i64 k, .string (tx u)] 47)) := (Below.refl _ w).alloc (Nat.le_refl _) _
  have hsz1 := size_alloc w (.cells #[.int .i64 n, .int .i64 k, .string (tx u)] 47)
  have HI := Lib.hid (itoa_at n hn _ (hL.next hb1))
  have k2 : (w.alloc (.cells #[.int .i64 n, .int .i64 k, .string (tx u)] 47)).cell? ⟨w.heap.size, 2, none⟩ = some (.string (tx u)) := by rw [World.cell?_alloc_at _ _ _ _ rfl]; rfl
  have HC : ∀ w2, Below (w.alloc (.cells #[.int .i64 n, .int .i64 k, .string (tx u)] 47)).heap.size (w.alloc (.cells #[.int .i64 n, .int .i64 k, .string (tx u)] 47)) w2 →
      w2.cell? ⟨w.heap.size, 2, none⟩ = some (.string (tx u)) ∧ Below w.heap.size w w2 ∧ w.heap.size < w2.heap.size := by
    intro w2 h2
    refine ⟨?_, hb1.trans (h2.mono (by rw [hsz1]; omega)), by have := h2.size; omega⟩
    rw [h2.cell (p := ⟨w.heap.size, 2, none⟩) (show w.heap.size < _ by rw [hsz1]; omega)]; exact k2
  have HC := Lib.hid HC
  have HK := Lib.hid (fun W hW => kanjiN_at n hn W hW)
  have hx2 := add_tx (kanjiC (digs n)) u (by have := size_kanji (digs_DS hn); rw [tx_size] at this; omega)
  have hres : kanjiC (digs n) ++ u = kanC n k u := rfl
  rw [hres] at hx2
  generalize ascC (digs n) = D at *
  generalize kanC n k u = R at *
  generalize kanjiC (digs n) = K at *
  clear hsz1 k2 hb1 hres
  go_enter Tryz.func32, Tryz.ntmps32
  go_wp2_with (first
    | (go_at_call 43; refine HI.out.mono ?_; rintro e w2 ⟨rfl, hb2⟩
       obtain ⟨q2, hb3, hs3⟩ := HC.out w2 hb2
       clear hb2 HC HI)
    | (go_at_call 49; refine (HK.out _ (hL.next hb3)).mono ?_; rintro e w3 ⟨rfl, hb4⟩
       have q3 : w3.cell? ⟨w.heap.size, 2, none⟩ = some (.string (tx u)) := (hb4.cell (p := ⟨w.heap.size, 2, none⟩) hs3).trans q2))
  go_ret
  exact ⟨rfl, hb3.trans (hb4.mono hb3.size)⟩

/-- inEra's function value. -/
theorem inEra_at (F : FuncId) (w : World) :
    Calls Tryz.prog 33 #[.func (.func F) #[] #[]] w fun e w' => e = .returned (.func (.func 50) #[] #[.pointer (some ⟨w.heap.size, 0, none⟩)]) ∧ w' = w.alloc (.cells #[.func (.func F) #[] #[]] 45) := by
  go_enter Tryz.func33, Tryz.ntmps33
  go_wp2
  go_ret
  exact ⟨rfl, rfl⟩

/-- The units of fields. -/
def unitL : List (List Int) := [[24180], [26376], [26085], [47], [45], []]
theorem unit_len : ∀ u ∈ unitL, (encs u).length ≤ 100 := by decide
theorem unit_valid : ∀ u ∈ unitL, ∀ c ∈ u, validRune c = true := by decide
theorem unit_year : ∀ u ∈ unitL, ¬ u = [24180] → ((tx u).toList == [229, 185, 180]) = false := by decide +kernel

/-- A function that writes fields. -/
def FieldFn (F : FuncId) (caps : Array Value) (out : Nat → Nat → List Int → List Int) (Inv : World → Prop) : Prop :=
  ∀ (n k : Nat) (u : List Int) (W : World), n ≤ 9999 → k ≤ 4 → u ∈ unitL → FLaid W → Inv W →
    Calls Tryz.prog F (#[.agg #[.int .i64 n, .int .i64 k, .string (tx u)]] ++ caps) W fun e W' => e = .returned (.string (tx (out n k u))) ∧ Below W.heap.size W W'

theorem decimal_fn : FieldFn 23 #[] decC (fun _ => True) := fun n k u W hn hk hu hL _ => decimal_at n k u hn hk (unit_len u hu) W hL
theorem kanji_fn : FieldFn 32 #[] kanC (fun _ => True) := fun n k u W hn hk hu hL _ => kanji_at n k u hn (unit_len u hu) W hL

theorem cell_lt {w : World} {a : Addr} {v : Value} (h : w.cell? a = some v) : a.block < w.heap.size := by
  unfold World.cell? at h
  cases hq : w.heap[a.block]? with
  | none => simp [hq] at h
  | some o => exact (Array.getElem?_eq_some_iff.1 hq).1

theorem inEra1_fn (F : FuncId) (out : Nat → Nat → List Int → List Int) (hF : FieldFn F #[] out (fun _ => True)) (eF : ∀ args w, (callFunc F args).run Tryz.prog w = .ok (.enter F args) w) (p : Nat) :
    FieldFn 50 #[.pointer (some ⟨p, 0, none⟩)] (eraC out) (fun W => W.cell? ⟨p, 0, none⟩ = some (.func (.func F) #[] #[])) := by
  intro n k u w hn hk hu hL hI
  have hb1 : Below w.heap.size w (w.alloc (.cells #[.int .i64 n, .int .i64 k, .string (tx u)] 47)) := (Below.refl _ w).alloc (Nat.le_refl _) _
  have hI1 : (w.alloc (.cells #[.int .i64 n, .int .i64 k, .string (tx u)] 47)).cell? ⟨p, 0, none⟩ = some (.func (.func F) #[] #[]) := (cell_old _ _ _ _ (cell_lt hI)).trans hI
  have HF := Lib.hid (hF n k u _ hn hk hu (hL.next hb1) trivial)
  by_cases h1 : n = 1
  · by_cases h2 : u = [24180]
    · subst h1 h2
      have e : tx [24180] = { data := #[229, 185, 180] } := by decide +kernel
      have e2 : tx (eraC out 1 k [24180]) = { data := #[229, 133, 131, 229, 185, 180] } := by unfold eraC; rw [if_pos ⟨rfl, rfl⟩]; decide +kernel
      rw [e] at hb1
      rw [e2, e]
      clear HF hI1
      go_enter Tryz.func50, Tryz.ntmps50
      go_wp2
      go_ret
      exact ⟨rfl, hb1⟩
    · have ht := unit_year u hu h2
      have e2 : eraC out n k u = out n k u := by unfold eraC; rw [if_neg (fun h => h2 h.2)]
      have hn1 : ((n : Int) == 1) = true := by simp; omega
      rw [e2]
      clear h1 h2 e2 hu
      go_enter Tryz.func50, Tryz.ntmps50
      go_wp2_with (refine HF.out.mono ?_; rintro e w2 ⟨rfl, hb2⟩)
      go_ret
      exact ⟨rfl, hb1.trans (hb2.mono hb1.size)⟩
  · have hn1 : ((n : Int) == 1) = false := by simp; omega
    have e2 : eraC out n k u = out n k u := by unfold eraC; rw [if_neg (fun h => h1 h.1)]
    rw [e2]
    clear e2 hu h1
    go_enter Tryz.func50, Tryz.ntmps50
    go_wp2_with (refine HF.out.mono ?_; rintro e w2 ⟨rfl, hb2⟩)
    go_ret
    exact ⟨rfl, hb1.trans (hb2.mono hb1.size)⟩

end Go.Proofs.YteelmjmiankflaaGreatDoor.Cal

set_option linter.unusedVariables false
set_option linter.unusedSimpArgs false
namespace Go.Proofs.YteelmjmiankflaaGreatDoor.Cal
open Go Go.RowKit Go.Proofs.YteelmjmiankflaaGreatDoor.Kit Go.Proofs.YteelmjmiankflaaGreatDoor.Utf
open Go.Proofs.YteelmjmiankflaaGreatDoor.Num

abbrev Fld := Nat × Nat × List Int
def Fld.cells (f : Fld) : List Value := [.int .i64 f.1, .int .i64 f.2.1, .string (tx f.2.2)]
def joinC (out : Nat → Nat → List Int → List Int) (fs : List Fld) : List Int := fs.flatMap fun f => out f.1 f.2.1 f.2.2
/-- Fields lie in memory. -/
def FRow (fb : Nat) (fs : List Fld) (w : World) : Prop := ∀ i f, fs[i]? = some f → w.rangeAt fb (i * 3) (Fld.cells f)
def FOk (f : Fld) : Prop := f.1 ≤ 9999 ∧ f.2.1 ≤ 4 ∧ f.2.2 ∈ unitL

theorem info_field : (Tryz.prog.info? 47).map (·.size) = some 3 := by kernel_rfl
theorem FRow.below {B fb : Nat} {fs : List Fld} {w w' : World} (h : FRow fb fs w) (hb : Below B w w') (hB : fb < B) : FRow fb fs w' := by
  intro i f hf j v hv
  rw [hb.cell (p := ⟨fb, i * 3 + j, none⟩) hB]
  exact h i f hf j v hv

set_option maxHeartbeats 4000000 in
theorem join_at (F : FuncId) (caps : Array Value) (out : Nat → Nat → List Int → List Int) (Inv : World → Prop) (hF : FieldFn F caps out Inv) (eF : ∀ args w, (callFunc F args).run Tryz.prog w = .ok (.enter F args) w)
    (hlen : ∀ n k u, n ≤ 9999 → k ≤ 4 → u ∈ unitL → (encs (out n k u)).length ≤ 400) (fs : List Fld) (hfs : ∀ f ∈ fs, FOk f) (n : Nat) (hn : fs.length = n) (h3 : n ≤ 3) (fb : Nat) (w : World) (hrow : FRow fb fs w) (hfb : fb < w.heap.size)
    (hL : FLaid w) (hI : Inv w) (hst : ∀ W W', Inv W → Below w.heap.size W W' → w.heap.size ≤ W.heap.size → Inv W') :
    Calls Tryz.prog 22 #[.func (.func F) #[] caps, .slice (some ⟨fb, 0, none⟩) n n] w fun e w' => e = .returned (.string (tx (joinC out fs))) ∧ Below w.heap.size w w' := by
  obtain ⟨b, hbd⟩ : ∃ b, w.heap.size = b := ⟨_, rfl⟩
  have hb0 : Below w.heap.size w (w.alloc (.cells #[.pointer none, .slice none 0 0] 68)) := (Below.refl _ w).alloc (Nat.le_refl _) _
  have hB0 : Lib.IsBuilderF 68 5 b b (Lib.byteCells (encs [])) (w.alloc (.cells #[.pointer none, .slice none 0 0] 68)) := builder_new 68 5 w b hbd.symm
  have hs0 : b + 1 ≤ (w.alloc (.cells #[.pointer none, .slice none 0 0] 68)).heap.size := by rw [size_alloc, hbd]; exact Nat.le_refl _
  have HF := Lib.hid hF; clear hF
  have HLEN := Lib.hid hlen; clear hlen
  have HFS := Lib.hid hfs; clear hfs
  have HN := Lib.hid hn; clear hn
  have HROW := Lib.hid hrow; clear hrow
  have HST := Lib.hid hst; clear hst
  have HI := Lib.hid hI; clear hI
  go_enter Tryz.func22, Tryz.ntmps22
  go_wp2
  obtain ⟨W, hW⟩ : ∃ W, w.alloc (.cells #[.pointer none, .slice none 0 0] 68) = W := ⟨_, rfl⟩
  rw [hW] at hb0 hB0 hs0 ⊢
  clear hW
  go_loopw [10] (fun i wr => ∃ (k : Nat) (acc : List Int), i = .int .i64 k ∧ k ≤ n ∧ Lib.IsBuilderF 68 5 b b (Lib.byteCells (encs acc)) wr ∧ Below w.heap.size w wr ∧ Hid (acc ++ joinC out (fs.drop k) = joinC out fs) ∧ (encs acc).length ≤ 400 * k ∧ b + 1 ≤ wr.heap.size) (fun i _ => n - (intOf i).toNat)
  case atStart => exact ⟨0, [], rfl, Nat.zero_le _, hB0, hb0, Lib.hid (by rw [List.drop_zero, List.nil_append]), by simp [encs], hs0⟩
  case round =>
    obtain ⟨k, acc, rfl, hk, hBl, hb, heq, hacc, hsw⟩ := hrel
    by_cases hkn : k < n
    · have hkf : k < fs.length := by rw [HN.out]; exact hkn
      have hget : fs[k]? = some fs[k] := List.getElem?_eq_getElem hkf
      have hcons : fs.drop k = fs[k] :: fs.drop (k + 1) := List.drop_eq_getElem_cons hkf
      have hok := HFS.out fs[k] (List.getElem_mem hkf)
      have hr := (HROW.out.below hb hfb) k _ hget
      obtain ⟨f, hf⟩ : ∃ f, fs[k] = f := ⟨_, rfl⟩
      rw [hf] at hcons hok hr
      obtain ⟨m, q, u⟩ := f
      obtain ⟨o1, o2, o3⟩ := hok
      have heq2 : (acc ++ out m q u) ++ joinC out (fs.drop (k + 1)) = joinC out fs := by
        rw [← heq.out, hcons, List.append_assoc]; rfl
      have hol := HLEN.out m q u o1 o2 o3
      have HR := Lib.hid hr
      have HQ := Lib.hid heq2
      clear hr hget hcons hf heq2 heq
      have hk0 : (0 : Int) ≤ k := by omega
      have hk1 : (k : Int) < n := by omega
      have hb4' : Below wr.heap.size wr (wr.alloc (.cells #[.int .i64 m, .int .i64 q, .string (tx u)] 47)) := (Below.refl _ wr).alloc (Nat.le_refl _) _
      have hs4 := size_alloc wr (.cells #[.int .i64 m, .int .i64 q, .string (tx u)] 47)
      have hb4 : Below w.heap.size w (wr.alloc (.cells #[.int .i64 m, .int .i64 q, .string (tx u)] 47)) := hb.trans (hb4'.mono hb.size)
      have hBl4 := hBl.alloc (.cells #[.int .i64 m, .int .i64 q, .string (tx u)] 47)
      have hI4 := HST.out w _ HI.out hb4 (Nat.le_refl _)
      have HC := Lib.hid (HF.out m q u _ o1 o2 o3 (hL.next hb4) hI4)
      have hs4' : b + 1 ≤ (wr.alloc (.cells #[.int .i64 m, .int .i64 q, .string (tx u)] 47)).heap.size := by omega
      obtain ⟨o, ho⟩ : ∃ o, out m q u = o := ⟨_, rfl⟩
      rw [ho] at HC HQ hol
      have HB4 := Lib.hid hb4
      have HBl4 := Lib.hid hBl4
      have HS4 := Lib.hid hs4'
      clear hb4' hs4 hb4 hBl4 hI4 hs4' ho hBl
      go_wp2_with (first
        | (refine wpList_load_mid rfl 47 (.tmp 12) rfl fb (k * 3) rfl [.int .i64 m, .int .i64 q, .string (tx u)] _ HR.out Tryz.underlying47 rfl info_field ?_)
        | (go_at_call 41; refine (Tryz.writeString b b (Lib.byteCells (encs acc)) (tx o) _ hBl5 (by rw [Lib.byteCells_length, tx_size]; omega) (by omega)).mono ?_; rintro e w6 ⟨rfl, hA6, hb6, ho6⟩)
        | (refine HC.out.mono ?_
           rintro e w5 ⟨rfl, hb5⟩
           have hBl5 := builder_kept HBl4.out (fun j h1 h2 => hb5.block j h2)
           have hs5 : b + 1 ≤ w5.heap.size := Nat.le_trans HS4.out hb5.size
           have hb5' := HB4.out.trans (hb5.mono HB4.out.size)
           clear hb5))
      have hBl6 : Lib.IsBuilderF 68 5 b b (Lib.byteCells (encs (acc ++ o))) w6 := by
        rw [encs_append, byteCells_append, ← tx_cells]; exact .inr hA6
      have hsz6 : b + 1 ≤ w6.heap.size := by have := hb6.size; omega
      have hb7 := hb5'.trans (hb6.mono (by omega))
      go_roundw
      case rel => exact ⟨k + 1, acc ++ o, by go_num, by omega, hBl6, hb7, HQ, by rw [encs_append, List.length_append]; omega, hsz6⟩
      case measure => simp [intOf]; omega
    · obtain rfl : k = n := by omega
      have hall : acc = joinC out fs := by
        rw [← heq.out, List.drop_of_length_le (by rw [HN.out]; omega)]
        show acc = acc ++ []
        rw [List.append_nil]
      have HA := Lib.hid hall
      clear hall heq hkn
      go_wp2_with (go_at_call 42; refine (Tryz.Builder_String_any_k b b (encs acc) _ hBl (by omega)).mono ?_; rintro e w8 ⟨rfl, _, hb8, _⟩)
      go_ret
      exact ⟨by rw [← HA.out]; rfl, hb.trans (hb8.mono (by omega))⟩

end Go.Proofs.YteelmjmiankflaaGreatDoor.Cal
