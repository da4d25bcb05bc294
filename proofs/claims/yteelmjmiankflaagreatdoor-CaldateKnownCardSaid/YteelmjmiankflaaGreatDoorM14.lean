/-
  Joined texts: NumAC, NumAD, NumAE, NumAF.
-/
import Derived.Test.YteelmjmiankflaaGreatDoorM13
import Derived.Test.YteelmjmiankflaaGreatDoorM8
import Derived.Lib.ConvBytes
set_option linter.unusedVariables false
set_option linter.unusedSimpArgs false
namespace Go.Proofs.YteelmjmiankflaaGreatDoor.Num
open Go Go.RowKit Go.Proofs.YteelmjmiankflaaGreatDoor.Kit Go.Proofs.YteelmjmiankflaaGreatDoor.Utf

/-- The first of a list that is there and is c, counted from k. -/
def ixG (c : List UInt8) : Nat → List (List UInt8) → Int
  | _, [] => -1
  | k, x :: t => if x ≠ [] ∧ x = c then k else ixG c (k + 1) t
def ixC (L : List (List UInt8)) (c : List UInt8) : Int := ixG c 0 L
theorem ixG_le (c : List UInt8) : ∀ (L : List (List UInt8)) (k : Nat), -1 ≤ ixG c k L ∧ ixG c k L < k + L.length ∨ ixG c k L = -1 := by
  intro L
  induction L with
  | nil => intro k; right; rfl
  | cons x t ih =>
    intro k
    unfold ixG
    split
    · left; simp; omega
    · rcases ih (k + 1) with h | h
      · left; simp; omega
      · right; exact h
theorem ixC_le (L : List (List UInt8)) (c : List UInt8) : -1 ≤ ixC L c ∧ (ixC L c < L.length ∨ ixC L c = -1) := by
  unfold ixC
  rcases ixG_le c L 0 with h | h
  · exact ⟨h.1, .inl (by have := h.2; omega)⟩
  · rw [h]; exact ⟨Int.le_refl _, .inr rfl⟩

set_option maxHeartbeats 1000000 in
theorem index_any (L : List (List UInt8)) (n : Nat) (hn : L.length = n) (hn10 : n ≤ 10) (hL3 : ∀ x ∈ L, x.length = 0 ∨ x.length = 3) (g : Nat) (s : ByteArray) (at_ : Int) (h0 : 0 ≤ at_) (h3 : at_ + 3 ≤ s.size) (hs : s.size ≤ 140737488355000) (w : World) (hat : AtStrs w g L) :
    Calls Tryz.prog 102 #[.slice (some ⟨g, 0, none⟩) n n, .string s, .int .i64 at_] w fun e w' => e = .returned (.int .i64 (ixC L (((bs s).drop at_.toNat).take 3))) ∧ ∃ z, w' = w.drewN z := by
  obtain ⟨c, hc⟩ : ∃ c, ((bs s).drop at_.toNat).take 3 = c := ⟨_, rfl⟩
  rw [hc]
  have HC := Lib.hid hc; have HL3 := Lib.hid hL3; have HN := Lib.hid hn; have HAT := Lib.hid hat
  clear hc hL3 hn hat
  go_enter Tryz.func102, Tryz.ntmps102
  go_wp2
  go_loopw [7] (fun iv wr => ∃ i : Nat, iv = .int .i64 i ∧ i ≤ n ∧ Hid (ixC L c = ixG c i (L.drop i)) ∧ ∃ z, wr = w.drewN z) (fun iv _ => n - (intOf iv).toNat)
  case atStart => exact ⟨0, rfl, Nat.zero_le _, Lib.hid rfl, 0, rfl⟩
  case round =>
    obtain ⟨i, rfl, hi, hix, z, rfl⟩ := hrel
    by_cases hlt : i < n
    · have hil : i < L.length := by rw [HN.out]; exact hlt
      have hcell : w.cell? ⟨g, i, none⟩ = some (.string ⟨L[i].toArray⟩) := HAT.out.cell (List.getElem?_eq_getElem hil)
      have hl3 := HL3.out L[i] (List.getElem_mem hil)
      have hcons : L.drop i = L[i] :: L.drop (i + 1) := List.drop_eq_getElem_cons hil
      obtain ⟨x, hx⟩ : ∃ x, L[i] = x := ⟨_, rfl⟩
      rw [hx] at hcell hl3 hcons
      obtain ⟨b, hb⟩ : ∃ b, ByteArray.mk x.toArray = b := ⟨_, rfl⟩
      have hbx : bs b = x := by rw [← hb]
      have hbz : b.size = x.length := by rw [← hbx, bs_len]
      rw [hb] at hcell
      have hst := hix.out
      rw [hcons] at hst
      unfold ixG at hst
      have i0 : (0 : Int) ≤ (i : Int) := by omega
      have i1 : (i : Int) < (n : Int) := by omega
      by_cases hz : x.length = 0
      · have hxe : x = [] := List.eq_nil_of_length_eq_zero hz
        rw [if_neg (fun e => e.1 hxe)] at hst
        have HX := Lib.hid hst
        rw [hz] at hbz
        have hbe : b = { data := #[] } := by rw [← hb, hxe]
        subst hbe
        clear hil hx hb hbx hst hcons hl3 hz hxe hix hbz
        go_wp2
        go_quiet (fail)
        go_wp2
        go_roundw
        case rel => exact ⟨i + 1, by go_num, by omega, HX, by first | exact ⟨_, rfl⟩ | exact ⟨_, World.drewN_drewN _ _ _⟩⟩
        case measure => simp [intOf] <;> omega
      · have hx3 : x.length = 3 := by rcases hl3 with h | h; exact absurd h hz; exact h
        rw [hx3] at hbz
        have hcut : s.extract at_.toNat (at_.toNat + 3) = ⟨c.toArray⟩ := by
          apply ba_ext
          rw [Lib.extract_data]
          show ((bs s).drop at_.toNat).take (at_.toNat + 3 - at_.toNat) = _
          rw [show at_.toNat + 3 - at_.toNat = 3 by omega, HC.out]
        have hsl : ∀ w, (Instr.slice 9 (.string s) (some (.int .i64 at_)) (some (.int .i64 (at_ + 3))) none).run Tryz.prog w = .ok (.string ⟨c.toArray⟩) w := fun w => by
          have e2 : (at_ + 3).toNat = at_.toNat + 3 := by omega
          rw [run_slice_string_if w 9 _ .i64 .i64 _ _ Tryz.underlying9, e2, hcut]
          rw [if_pos (by omega), if_pos (by omega)]
        have heq : ((⟨c.toArray⟩ : ByteArray).toList == b.toList) = decide (x = c) := by
          rw [ByteArray.toList_eq, ByteArray.toList_eq]
          show (c.toArray.toList == bs b) = _
          rw [hbx, List.toList_toArray]
          by_cases e : x = c
          · rw [e]; simp
          · rw [decide_eq_false e]; simp only [beq_eq_false_iff_ne]; exact fun h => e h.symm
        obtain ⟨cb, hcb⟩ : ∃ cb, ByteArray.mk c.toArray = cb := ⟨_, rfl⟩
        rw [hcb] at heq
        simp only [hcb] at hsl
        have hb3 : (b.size : Int) = 3 := by omega
        have hxn : x ≠ [] := fun e => by rw [e] at hx3; cases hx3
        by_cases e : x = c
        · rw [decide_eq_true e] at heq
          rw [if_pos ⟨hxn, e⟩] at hst
          have HX := Lib.hid hst
          clear hil hx hb hbx hst hcons hl3 hz hx3 hix hcut hcb hxn e
          go_wp2
          go_quiet (fail)
          go_wp2
          go_ret
          exact ⟨by rw [HX.out]; rfl, by first | exact ⟨_, rfl⟩ | exact ⟨_, World.drewN_drewN _ _ _⟩⟩
        · rw [decide_eq_false e] at heq
          rw [if_neg (fun h => e h.2)] at hst
          have HX := Lib.hid hst
          clear hil hx hb hbx hst hcons hl3 hz hx3 hix hcut hcb hxn e
          go_wp2
          go_quiet (fail)
          go_wp2
          go_roundw
          case rel => exact ⟨i + 1, by go_num, by omega, HX, by first | exact ⟨_, rfl⟩ | exact ⟨_, World.drewN_drewN _ _ _⟩⟩
          case measure => simp [intOf] <;> omega
    · have hin : i = n := by omega
      have hfin : ixC L c = -1 := by rw [hix.out, List.drop_of_length_le (by rw [HN.out]; omega)]; rfl
      have HF := Lib.hid hfin
      clear hfin hix hlt
      subst hin
      go_wp2
      go_ret
      exact ⟨by rw [HF.out]; rfl, _, rfl⟩

theorem len3_pd : ∀ x ∈ lPd, x.length = 0 ∨ x.length = 3 := by decide
theorem ix_pd : ∀ d, d ≤ 9 → ixC lPd (encs [pd d]) = (d : Int) := by decide

theorem posC_len (ds : List Nat) (h : ∀ d ∈ ds, d ≤ 9) : (encs (posC ds)).length = 3 * ds.length := by
  rw [posC_map]
  induction ds with
  | nil => rfl
  | cons d ds ih =>
    rw [List.map_cons, encs_cons, List.length_append, ih (fun x hx => h x (List.mem_cons_of_mem _ hx)), List.length_cons]
    have := len_pd d (h d (List.mem_cons_self ..))
    rw [encs_cons, List.length_append] at this
    have h0 : (encs ([] : List Int)).length = 0 := rfl
    omega
theorem posC_at (ds : List Nat) (h : ∀ d ∈ ds, d ≤ 9) (k : Nat) (hk : k < ds.length) : ((encs (posC ds)).drop (3 * k)).take 3 = encs [pd ds[k]] := by
  have e : posC ds = posC (ds.take k) ++ ([pd ds[k]] ++ posC (ds.drop (k + 1))) := by
    rw [posC_map, posC_map, posC_map, List.map_drop, List.map_take]
    have h1 : (ds.map pd).drop k = pd ds[k] :: (ds.map pd).drop (k + 1) := by
      rw [List.drop_eq_getElem_cons (by simpa using hk), List.getElem_map]
    rw [List.singleton_append, ← h1, List.take_append_drop]
  have l1 := posC_len (ds.take k) (fun x hx => h x (List.mem_of_mem_take hx))
  have l2 : (ds.take k).length = k := by rw [List.length_take]; omega
  rw [l2] at l1
  have l3 := len_pd ds[k] (h _ (List.getElem_mem hk))
  rw [e, encs_append, encs_append, List.drop_append_of_le_length (by omega), List.drop_of_length_le (by omega), List.nil_append, List.take_append_of_le_length (by omega), List.take_of_length_le (by omega)]

/-- What digitwise returns: some digits; where plain digits stand one after the other, they. -/
def DwPost (s : ByteArray) (w : World) (e : Ending) (w' : World) : Prop :=
  ∃ es : List Nat, e = .returned (.string (dg es)) ∧ es.length ≤ s.size ∧ (∀ ds, (∀ d ∈ ds, d ≤ 9) → s = tx (posC ds) → es = ds) ∧ Below w.heap.size w w'

set_option maxHeartbeats 1000000 in
theorem digitwise_any (s : ByteArray) (w : World) (hs : s.size ≤ 140737488355000) :
    Calls Tryz.prog 77 #[.string s] w (DwPost s w) := by
  go_enter Tryz.func77, Tryz.ntmps77
  go_wp2
  go_loopw [3, 4, 5] (fun ov iv _ wr => ∃ (p : Int) (es : List Nat), iv = .int .i64 p ∧ ov = Value.string (dg es) ∧ 0 ≤ p ∧ p ≤ s.size ∧ (es.length : Int) ≤ p ∧ Hid (∃ k : Nat, p = 3 * (k : Int) ∧ ∀ ds, (∀ d ∈ ds, d ≤ 9) → s = tx (posC ds) → es = ds.take k) ∧ Below w.heap.size w wr) (fun _ iv _ _ => s.size - (intOf iv).toNat)
  case atStart => exact ⟨0, [], rfl, rfl, Int.le_refl _, by omega, by simp, Lib.hid ⟨0, rfl, fun _ _ _ => rfl⟩, Below.refl _ _⟩
  case round =>
    obtain ⟨p, es, rfl, rfl, hp0, hps, hel, hsp, hb⟩ := hrel
    by_cases hlt : p + 3 ≤ s.size
    · have HI := Lib.hid (fun g w hat => index_any lPd 10 rfl (by omega) len3_pd g s p hp0 hlt hs w hat)
      have hle := ixC_le lPd (((bs s).drop p.toNat).take 3)
      rw [show ((lPd.length : Nat) : Int) = 10 from rfl] at hle
      have hne : ∀ ds, (∀ d ∈ ds, d ≤ 9) → s = tx (posC ds) → ∃ k : Nat, p = 3 * (k : Int) ∧ ∃ hk : k < ds.length, es = ds.take k ∧ ixC lPd (((bs s).drop p.toNat).take 3) = (ds[k] : Int) := fun ds h9 he => by
        obtain ⟨k, hk, hall⟩ := hsp.out
        have hz : s.size = 3 * ds.length := by rw [he, tx_size, posC_len ds h9]
        have hkl : k < ds.length := by omega
        refine ⟨k, hk, hkl, hall ds h9 he, ?_⟩
        rw [show p.toNat = 3 * k by omega, he, bs_tx, posC_at ds h9 k hkl, ix_pd _ (h9 _ (List.getElem_mem hkl))]
      obtain ⟨k0, hk0, _⟩ := hsp.out
      obtain ⟨r, hr⟩ : ∃ r, ixC lPd (((bs s).drop p.toNat).take 3) = r := ⟨_, rfl⟩
      rw [hr] at HI hle
      simp only [hr] at hne
      by_cases h0 : 0 ≤ r
      · obtain ⟨d, rfl⟩ : ∃ d : Nat, r = (d : Int) := ⟨r.toNat, by omega⟩
        have hd : d ≤ 9 := by omega
        have hsl := fun w => cut_digit d hd .i64 .i64 (d : Int) ((d : Int) + 1) rfl rfl w
        have hadd : ∀ w, (Op.stringOp .add (dg es) (dg [d])).run Tryz.prog w = .ok (.string (dg (es ++ [d]))) w := fun w => by
          rw [← dg_append]
          exact run_string_add_sum (P := Tryz.prog) (w := w) _ _ (by rw [dg_size, dg_size]; simp; omega)
        have HQ := Lib.hid (show ∃ k : Nat, p + 3 = 3 * (k : Int) ∧ ∀ ds, (∀ d ∈ ds, d ≤ 9) → s = tx (posC ds) → es ++ [d] = ds.take k from ⟨k0 + 1, by omega, fun ds h9 he => by
          obtain ⟨k, hk, hkl, h1, h2⟩ := hne ds h9 he
          have : k = k0 := by omega
          subst this
          have h3 : d = ds[k] := by omega
          rw [List.take_succ_eq_append_getElem hkl, h1, h3]⟩)
        have d9 : (d : Int) ≤ 9 := by omega
        clear hr hne hle hk0 hsp
        go_wp2_with (first
          | (go_at_call 103; refine (plain_any _).mono ?_; rintro e w2 ⟨rfl, hat, hb2⟩; have hb3 := hb.trans (hb2.mono hb.size))
          | (go_at_call 102; refine (HI.out _ _ hat).mono ?_; rintro e w3 ⟨rfl, z, rfl⟩))
        have hb4 := hb3.trans ((below_drewN w2 z).mono hb3.size)
        go_roundw
        case rel => exact ⟨p + 3, es ++ [d], by go_num, rfl, by omega, by omega, by simp; omega, HQ, hb4⟩
        case measure => simp [intOf] <;> omega
      · have hrm : r = -1 := by omega
        subst hrm
        have HQ := Lib.hid (show ∃ k : Nat, p + 3 = 3 * (k : Int) ∧ ∀ ds, (∀ d ∈ ds, d ≤ 9) → s = tx (posC ds) → es = ds.take k from ⟨k0 + 1, by omega, fun ds h9 he => by
          obtain ⟨k, hk, hkl, h1, h2⟩ := hne ds h9 he
          omega⟩)
        clear hr hne hle hk0 hsp h0
        go_wp2_with (first
          | (go_at_call 103; refine (plain_any _).mono ?_; rintro e w2 ⟨rfl, hat, hb2⟩; have hb3 := hb.trans (hb2.mono hb.size))
          | (go_at_call 102; refine (HI.out _ _ hat).mono ?_; rintro e w3 ⟨rfl, z, rfl⟩))
        have hb4 := hb3.trans ((below_drewN w2 z).mono hb3.size)
        go_roundw
        case rel => exact ⟨p + 3, es, by go_num, rfl, by omega, by omega, by omega, HQ, hb4⟩
        case measure => simp [intOf] <;> omega
    · have HF := Lib.hid (show ∀ ds, (∀ d ∈ ds, d ≤ 9) → s = tx (posC ds) → es = ds from fun ds h9 he => by
        obtain ⟨k, hk, hall⟩ := hsp.out
        have hz : s.size = 3 * ds.length := by rw [he, tx_size, posC_len ds h9]
        rw [hall ds h9 he, List.take_of_length_le (by omega)])
      clear hsp
      go_wp2
      go_ret
      exact ⟨es, rfl, by omega, HF.out, hb⟩

end Go.Proofs.YteelmjmiankflaaGreatDoor.Num

set_option linter.unusedVariables false
set_option linter.unusedSimpArgs false
namespace Go.Proofs.YteelmjmiankflaaGreatDoor.Num
open Go Go.RowKit Go.Proofs.YteelmjmiankflaaGreatDoor.Kit Go.Proofs.YteelmjmiankflaaGreatDoor.Utf

/-- The digits read, the group and the unit. -/
abbrev GS := (Nat → Nat) × Nat × Nat
def gstep (st : GS) (t : Int × Int × Int) : GS :=
  if 0 < t.1 then (st.1, 4 * t.1.toNat, 0)
  else if 0 < t.2.1 then ((fun p => if p = st.2.1 + t.2.1.toNat ∧ st.1 p = 0 then 1 else st.1 p), st.2.1, t.2.1.toNat)
  else if 0 < t.2.2 then ((fun p => if p = st.2.1 + st.2.2 then t.2.2.toNat else st.1 p), st.2.1, st.2.2)
  else st
def tri (c : List UInt8) : Int × Int × Int := (ixC lGu c, max (ixC lPu c) (ixC lFu c), max (ixC lPd c) (ixC lFd c))
def gch (st : GS) (c : Int) : GS := gstep st (tri (enc c))
def back (st : GS) (cs : List Int) : GS := cs.foldr (fun c st => gch st c) st
def g0 : GS := (fun _ => 0, 0, 0)
theorem back_append (st : GS) (a b : List Int) : back st (a ++ b) = back (back st b) a := by unfold back; exact List.foldr_append
theorem back_cons (st : GS) (c : Int) (b : List Int) : back st (c :: b) = gch (back st b) c := rfl

theorem tri_pd : ∀ d, d ≤ 9 → 1 ≤ d → tri (enc (pd d)) = (-1, -1, (d : Int)) := by decide
theorem tri_fd : ∀ d, d ≤ 9 → 1 ≤ d → tri (enc (fd d)) = (-1, -1, (d : Int)) := by decide
theorem tri_pu : ∀ u, u ≤ 3 → 1 ≤ u → tri (enc ((pu u).getD 0 0)) = (-1, (u : Int), -1) := by decide
theorem tri_fu : ∀ u, u ≤ 3 → 1 ≤ u → tri (enc ((fu u).getD 0 0)) = (-1, (u : Int), -1) := by decide
theorem tri_gu : ∀ g, g ≤ 4 → 1 ≤ g → tri (enc ((gu g).getD 0 0)) = ((g : Int), -1, -1) := by decide
theorem tri_zero : tri (enc 38646) = (-1, -1, 0) := by decide

theorem gch_d {st : GS} {c : Int} {d : Nat} (h1 : 1 ≤ d) (h : tri (enc c) = (-1, -1, (d : Int))) : gch st c = ((fun p => if p = st.2.1 + st.2.2 then d else st.1 p), st.2.1, st.2.2) := by
  unfold gch gstep
  rw [h]
  simp only
  rw [if_neg (by omega), if_neg (by omega), if_pos (by omega), Int.toNat_natCast]
theorem gch_u {st : GS} {c : Int} {u : Nat} (h1 : 1 ≤ u) (h : tri (enc c) = (-1, (u : Int), -1)) : gch st c = ((fun p => if p = st.2.1 + u ∧ st.1 p = 0 then 1 else st.1 p), st.2.1, u) := by
  unfold gch gstep
  rw [h]
  simp only
  rw [if_neg (by omega), if_pos (by omega), Int.toNat_natCast]
theorem back_gu (st : GS) (g : Nat) (h4 : g ≤ 4) (h1 : 1 ≤ g) : back st (gu g) = (st.1, 4 * g, 0) := by
  rw [one_of (gu_of g h4 h1).1]
  show gch st _ = _
  unfold gch gstep
  rw [tri_gu g h4 h1]
  simp only
  rw [if_pos (by omega), Int.toNat_natCast]

/-- What a digit and its unit are read as, from the right. -/
def GoodB (h : Nat → Nat → List Int) : Prop :=
  ∀ (st : GS) d u, 1 ≤ d → d ≤ 9 → u ≤ 3 → st.1 (st.2.1 + u) = 0 → (u = 0 → st.2.2 = 0) → back st (h d u) = ((fun p => if p = st.2.1 + u then d else st.1 p), st.2.1, u)
theorem goodB_of {h U : Nat → Nat → List Int} {P : Nat → Int} (hP : ∀ d, d ≤ 9 → 1 ≤ d → tri (enc (P d)) = (-1, -1, (d : Int)))
    (U : Nat → List Int) (hU0 : U 0 = []) (hU : ∀ u, u ≤ 3 → 1 ≤ u → (U u).length = 1 ∧ tri (enc ((U u).getD 0 0)) = (-1, (u : Int), -1))
    (hh : ∀ d u, h d u = P d :: U u ∨ (d = 1 ∧ 0 < u ∧ h d u = U u)) : GoodB h := by
  intro st d u h1 h9 h3 hz hu0
  by_cases hu : u = 0
  · subst hu
    have e : h d 0 = [P d] := by
      rcases hh d 0 with e | ⟨_, e, _⟩
      · rw [e, hU0]
      · omega
    rw [e]
    show gch st (P d) = _
    rw [gch_d h1 (hP d h9 h1), hu0 rfl]
  · obtain ⟨l1, l2⟩ := hU u h3 (by omega)
    have e1 : back st (U u) = ((fun p => if p = st.2.1 + u then 1 else st.1 p), st.2.1, u) := by
      rw [one_of l1]
      show gch st _ = _
      rw [gch_u (by omega) l2]
      congr 1
      funext p
      by_cases hp : p = st.2.1 + u
      · subst hp; rw [if_pos ⟨rfl, hz⟩, if_pos rfl]
      · rw [if_neg (fun e => hp e.1), if_neg hp]
    rcases hh d u with e | ⟨rfl, _, e⟩
    · rw [e, back_cons, e1, gch_d h1 (hP d h9 h1)]
      simp only
      congr 1
      funext p
      by_cases hp : p = st.2.1 + u
      · rw [if_pos hp, if_pos hp]
      · rw [if_neg hp, if_neg hp, if_neg hp]
    · rw [e, e1]
theorem goodB_kp : GoodB kp := goodB_of (U := fun _ _ => []) tri_pd pu rfl (fun u h3 h1 => ⟨(pu_of u h3 h1).1, tri_pu u h3 h1⟩) (fun d u => by
  unfold kp
  by_cases e : d = 1 ∧ 0 < u
  · rw [if_pos e]; exact .inr ⟨e.1, e.2, rfl⟩
  · rw [if_neg e]; exact .inl rfl)
theorem goodB_fp : GoodB fp := goodB_of (U := fun _ _ => []) tri_fd fu rfl (fun u h3 h1 => ⟨(fu_of u h3 h1).1, tri_fu u h3 h1⟩) (fun d u => .inl rfl)

theorem back_units {h : Nat → Nat → List Int} (hg : GoodB h) : ∀ (ds : List Nat) (b : Bool), ds.length ≤ 20 → (∀ d ∈ ds, d ≤ 9) →
    (∀ p, (back g0 (units h b ds)).1 p = pl ds p) ∧ (ds.length % 4 ≠ 0 → b = true → (back g0 (units h b ds)).2.1 = 4 * (ds.length / 4)) := by
  intro ds
  induction ds with
  | nil => intro b _ _; exact ⟨fun p => (pl_nil p).symm, fun h => absurd rfl h⟩
  | cons d ds ih =>
    intro b hl h9
    rw [List.length_cons] at hl
    have hd9 : d ≤ 9 := h9 d (List.mem_cons_self ..)
    obtain ⟨i1, i2⟩ := ih (un b d ds.length) (by omega) (fun x hx => h9 x (List.mem_cons_of_mem _ hx))
    rw [units_cons, back_append]
    have inil : ds.length = 0 → back g0 (units h (un b d ds.length) ds) = g0 := fun e => by
      rw [List.eq_nil_of_length_eq_zero e]; rfl
    obtain ⟨st1, hst1⟩ : ∃ st1, back g0 (units h (un b d ds.length) ds) = st1 := ⟨_, rfl⟩
    rw [hst1] at i1 i2 inil ⊢
    obtain ⟨n, hn⟩ : ∃ n, ds.length = n := ⟨_, rfl⟩
    rw [hn] at i2 inil hl
    unfold uo
    rw [hn, back_append]
    -- the group's sign
    obtain ⟨st2, hst2⟩ : ∃ st2, back st1 (if n % 4 = 0 ∧ (b = true ∨ d ≠ 0) then gu (n / 4) else []) = st2 := ⟨_, rfl⟩
    have j1 : ∀ p, st2.1 p = pl ds p := fun p => by
      rw [← hst2]
      split
      · by_cases hq : n / 4 = 0
        · rw [hq]; exact i1 p
        · rw [back_gu st1 (n / 4) (by omega) (by omega)]; exact i1 p
      · exact i1 p
    have j2 : n % 4 = 0 → (b = true ∨ d ≠ 0) → st2.2.1 = 4 * (n / 4) ∧ st2.2.2 = 0 := fun h4 hbd => by
      rw [← hst2, if_pos ⟨h4, hbd⟩]
      by_cases hq : n / 4 = 0
      · rw [hq, inil (by omega)]; exact ⟨rfl, rfl⟩
      · rw [back_gu st1 (n / 4) (by omega) (by omega)]; exact ⟨rfl, rfl⟩
    have j3 : n % 4 ≠ 0 → (b = true ∨ d ≠ 0) → st2.2.1 = 4 * (n / 4) := fun h4 hbd => by
      rw [← hst2, if_neg (fun e => h4 e.1)]
      refine i2 h4 ?_
      unfold un
      rw [if_neg h4]
      rcases hbd with e | e
      · rw [e]; rfl
      · simp [e]
    rw [hst2]
    have hpl0 : pl ds n = 0 := pl_out ds n (by omega)
    by_cases hd0 : d = 0
    · rw [if_pos hd0]
      refine ⟨fun p => ?_, fun h4 hb => ?_⟩
      · rw [pl_cons, hn]
        show st2.1 p = _
        rw [j1 p]
        by_cases hp : p = n
        · rw [if_pos hp, hp, hpl0, hd0]
        · rw [if_neg hp]
      · rw [List.length_cons, hn] at h4 ⊢
        show st2.2.1 = _
        by_cases h40 : n % 4 = 0
        · rw [(j2 h40 (.inl hb)).1]; omega
        · rw [j3 h40 (.inl hb)]; omega
    · rw [if_neg hd0]
      have hgr : st2.2.1 = 4 * (n / 4) := by
        by_cases h40 : n % 4 = 0
        · exact (j2 h40 (.inr hd0)).1
        · exact j3 h40 (.inr hd0)
      have hsum : st2.2.1 + n % 4 = n := by omega
      rw [hg st2 d (n % 4) (by omega) hd9 (by omega) (by rw [hsum, j1, hpl0]) (fun h0 => (j2 h0 (.inr hd0)).2)]
      refine ⟨fun p => ?_, fun h4 hb => ?_⟩
      · rw [pl_cons, hn]
        show (if p = st2.2.1 + n % 4 then d else st2.1 p) = _
        rw [hsum, j1]
      · rw [List.length_cons, hn] at h4 ⊢
        show st2.2.1 = _
        rw [hgr]; omega

/-- Digits without leading zeros, but at least one. -/
def strip1 : List Nat → List Nat
  | [] => []
  | [x] => [x]
  | x :: y :: t => if x = 0 then strip1 (y :: t) else x :: y :: t
theorem strip1_zeros (k : Nat) {l : List Nat} (h : l ≠ []) : strip1 (List.replicate k 0 ++ l) = strip1 l := by
  induction k with
  | zero => rfl
  | succ k ih =>
    rw [List.replicate_succ, List.cons_append]
    cases e : List.replicate k 0 ++ l with
    | nil => exact absurd (List.append_eq_nil_iff.1 e).2 h
    | cons y t =>
      show (if 0 = 0 then strip1 (y :: t) else _) = _
      rw [if_pos rfl, ← e, ih]
theorem strip1_self {l : List Nat} (h : DS l) : strip1 l = l := by
  match l, h with
  | [], h => rfl
  | [x], h => rfl
  | x :: y :: t, h =>
    show (if x = 0 then _ else _) = _
    rw [if_neg]
    intro e
    subst e
    have := h.2.2.2 rfl
    cases this
theorem strip1_DS : ∀ {l : List Nat}, 1 ≤ l.length → l.length ≤ 20 → (∀ d ∈ l, d ≤ 9) → DS (strip1 l) := by
  intro l
  induction l with
  | nil => intro h; simp at h
  | cons x t ih =>
    intro h1 h2 h9
    cases t with
    | nil => exact ⟨by simp [strip1], by simp [strip1], h9, fun e => by
        have : x = 0 := Option.some.inj e
        subst this; rfl⟩
    | cons y t =>
      unfold strip1
      split
      · exact ih (by simp) (by simp at h2 ⊢; omega) (fun d hd => h9 d (List.mem_cons_of_mem _ hd))
      · rename_i hx
        exact ⟨h1, h2, h9, fun e => absurd (Option.some.inj e) hx⟩

/-- What guess returns for the characters of a number. -/
theorem guess_math {ds : List Nat} {cs : List Int} (hd : DS ds) (h : cs = kanjiC ds ∨ cs = formC ds) : strip1 (big (back g0 cs).1) = ds := by
  have hne : ds ≠ [] := fun e => by rw [e] at hd; exact absurd hd.1 (by simp)
  have key : ∀ p, (back g0 cs).1 p = pl ds p := by
    by_cases h0 : ds = [0]
    · subst h0
      have hcs : cs = [38646] := by rcases h with h | h <;> exact h
      subst hcs
      intro p
      have e : back g0 [38646] = g0 := by
        show gch g0 38646 = g0
        unfold gch gstep
        rw [tri_zero]; rfl
      rw [e, pl_cons, pl_nil]
      split <;> rfl
    · rcases h with h | h
      · have e : cs = units kp false ds := by rw [h]; unfold kanjiC; rw [if_neg h0]
        rw [e]; exact (back_units goodB_kp ds false hd.2.1 hd.2.2.1).1
      · have e : cs = units fp false ds := by rw [h]; unfold formC; rw [if_neg h0]
        rw [e]; exact (back_units goodB_fp ds false hd.2.1 hd.2.2.1).1
  rw [big_eq _ ds hd.2.1 (fun p _ => key p), strip1_zeros _ hne, strip1_self hd]

theorem e3_kp : ∀ d, d ≤ 9 → ∀ u, u ≤ 3 → ∀ c ∈ kp d u, (enc c).length = 3 := by decide
theorem e3_fp : ∀ d, d ≤ 9 → ∀ u, u ≤ 3 → ∀ c ∈ fp d u, (enc c).length = 3 := by decide
theorem e3_gu : ∀ g, g ≤ 4 → ∀ c ∈ gu g, (enc c).length = 3 := by decide
theorem e3_uo {h : Nat → Nat → List Int} (hv : ∀ d, d ≤ 9 → ∀ u, u ≤ 3 → ∀ c ∈ h d u, (enc c).length = 3) : ∀ b d a, d ≤ 9 → a ≤ 19 → ∀ c ∈ uo h b d a, (enc c).length = 3 := by
  intro b d a h9 ha c hc
  unfold uo at hc
  rcases List.mem_append.1 hc with hc | hc
  · split at hc
    · simp at hc
    · exact hv d h9 (a % 4) (by omega) c hc
  · split at hc
    · exact e3_gu (a / 4) (by omega) c hc
    · simp at hc
theorem e3_W {ds : List Nat} {cs : List Int} (hd : DS ds) (h : cs = kanjiC ds ∨ cs = formC ds) : ∀ c ∈ cs, (enc c).length = 3 := by
  intro c hc
  rcases h with h | h
  · rw [h] at hc
    unfold kanjiC at hc
    split at hc
    · rw [List.mem_singleton.1 hc]; decide
    · exact eachS_mem (e3_uo e3_kp) ds false hd.2.2.1 hd.2.1 c hc
  · rw [h] at hc
    unfold formC at hc
    split at hc
    · rw [List.mem_singleton.1 hc]; decide
    · exact eachS_mem (e3_uo e3_fp) ds false hd.2.2.1 hd.2.1 c hc

end Go.Proofs.YteelmjmiankflaaGreatDoor.Num

set_option linter.unusedVariables false
set_option linter.unusedSimpArgs false
namespace Go.Proofs.YteelmjmiankflaaGreatDoor.Num
open Go Go.RowKit Go.Proofs.YteelmjmiankflaaGreatDoor.Kit Go.Proofs.YteelmjmiankflaaGreatDoor.Utf

/-- Twenty digits in memory, as characters. -/
def Row (w : World) (A : Nat) (num : Nat → Nat) : Prop :=
  A < w.heap.size ∧ (∀ i, i < 20 → w.cell? ⟨A, i, none⟩ = some (.int .u8 ((48 + num (19 - i) : Nat) : Int))) ∧ ∀ i, i < 20 → w.frozen? ⟨A, i, none⟩ = false
theorem Row.next {w w' : World} {A B : Nat} {num : Nat → Nat} (h : Row w A num) (hb : Below B w w') (hA : A < B) : Row w' A num :=
  ⟨Nat.lt_of_lt_of_le h.1 hb.size, fun i hi => by rw [hb.cell (p := ⟨A, i, none⟩) hA]; exact h.2.1 i hi, fun i hi => by rw [hb.frozen (p := ⟨A, i, none⟩) hA]; exact h.2.2 i hi⟩
theorem Row.drewN {w : World} {A : Nat} {num : Nat → Nat} (h : Row w A num) (z : Nat) : Row (w.drewN z) A num := h.next (below_drewN w z) h.1
theorem Row.congr {w : World} {A : Nat} {num num' : Nat → Nat} (h : Row w A num) (e : ∀ p, p < 20 → num p = num' p) : Row w A num' :=
  ⟨h.1, fun i hi => by rw [← e (19 - i) (by omega)]; exact h.2.1 i hi, h.2.2⟩
theorem Row.set {w : World} {A : Nat} {num : Nat → Nat} (h : Row w A num) {q p : Nat} (hq : p + q = 19) (x : Nat) (v : Value) (hv : v = .int .u8 ((48 + x : Nat) : Int)) : Row (w.setCell ⟨A, q, none⟩ v) A (fun i => if i = p then x else num i) := by
  subst hv
  refine ⟨Nat.lt_of_lt_of_le h.1 ((Below.refl 0 w).setCell (p := ⟨A, q, none⟩) (Nat.zero_le _) _).size, fun i hi => ?_, fun i hi => ?_⟩
  · by_cases e : i = q
    · subst e
      rw [World.cell?_setCell_same _ _ _ (h.2.1 i hi)]
      show _ = some (Value.int .u8 ((48 + (if 19 - i = p then x else num (19 - i)) : Nat) : Int))
      rw [if_pos (by omega)]
    · rw [World.cell?_setCell_other _ _ _ _ (by intro he; cases he; exact e rfl)]
      show _ = some (Value.int .u8 ((48 + (if 19 - i = p then x else num (19 - i)) : Nat) : Int))
      rw [if_neg (by omega)]
      exact h.2.1 i hi
  · rw [World.frozen?_setCell]; exact h.2.2 i hi

theorem put_any (A cap B p : Nat) (num : Nat → Nat) (w : World) (hR : Row w A num) (hB : B ≤ A) (hp : p ≤ 19) (h9 : num p ≤ 9) :
    Calls Tryz.prog 107 #[.slice (some ⟨A, 0, none⟩) 20 cap, .int .i64 p, .int .i64 1] w fun e w' => (∃ b, e = .returned (.bool b)) ∧ Row w' A (fun i => if i = p ∧ num i = 0 then 1 else num i) ∧ Below B w w' := by
  obtain ⟨q, hq⟩ : ∃ q, p + q = 19 := ⟨19 - p, by omega⟩
  have hc := hR.2.1 q (by omega)
  have hf := hR.2.2 q (by omega)
  rw [show 19 - q = p by omega] at hc
  have q0 : (0 : Int) ≤ (q : Int) := by omega
  have q1 : (q : Int) < 20 := by omega
  have i1 : (20 : Int) - 1 - (p : Int) = (q : Int) := by omega
  have i2 : (19 : Int) - (p : Int) = (q : Int) := by omega
  have p20 : (p : Int) < 20 := by omega
  by_cases hz : num p = 0
  · rw [hz] at hc
    have HR := Lib.hid (show ∀ z, Row ((w.drewN z).setCell ⟨A, q, none⟩ (.int .u8 49)) A (fun i => if i = p ∧ num i = 0 then 1 else num i) from fun z =>
      ((hR.drewN z).set hq 1 (.int .u8 49) rfl).congr fun i hi => by
        by_cases e : i = p
        · subst e; rw [if_pos rfl, if_pos ⟨rfl, hz⟩]
        · rw [if_neg e, if_neg (fun h => e h.1)])
    have HB := Lib.hid (show ∀ z, Below B w ((w.drewN z).setCell ⟨A, q, none⟩ (.int .u8 49)) from fun z => ((below_drewN w z).mono (Nat.le_trans hB (Nat.le_of_lt hR.1))).setCell (p := ⟨A, q, none⟩) hB _)
    have hc' : w.cell? ⟨A, q, none⟩ = some (.int .u8 48) := hc
    clear hR hc hz h9 hq
    go_enter Tryz.func107, Tryz.ntmps107
    go_wp2
    go_ret
    exact ⟨⟨_, rfl⟩, by first | exact HR.out _ | exact HR.out 0, by first | exact HB.out _ | exact HB.out 0⟩
  · obtain ⟨x, hx⟩ : ∃ x : Int, ((48 + num p : Nat) : Int) = x := ⟨_, rfl⟩
    rw [hx] at hc
    have hx48 : ¬ x = 48 := by omega
    have hxb : (x != 48) = true := by simpa using hx48
    have HR := Lib.hid (show ∀ z, Row (w.drewN z) A (fun i => if i = p ∧ num i = 0 then 1 else num i) from fun z =>
      (hR.drewN z).congr fun i hi => by
        by_cases e : i = p
        · subst e; rw [if_neg (fun h => hz h.2)]
        · rw [if_neg (fun h => e h.1)])
    have HB := Lib.hid (show ∀ z, Below B w (w.drewN z) from fun z => (below_drewN w z).mono (Nat.le_trans hB (Nat.le_of_lt hR.1)))
    clear hR hz h9 hq hx
    go_enter Tryz.func107, Tryz.ntmps107
    go_wp2
    go_ret
    exact ⟨⟨_, rfl⟩, by first | exact HR.out _ | exact HR.out 0, by first | exact HB.out _ | exact HB.out 0⟩

theorem big_cells {w : World} {A : Nat} {num : Nat → Nat} (hR : Row w A num) (h9 : ∀ p, num p ≤ 9) (k : Nat) (j : Nat) (v : Value) (h : (u8s (((big num).drop k).map fun x => UInt8.ofNat (48 + x)))[j]? = some v) : w.cell? ((⟨A, k, none⟩ : Addr).add j) = some v := by
  have e : (⟨A, k, none⟩ : Addr).add j = ⟨A, k + j, none⟩ := by simp [Addr.add]
  rw [e]
  unfold u8s at h
  rw [List.getElem?_map, List.getElem?_map, List.getElem?_drop] at h
  by_cases hj : k + j < 20
  · rw [big_get num (k + j) hj] at h
    rw [hR.2.1 _ hj, ← h]
    have := h9 (19 - (k + j))
    show _ = some (Value.int .u8 ((UInt8.ofNat (48 + num (19 - (k + j)))).toNat : Int))
    rw [toNat_ofNat _ (by omega)]
  · rw [List.getElem?_eq_none (by rw [big_len]; omega)] at h
    cases h
theorem conv_row {w : World} {A : Nat} {num : Nat → Nat} (hR : Row w A num) (h9 : ∀ p, num p ≤ 9) (k n c : Nat) (hn : n + k = 20) :
    (convert 66 9 (.slice (some ⟨A, k, none⟩) n c)).run Tryz.prog w = .ok (.string (dg ((big num).drop k))) w := by
  obtain ⟨l, hl⟩ : ∃ l, ((big num).drop k).map (fun x => UInt8.ofNat (48 + x)) = l := ⟨_, rfl⟩
  have hc := big_cells hR h9 k
  rw [hl] at hc
  have hln : l.length = n := by rw [← hl, List.length_map, List.length_drop, big_len]; omega
  rw [run_convert_bytes_string w _ _ 5 _ _ _ Tryz.underlying66 Tryz.underlying5 Tryz.underlying9]
  rw [run_bytesToString w ⟨A, k, none⟩ n c (l.map fun b => (b.toNat : Int))]
  · congr 2
    apply ba_ext
    rw [foldl_push]
    show _ = bs (dg ((big num).drop k))
    rw [bs_dg, hl]; simp
  · have hx := run_loadCells_list (P := Tryz.prog) (w := w) ⟨A, k, none⟩ (u8s l) hc
    rw [u8s_len, hln] at hx
    rw [hx]
    simp [u8s]

theorem strip1_step {num : Nat → Nat} {k : Nat} (hk : k < 19) (hz : num (19 - k) = 0) : strip1 ((big num).drop k) = strip1 ((big num).drop (k + 1)) := by
  have h1 : k < (big num).length := by rw [big_len]; omega
  have h2 : k + 1 < (big num).length := by rw [big_len]; omega
  rw [List.drop_eq_getElem_cons h1, List.drop_eq_getElem_cons h2]
  have e : (big num)[k] = num (19 - k) := by
    have := big_get num k (by omega)
    rw [List.getElem?_eq_getElem h1] at this
    exact Option.some.inj this
  show (if (big num)[k] = 0 then _ else _) = _
  rw [e, if_pos hz]
theorem strip1_stop {num : Nat → Nat} {k : Nat} (hk : k ≤ 19) (hz : k = 19 ∨ num (19 - k) ≠ 0) : strip1 ((big num).drop k) = (big num).drop k := by
  have h1 : k < (big num).length := by rw [big_len]; omega
  rw [List.drop_eq_getElem_cons h1]
  rcases hz with rfl | hz
  · rw [List.drop_of_length_le (by rw [big_len]; omega)]; rfl
  · have e : (big num)[k] = num (19 - k) := by
      have := big_get num k (by omega)
      rw [List.getElem?_eq_getElem h1] at this
      exact Option.some.inj this
    cases (big num).drop (k + 1) with
    | nil => rfl
    | cons y t =>
      show (if (big num)[k] = 0 then _ else _) = _
      rw [e, if_neg hz]

set_option maxHeartbeats 1000000 in
theorem text_any (A cap : Nat) (num : Nat → Nat) (h9 : ∀ p, num p ≤ 9) (w : World) (hR : Row w A num) (hcap : 20 ≤ cap) (hcm : cap ≤ 9223372036854775807) :
    Calls Tryz.prog 108 #[.slice (some ⟨A, 0, none⟩) 20 cap] w fun e w' => e = .returned (.string (dg (strip1 (big num)))) ∧ ∃ z, w' = w.drewN z := by
  have HR := Lib.hid hR; have H9 := Lib.hid h9
  clear hR h9
  go_enter Tryz.func108, Tryz.ntmps108
  go_wp2
  go_loopw [3] (fun iv wr => ∃ k : Nat, iv = .int .i64 k ∧ k ≤ 19 ∧ Hid (strip1 (big num) = strip1 ((big num).drop k)) ∧ ∃ z, wr = w.drewN z) (fun iv _ => 20 - (intOf iv).toNat)
  case atStart => exact ⟨0, rfl, Nat.zero_le _, Lib.hid rfl, 0, rfl⟩
  case round =>
    obtain ⟨k, rfl, hk, hst, z, rfl⟩ := hrel
    have hc := HR.out.2.1 k (by omega)
    have k0 : (0 : Int) ≤ (k : Int) := by omega
    have k1 : (k : Int) < 20 := by omega
    obtain ⟨x, hx⟩ : ∃ x : Int, ((48 + num (19 - k) : Nat) : Int) = x := ⟨_, rfl⟩
    rw [hx] at hc
    by_cases hgo : k < 19 ∧ num (19 - k) = 0
    · have hk19 := hgo.1
      have HS := Lib.hid (hst.out.trans (strip1_step hgo.1 hgo.2))
      obtain rfl : x = 48 := by rw [← hx, hgo.2]; rfl
      clear hx hgo hst
      go_wp2
      go_roundw
      case rel => exact ⟨k + 1, by go_num, by omega, HS, by first | exact ⟨_, rfl⟩ | exact ⟨_, World.drewN_drewN _ _ _⟩⟩
      case measure => simp [intOf] <;> omega
    · have hcase : k = 19 ∨ (k < 19 ∧ ¬ x = 48) := by omega
      have HS := Lib.hid (hst.out.trans (strip1_stop hk (by omega)))
      have hcv := fun z => conv_row (HR.out.drewN z) H9.out k (20 - k) (cap - k) (by omega)
      obtain ⟨o, ho⟩ : ∃ o, dg ((big num).drop k) = o := ⟨_, rfl⟩
      simp only [ho] at hcv
      have HO := Lib.hid ho
      clear ho
      clear hx hgo hst
      have hcase' : (19 : Int) ≤ (k : Int) ∨ ((k : Int) < 19 ∧ ¬ x = 48) := by omega
      clear hcase
      rcases hcase' with h | ⟨h, h'⟩
      all_goals
        go_wp2
        go_ret
        exact ⟨by rw [HS.out, HO.out]; rfl, _, rfl⟩

end Go.Proofs.YteelmjmiankflaaGreatDoor.Num

set_option linter.unusedVariables false
set_option linter.unusedSimpArgs false
namespace Go.Proofs.YteelmjmiankflaaGreatDoor.Num
open Go Go.RowKit Go.Proofs.YteelmjmiankflaaGreatDoor.Kit Go.Proofs.YteelmjmiankflaaGreatDoor.Utf

theorem conv_mark (w : World) : (convert 66 66 (.slice (some ⟨w.heap.size, 0, none⟩) 20 20)).run Tryz.prog (w.alloc (.cells #[.int .u8 48, .int .u8 48, .int .u8 48, .int .u8 48, .int .u8 48, .int .u8 48, .int .u8 48, .int .u8 48, .int .u8 48, .int .u8 48, .int .u8 48, .int .u8 48, .int .u8 48, .int .u8 48, .int .u8 48, .int .u8 48, .int .u8 48, .int .u8 48, .int .u8 48, .int .u8 48] 5)) = .ok (.slice (some ⟨w.heap.size, 0, none⟩) 20 20) ((w.alloc (.cells #[.int .u8 48, .int .u8 48, .int .u8 48, .int .u8 48, .int .u8 48, .int .u8 48, .int .u8 48, .int .u8 48, .int .u8 48, .int .u8 48, .int .u8 48, .int .u8 48, .int .u8 48, .int .u8 48, .int .u8 48, .int .u8 48, .int .u8 48, .int .u8 48, .int .u8 48, .int .u8 48] 5)).freeze ⟨w.heap.size, 20, none⟩ 1) := by
  have hsh : (w.alloc (.cells #[.int .u8 48, .int .u8 48, .int .u8 48, .int .u8 48, .int .u8 48, .int .u8 48, .int .u8 48, .int .u8 48, .int .u8 48, .int .u8 48, .int .u8 48, .int .u8 48, .int .u8 48, .int .u8 48, .int .u8 48, .int .u8 48, .int .u8 48, .int .u8 48, .int .u8 48, .int .u8 48] 5)).shape? w.heap.size = some (5, 20) := by
    simp [World.shape?, World.alloc, -World.alloc_eq]
  obtain ⟨W, hW⟩ : ∃ W, w.alloc (.cells #[.int .u8 48, .int .u8 48, .int .u8 48, .int .u8 48, .int .u8 48, .int .u8 48, .int .u8 48, .int .u8 48, .int .u8 48, .int .u8 48, .int .u8 48, .int .u8 48, .int .u8 48, .int .u8 48, .int .u8 48, .int .u8 48, .int .u8 48, .int .u8 48, .int .u8 48, .int .u8 48] 5) = W := ⟨_, rfl⟩
  rw [hW] at hsh ⊢
  simp [convert, run_underlying Tryz.underlying66, run_underlying Tryz.underlying5, markStringish, hsh, Result.andThen]
theorem zeros_made (w : World) : Row ((w.alloc (.cells #[.int .u8 48, .int .u8 48, .int .u8 48, .int .u8 48, .int .u8 48, .int .u8 48, .int .u8 48, .int .u8 48, .int .u8 48, .int .u8 48, .int .u8 48, .int .u8 48, .int .u8 48, .int .u8 48, .int .u8 48, .int .u8 48, .int .u8 48, .int .u8 48, .int .u8 48, .int .u8 48] 5)).freeze ⟨w.heap.size, 20, none⟩ 1) w.heap.size (fun _ => 0) ∧ Below w.heap.size w ((w.alloc (.cells #[.int .u8 48, .int .u8 48, .int .u8 48, .int .u8 48, .int .u8 48, .int .u8 48, .int .u8 48, .int .u8 48, .int .u8 48, .int .u8 48, .int .u8 48, .int .u8 48, .int .u8 48, .int .u8 48, .int .u8 48, .int .u8 48, .int .u8 48, .int .u8 48, .int .u8 48, .int .u8 48] 5)).freeze ⟨w.heap.size, 20, none⟩ 1) := by
  have hH : ((w.alloc (.cells #[.int .u8 48, .int .u8 48, .int .u8 48, .int .u8 48, .int .u8 48, .int .u8 48, .int .u8 48, .int .u8 48, .int .u8 48, .int .u8 48, .int .u8 48, .int .u8 48, .int .u8 48, .int .u8 48, .int .u8 48, .int .u8 48, .int .u8 48, .int .u8 48, .int .u8 48, .int .u8 48] 5)).freeze ⟨w.heap.size, 20, none⟩ 1).heap[w.heap.size]? = some (.cells #[.int .u8 48, .int .u8 48, .int .u8 48, .int .u8 48, .int .u8 48, .int .u8 48, .int .u8 48, .int .u8 48, .int .u8 48, .int .u8 48, .int .u8 48, .int .u8 48, .int .u8 48, .int .u8 48, .int .u8 48, .int .u8 48, .int .u8 48, .int .u8 48, .int .u8 48, .int .u8 48] 5 (20, 21)) := by
    simp [World.freeze, World.alloc, -World.alloc_eq]
    rw [Array.getElem_modify_self]
    simp
  have hO : ∀ k, k < w.heap.size → ((w.alloc (.cells #[.int .u8 48, .int .u8 48, .int .u8 48, .int .u8 48, .int .u8 48, .int .u8 48, .int .u8 48, .int .u8 48, .int .u8 48, .int .u8 48, .int .u8 48, .int .u8 48, .int .u8 48, .int .u8 48, .int .u8 48, .int .u8 48, .int .u8 48, .int .u8 48, .int .u8 48, .int .u8 48] 5)).freeze ⟨w.heap.size, 20, none⟩ 1).heap[k]? = w.heap[k]? := fun k hk => by
    have h1 : w.heap.size ≠ k := by omega
    simp [World.freeze, World.alloc, -World.alloc_eq, Array.getElem?_modify, Array.getElem?_push, h1, Ne.symm h1]
  have hS : ((w.alloc (.cells #[.int .u8 48, .int .u8 48, .int .u8 48, .int .u8 48, .int .u8 48, .int .u8 48, .int .u8 48, .int .u8 48, .int .u8 48, .int .u8 48, .int .u8 48, .int .u8 48, .int .u8 48, .int .u8 48, .int .u8 48, .int .u8 48, .int .u8 48, .int .u8 48, .int .u8 48, .int .u8 48] 5)).freeze ⟨w.heap.size, 20, none⟩ 1).heap.size = w.heap.size + 1 := by
    simp [World.freeze, World.alloc, -World.alloc_eq]
  refine ⟨⟨by rw [hS]; omega, fun i hi => ?_, fun i hi => ?_⟩, ⟨rfl, rfl, rfl, by rw [hS]; omega, hO⟩⟩
  · rw [cell_of_row _ _ i _ _ _ hH]
    have : i = 0 ∨ i = 1 ∨ i = 2 ∨ i = 3 ∨ i = 4 ∨ i = 5 ∨ i = 6 ∨ i = 7 ∨ i = 8 ∨ i = 9 ∨ i = 10 ∨ i = 11 ∨ i = 12 ∨ i = 13 ∨ i = 14 ∨ i = 15 ∨ i = 16 ∨ i = 17 ∨ i = 18 ∨ i = 19 := by omega
    rcases this with rfl | rfl | rfl | rfl | rfl | rfl | rfl | rfl | rfl | rfl | rfl | rfl | rfl | rfl | rfl | rfl | rfl | rfl | rfl | rfl <;> rfl
  · unfold World.frozen?
    rw [hH]
    simp; omega

theorem len3_pu : ∀ x ∈ lPu, x.length = 0 ∨ x.length = 3 := by decide
theorem len3_fu : ∀ x ∈ lFu, x.length = 0 ∨ x.length = 3 := by decide
theorem len3_fd : ∀ x ∈ lFd, x.length = 0 ∨ x.length = 3 := by decide
theorem len3_gu : ∀ x ∈ lGu, x.length = 0 ∨ x.length = 3 := by decide

theorem back_last {t : ByteArray} (h3 : 3 ≤ t.size) {cs : List Int} (h : ∀ c ∈ cs, (enc c).length = 3) (ht : t = tx cs) (st : GS) :
    ∃ c2, (∀ c ∈ c2, (enc c).length = 3) ∧ t.extract 0 (t.size - 3) = tx c2 ∧ back st cs = back (gstep st (tri (bs (t.extract (t.size - 3) t.size)))) c2 := by
  rcases List.eq_nil_or_concat cs with e | ⟨c2, c, e⟩
  · subst e; subst ht; rw [tx_size] at h3; simp [encs] at h3
  · rw [List.concat_eq_append] at e
    subst e
    have hc3 : (enc c).length = 3 := h c (by simp)
    have hb : bs t = encs c2 ++ enc c := by rw [ht, bs_tx, encs_append]; simp [encs]
    have hz : t.size = (encs c2).length + 3 := by rw [← bs_len, hb, List.length_append, hc3]
    refine ⟨c2, fun x hx => h x (by simp [hx]), ?_, ?_⟩
    · apply ba_ext
      rw [Lib.extract_data]
      show ((bs t).drop 0).take (t.size - 3 - 0) = bs (tx c2)
      rw [bs_tx, List.drop_zero, hb, hz, Nat.add_sub_cancel, Nat.sub_zero, List.take_left]
    · have e2 : bs (t.extract (t.size - 3) t.size) = enc c := by
        rw [show bs (t.extract (t.size - 3) t.size) = ((bs t).drop (t.size - 3)).take (t.size - (t.size - 3)) from Lib.extract_data _ _ _]
        rw [hb, hz, Nat.add_sub_cancel, List.drop_left, List.take_of_length_le (by omega)]
      rw [e2, back_append]; rfl

/-- What guess returns. -/
def GPost (s : ByteArray) (w : World) (e : Ending) (w' : World) : Prop :=
  ∃ es, e = .returned (.string (dg es)) ∧ DS es ∧ (∀ cs, (∀ c ∈ cs, (enc c).length = 3) → s = tx cs → es = strip1 (big (back g0 cs).1)) ∧ Below w.heap.size w w'

/-- What is still to read of s. -/
def Still (s t : ByteArray) (st : GS) : Prop := ∀ cs, (∀ c ∈ cs, (enc c).length = 3) → s = tx cs → ∃ c2, (∀ c ∈ c2, (enc c).length = 3) ∧ t = tx c2 ∧ back g0 cs = back st c2
theorem Still.next {s t : ByteArray} {st st' : GS} (h : Still s t st) (h3 : 3 ≤ t.size) (e : gstep st (tri (bs (t.extract (t.size - 3) t.size))) = st') : Still s (t.extract 0 (t.size - 3)) st' := fun cs hc hs => by
  obtain ⟨c2, k1, k2, k3⟩ := h cs hc hs
  obtain ⟨c3, l1, l2, l3⟩ := back_last h3 k1 k2 st
  exact ⟨c3, l1, l2, by rw [k3, l3, e]⟩
theorem Still.done {s t : ByteArray} {st : GS} (h : Still s t st) (h3 : t.size < 3) : ∀ cs, (∀ c ∈ cs, (enc c).length = 3) → s = tx cs → back g0 cs = st := fun cs hc hs => by
  obtain ⟨c2, k1, k2, k3⟩ := h cs hc hs
  cases c2 with
  | nil => exact k3
  | cons c t' =>
    have := k1 c (by simp)
    rw [k2, tx_size, encs_cons, List.length_append] at h3
    omega

def litP : Array Value := #[.string { data := #[] }, .string { data := #[229, 141, 129] }, .string { data := #[231, 153, 190] }, .string { data := #[229, 141, 131] }]
theorem at_pu (w : World) : AtStrs (w.alloc (.cells #[.string { data := #[] }, .string { data := #[229, 141, 129] }, .string { data := #[231, 153, 190] }, .string { data := #[229, 141, 131] }] 9)) w.heap.size lPu :=
  (heap_last w _).trans (congrArg (fun a => some (Obj.cells a 9 (0, 0))) (by kernel_rfl))
theorem at_fu (w : World) : AtStrs (w.alloc (.cells #[.string { data := #[] }, .string { data := #[230, 139, 190] }, .string { data := #[231, 153, 190] }, .string { data := #[229, 141, 131] }] 9)) w.heap.size lFu :=
  (heap_last w _).trans (congrArg (fun a => some (Obj.cells a 9 (0, 0))) (by kernel_rfl))

theorem index_last (L : List (List UInt8)) (n : Nat) (hn : L.length = n) (hn10 : n ≤ 10) (hL3 : ∀ x ∈ L, x.length = 0 ∨ x.length = 3) (last : ByteArray) (hl : last.size = 3) (r : Int) (hr : ixC L (bs last) = r) (g : Nat) (w : World) (hat : AtStrs w g L) :
    Calls Tryz.prog 102 #[.slice (some ⟨g, 0, none⟩) n n, .string last, .int .i64 0] w fun e w' => e = .returned (.int .i64 r) ∧ Below w.heap.size w w' := by
  refine (index_any L n hn hn10 hL3 g last 0 (Int.le_refl _) (by omega) (by omega) w hat).mono ?_
  rintro e w' ⟨rfl, z, rfl⟩
  refine ⟨?_, below_drewN w z⟩
  rw [show (0 : Int).toNat = 0 from rfl, List.drop_zero, List.take_of_length_le (by rw [bs_len]; omega), hr]

set_option maxRecDepth 100000 in
set_option maxHeartbeats 4000000 in
theorem guess_any (s : ByteArray) (w : World) (hs : s.size ≤ 140737488355000) :
    Calls Tryz.prog 79 #[.string s] w (GPost s w) := by
  have hcv := conv_mark w
  have hZ := zeros_made w
  obtain ⟨W, hW⟩ : ∃ W, (w.alloc (.cells #[.int .u8 48, .int .u8 48, .int .u8 48, .int .u8 48, .int .u8 48, .int .u8 48, .int .u8 48, .int .u8 48, .int .u8 48, .int .u8 48, .int .u8 48, .int .u8 48, .int .u8 48, .int .u8 48, .int .u8 48, .int .u8 48, .int .u8 48, .int .u8 48, .int .u8 48, .int .u8 48] 5)).freeze ⟨w.heap.size, 20, none⟩ 1 = W := ⟨_, rfl⟩
  rw [hW] at hcv hZ
  have HR0 := Lib.hid hZ.1
  have HB0 := Lib.hid hZ.2
  clear hZ hW
  go_enter Tryz.func79, Tryz.ntmps79
  go_wp2
  clear hcv
  obtain ⟨A, hA⟩ : ∃ A, w.heap.size = A := ⟨_, rfl⟩
  have HA := Lib.hid hA
  rw [hA] at HR0 HB0 ⊢
  clear hA
  have hcap : 20 ≤ 20 := Nat.le_refl _
  go_loopw [0, 4, 5, 6, 7, 8, 9] (fun sv gv uv _ _ _ _ wr => ∃ (t : ByteArray) (num : Nat → Nat) (G U : Nat), sv = .string t ∧ gv = .int .i64 G ∧ uv = .int .i64 U ∧ G ≤ 16 ∧ U ≤ 3 ∧ t.size ≤ s.size ∧ Hid (∀ p, num p ≤ 9) ∧ Hid (Row wr A num) ∧ Hid (Below A w wr) ∧ Hid (Still s t (num, G, U))) (fun sv _ _ _ _ _ _ _ => match sv with | .string t => t.size | _ => 0)
  case atStart => exact ⟨s, fun _ => 0, 0, 0, rfl, rfl, rfl, by omega, by omega, Nat.le_refl _, Lib.hid (fun _ => Nat.zero_le _), HR0, HB0, Lib.hid (fun cs hc hs => ⟨cs, hc, hs, rfl⟩)⟩
  case round =>
    obtain ⟨t, num, G, U, rfl, rfl, rfl, hG, hU, hts, h9, hR, hBw, hst⟩ := hrel
    by_cases h3 : 3 ≤ t.size
    · obtain ⟨last, hla⟩ : ∃ l, t.extract (t.size - 3) t.size = l := ⟨_, rfl⟩
      obtain ⟨t2, ht2⟩ : ∃ l, t.extract 0 (t.size - 3) = l := ⟨_, rfl⟩
      have hl3 : last.size = 3 := by rw [← hla, ByteArray.size_extract]; omega
      have ht2z : t2.size = t.size - 3 := by rw [← ht2, ByteArray.size_extract]; omega
      have hs1 : ∀ w, (Instr.slice 9 (.string t) (some (.int .i64 ((t.size : Int) - 3))) none none).run Tryz.prog w = .ok (.string last) w := fun w => by
        rw [run_slice_string_from_if w 9 _ .i64 _ Tryz.underlying9, if_pos ⟨by omega, by omega⟩, ← hla, show ((t.size : Int) - 3).toNat = t.size - 3 by omega]
      have hs2 : ∀ w, (Instr.slice 9 (.string t) none (some (.int .i64 ((t.size : Int) - 3))) none).run Tryz.prog w = .ok (.string t2) w := fun w => by
        rw [run_slice_string_to_if w 9 _ .i64 _ Tryz.underlying9, if_pos ⟨by omega, by omega⟩, ← ht2, show ((t.size : Int) - 3).toNat = t.size - 3 by omega]
      have hnx := fun st' e => hst.out.next (st' := st') h3 e
      rw [hla, ht2] at hnx
      unfold tri at hnx
      obtain ⟨r1, hr1⟩ : ∃ r, ixC lGu (bs last) = r := ⟨_, rfl⟩
      obtain ⟨r2, hr2⟩ : ∃ r, ixC lPu (bs last) = r := ⟨_, rfl⟩
      obtain ⟨r3, hr3⟩ : ∃ r, ixC lFu (bs last) = r := ⟨_, rfl⟩
      obtain ⟨r4, hr4⟩ : ∃ r, ixC lPd (bs last) = r := ⟨_, rfl⟩
      obtain ⟨r5, hr5⟩ : ∃ r, ixC lFd (bs last) = r := ⟨_, rfl⟩
      have b1 := ixC_le lGu (bs last)
      have b2 := ixC_le lPu (bs last)
      have b3 := ixC_le lFu (bs last)
      have b4 := ixC_le lPd (bs last)
      have b5 := ixC_le lFd (bs last)
      rw [hr1, show ((lGu.length : Nat) : Int) = 5 from rfl] at b1
      rw [hr2, show ((lPu.length : Nat) : Int) = 4 from rfl] at b2
      rw [hr3, show ((lFu.length : Nat) : Int) = 4 from rfl] at b3
      rw [hr4, show ((lPd.length : Nat) : Int) = 10 from rfl] at b4
      rw [hr5, show ((lFd.length : Nat) : Int) = 10 from rfl] at b5
      rw [hr1, hr2, hr3, hr4, hr5] at hnx
      have I1 := Lib.hid (index_last lGu 5 rfl (by omega) len3_gu last hl3 r1 hr1)
      have I2 := Lib.hid (index_last lPu 4 rfl (by omega) len3_pu last hl3 r2 hr2)
      have I3 := Lib.hid (index_last lFu 4 rfl (by omega) len3_fu last hl3 r3 hr3)
      have I4 := Lib.hid (index_last lPd 10 rfl (by omega) len3_pd last hl3 r4 hr4)
      have I5 := Lib.hid (index_last lFd 10 rfl (by omega) len3_fd last hl3 r5 hr5)
      obtain ⟨m2, hm2⟩ : ∃ m, max r2 r3 = m := ⟨_, rfl⟩
      obtain ⟨m3, hm3⟩ : ∃ m, max r4 r5 = m := ⟨_, rfl⟩
      rw [hm2, hm3] at hnx
      have c1 : -1 ≤ r1 ∧ r1 < 5 := by omega
      have c2 : -1 ≤ m2 ∧ m2 < 4 := by omega
      have c3 : -1 ≤ m3 ∧ m3 < 10 := by omega
      have HNX := Lib.hid hnx
      have hB := Below.refl wr.heap.size wr
      have h3i : (3 : Int) ≤ (t.size : Int) := by omega
      have hAlt : A < wr.heap.size := hR.out.1
      clear hnx hla ht2 hr1 hr2 hr3 hr4 hr5 hst b1 b2 b3 b4 b5
      have hAw : A ≤ wr.heap.size := Nat.le_of_lt hAlt
      by_cases k1 : 0 < r1
      · obtain ⟨gN, rfl⟩ : ∃ g : Nat, r1 = (g : Int) := ⟨r1.toNat, by omega⟩
        have HQ := Lib.hid (HNX.out (num, 4 * gN, 0) (by unfold gstep; rw [if_pos k1, Int.toNat_natCast]))
        have hg4 : gN ≤ 4 := by omega
        clear HNX
        go_wp2_with (first
          | (go_at_call 105; refine (units_any _).mono ?_; rintro e w2 ⟨rfl, hat, hb⟩; have hB := hB.trans (hb.mono hB.size); clear hb)
          | (go_at_call 103; refine (plain_any _).mono ?_; rintro e w2 ⟨rfl, hat, hb⟩; have hB := hB.trans (hb.mono hB.size); clear hb)
          | (go_at_call 106; refine (rformal_any _).mono ?_; rintro e w2 ⟨rfl, hat, hb⟩; have hB := hB.trans (hb.mono hB.size); clear hb)
          | (go_at_call 102; (first | with_reducible refine (I1.out _ _ hat).mono ?_ | with_reducible refine (I4.out _ _ hat).mono ?_ | with_reducible refine (I5.out _ _ hat).mono ?_); rintro e w2 ⟨rfl, hb⟩; have hB := hB.trans (hb.mono hB.size); clear hb hat)
          | (go_at_call 102; (first | with_reducible refine (I2.out _ _ (at_pu _)).mono ?_ | with_reducible refine (I3.out _ _ (at_fu _)).mono ?_); rintro e w2 ⟨rfl, hb⟩; have hB := (hB.alloc hB.size _).trans (hb.mono (hB.alloc hB.size _).size); clear hb))
        go_roundw
        case rel => exact ⟨t2, num, 4 * gN, 0, rfl, by go_num, rfl, by omega, by omega, by omega, h9, Lib.hid (hR.out.next hB hAlt), Lib.hid (hBw.out.trans (hB.mono hAw)), HQ⟩
        case measure => show t2.size < t.size; omega
      · by_cases k2 : 0 < m2
        · obtain ⟨uN, hu⟩ : ∃ g : Nat, m2 = (g : Int) := ⟨m2.toNat, by omega⟩
          subst hu
          have HQ := Lib.hid (HNX.out ((fun p => if p = G + uN ∧ num p = 0 then 1 else num p), G, uN) (by unfold gstep; rw [if_neg k1, if_pos k2, Int.toNat_natCast]))
          have H92 := Lib.hid (show ∀ p, (if p = G + uN ∧ num p = 0 then 1 else num p) ≤ 9 from fun p => by
            have := h9.out p
            split <;> omega)
          have hu3 : uN ≤ 3 := by omega
          have HPUT := Lib.hid (fun w hRw => put_any A 20 A (G + uN) num w hRw (Nat.le_refl _) (by omega) (h9.out _))
          rw [show ((G + uN : Nat) : Int) = (G : Int) + (uN : Int) by omega] at HPUT
          clear HNX
          go_wp2_with (first
            | (go_at_call 105; refine (units_any _).mono ?_; rintro e w2 ⟨rfl, hat, hb⟩; have hB := hB.trans (hb.mono hB.size); clear hb)
            | (go_at_call 103; refine (plain_any _).mono ?_; rintro e w2 ⟨rfl, hat, hb⟩; have hB := hB.trans (hb.mono hB.size); clear hb)
            | (go_at_call 106; refine (rformal_any _).mono ?_; rintro e w2 ⟨rfl, hat, hb⟩; have hB := hB.trans (hb.mono hB.size); clear hb)
            | (go_at_call 102; (first | with_reducible refine (I1.out _ _ hat).mono ?_ | with_reducible refine (I4.out _ _ hat).mono ?_ | with_reducible refine (I5.out _ _ hat).mono ?_); rintro e w2 ⟨rfl, hb⟩; have hB := hB.trans (hb.mono hB.size); clear hb hat)
            | (go_at_call 102; (first | with_reducible refine (I2.out _ _ (at_pu _)).mono ?_ | with_reducible refine (I3.out _ _ (at_fu _)).mono ?_); rintro e w2 ⟨rfl, hb⟩; have hB := (hB.alloc hB.size _).trans (hb.mono (hB.alloc hB.size _).size); clear hb)
            | (go_at_call 107; refine (HPUT.out _ (hR.out.next hB hAlt)).mono ?_; rintro e w4 ⟨⟨b, rfl⟩, hR4, hb4⟩))
          go_roundw
          case rel => exact ⟨t2, (fun p => if p = G + uN ∧ num p = 0 then 1 else num p), G, uN, rfl, rfl, rfl, by omega, by omega, by omega, H92, Lib.hid hR4, Lib.hid ((hBw.out.trans (hB.mono hAw)).trans hb4), HQ⟩
          case measure => show t2.size < t.size; omega
        · by_cases k3 : 0 < m3
          · obtain ⟨dN, hd⟩ : ∃ g : Nat, m3 = (g : Int) := ⟨m3.toNat, by omega⟩
            subst hd
            have HQ := Lib.hid (HNX.out ((fun p => if p = G + U then dN else num p), G, U) (by unfold gstep; rw [if_neg k1, if_neg k2, if_pos k3, Int.toNat_natCast]))
            have hd9 : dN ≤ 9 := by omega
            have H92 := Lib.hid (show ∀ p, (if p = G + U then dN else num p) ≤ 9 from fun p => by
              have := h9.out p
              split <;> omega)
            obtain ⟨q, hq⟩ : ∃ q, (G + U) + q = 19 := ⟨19 - (G + U), by omega⟩
            have q0 : (0 : Int) ≤ (q : Int) := by omega
            have q1 : (q : Int) < 20 := by omega
            have i1 : (20 : Int) - 1 - (G : Int) - (U : Int) = (q : Int) := by omega
            have i2 : (19 : Int) - (G : Int) - (U : Int) = (q : Int) := by omega
            have gu20 : (G : Int) + (U : Int) < 20 := by omega
            have hw1 : IntKind.u8.wrap (48 + (dN : Int)) = 48 + (dN : Int) := IntWalk.u8_in _ ⟨by omega, by omega⟩
            have hq20 : q < 20 := by omega
            have HSET := Lib.hid (fun (w : World) (h : Row w A num) => h.set hq dN (.int .u8 (48 + (dN : Int))) (by congr 1))
            clear HNX hq
            go_wp2_with (first
              | (go_at_call 105; refine (units_any _).mono ?_; rintro e w2 ⟨rfl, hat, hb⟩; have hB := hB.trans (hb.mono hB.size); clear hb)
              | (go_at_call 103; refine (plain_any _).mono ?_; rintro e w2 ⟨rfl, hat, hb⟩; have hB := hB.trans (hb.mono hB.size); clear hb)
              | (go_at_call 106; refine (rformal_any _).mono ?_; rintro e w2 ⟨rfl, hat, hb⟩; have hB := hB.trans (hb.mono hB.size); clear hb)
              | (go_at_call 102; (first | with_reducible refine (I1.out _ _ hat).mono ?_ | with_reducible refine (I4.out _ _ hat).mono ?_ | with_reducible refine (I5.out _ _ hat).mono ?_); rintro e w2 ⟨rfl, hb⟩; have hB := hB.trans (hb.mono hB.size); clear hb hat; have hR3 := hR.out.next hB hAlt; have hc3 := hR3.2.1 q hq20; have hf3 := hR3.2.2 q hq20; clear hR3)
              | (go_at_call 102; (first | with_reducible refine (I2.out _ _ (at_pu _)).mono ?_ | with_reducible refine (I3.out _ _ (at_fu _)).mono ?_); rintro e w2 ⟨rfl, hb⟩; have hB := (hB.alloc hB.size _).trans (hb.mono (hB.alloc hB.size _).size); clear hb))
            go_roundw
            case rel => exact ⟨t2, (fun p => if p = G + U then dN else num p), G, U, rfl, rfl, rfl, by omega, by omega, by omega, H92, Lib.hid (HSET.out _ (hR.out.next hB hAlt)), Lib.hid ((hBw.out.trans (hB.mono hAw)).setCell (p := ⟨A, q, none⟩) (Nat.le_refl _) _), HQ⟩
            case measure => show t2.size < t.size; omega
          · have HQ := Lib.hid (HNX.out (num, G, U) (by unfold gstep; rw [if_neg k1, if_neg k2, if_neg k3]))
            clear HNX
            go_wp2_with (first
              | (go_at_call 105; refine (units_any _).mono ?_; rintro e w2 ⟨rfl, hat, hb⟩; have hB := hB.trans (hb.mono hB.size); clear hb)
              | (go_at_call 103; refine (plain_any _).mono ?_; rintro e w2 ⟨rfl, hat, hb⟩; have hB := hB.trans (hb.mono hB.size); clear hb)
              | (go_at_call 106; refine (rformal_any _).mono ?_; rintro e w2 ⟨rfl, hat, hb⟩; have hB := hB.trans (hb.mono hB.size); clear hb)
              | (go_at_call 102; (first | with_reducible refine (I1.out _ _ hat).mono ?_ | with_reducible refine (I4.out _ _ hat).mono ?_ | with_reducible refine (I5.out _ _ hat).mono ?_); rintro e w2 ⟨rfl, hb⟩; have hB := hB.trans (hb.mono hB.size); clear hb hat)
              | (go_at_call 102; (first | with_reducible refine (I2.out _ _ (at_pu _)).mono ?_ | with_reducible refine (I3.out _ _ (at_fu _)).mono ?_); rintro e w2 ⟨rfl, hb⟩; have hB := (hB.alloc hB.size _).trans (hb.mono (hB.alloc hB.size _).size); clear hb))
            go_roundw
            case rel => exact ⟨t2, num, G, U, rfl, rfl, rfl, by omega, by omega, by omega, h9, Lib.hid (hR.out.next hB hAlt), Lib.hid (hBw.out.trans (hB.mono hAw)), HQ⟩
            case measure => show t2.size < t.size; omega
    · have hend := hst.out.done (by omega)
      have HE := Lib.hid (show ∀ cs, (∀ c ∈ cs, (enc c).length = 3) → s = tx cs → strip1 (big num) = strip1 (big (back g0 cs).1) from fun cs hc hs => by rw [hend cs hc hs])
      have HD := Lib.hid (strip1_DS (l := big num) (by rw [big_len]; omega) (by rw [big_len]; omega) (fun d hd => by
        unfold big at hd
        obtain ⟨i, _, rfl⟩ := List.mem_map.1 hd
        exact h9.out _))
      have HT := Lib.hid (text_any A 20 num h9.out wr hR.out (by omega) (by omega))
      have ht3 : ¬ ((3 : Int) ≤ (t.size : Int)) := by omega
      clear hend hst h9 h3
      go_wp2_with (go_at_call 108; refine HT.out.mono ?_; rintro e w3 ⟨rfl, z, rfl⟩)
      go_ret
      exact ⟨_, rfl, HD.out, HE.out, by rw [HA.out]; exact hBw.out.trans ((below_drewN wr z).mono (Nat.le_of_lt hR.out.1))⟩

end Go.Proofs.YteelmjmiankflaaGreatDoor.Num
