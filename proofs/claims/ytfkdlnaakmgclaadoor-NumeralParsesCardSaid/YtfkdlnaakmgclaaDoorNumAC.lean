/-
  Contracts of the reference's index and digitwise.
-/
import Derived.Test.YtfkdlnaakmgclaaDoorNumAA
set_option linter.unusedVariables false
set_option linter.unusedSimpArgs false
namespace Go.Proofs.YtfkdlnaakmgclaaDoor.Num
open Go Go.RowKit Go.Proofs.YtfkdlnaakmgclaaDoor.Kit Go.Proofs.YtfkdlnaakmgclaaDoor.Utf

/-- The first of a list that is there and is c, counted from k. -/
def ixG (c : List UInt8) : Nat → List (List UInt8) → Int
  | _, [] => -1
  | k, x :: t => if x ≠ [] ∧ x = c then k else ixG c (k + 1) t
def ixC (L : List (List UInt8)) (c : List UInt8) : Int := ixG c 0 L
theorem ixG_le (c : List UInt8) : ∀ (L : List (List UInt8)) (k : Nat), -1 ≤ ixG c k L ∧ ixG c k L < k + L.length ∨ ixG c k L = -1 := by
  intro L
  induction L with
  | nil => intro k; right; rfl
  | cons x t ih =>
    intro k
    unfold ixG
    split
    · left; simp; omega
    · rcases ih (k + 1) with h | h
      · left; simp; omega
      · right; exact h
theorem ixC_le (L : List (List UInt8)) (c : List UInt8) : -1 ≤ ixC L c ∧ (ixC L c < L.length ∨ ixC L c = -1) := by
  unfold ixC
  rcases ixG_le c L 0 with h | h
  · exact ⟨h.1, .inl (by have := h.2; omega)⟩
  · rw [h]; exact ⟨Int.le_refl _, .inr rfl⟩

set_option maxHeartbeats 1000000 in
theorem index_any (L : List (List UInt8)) (n : Nat) (hn : L.length = n) (hn10 : n ≤ 10) (hL3 : ∀ x ∈ L, x.length = 0 ∨ x.length = 3) (g : Nat) (s : ByteArray) (at_ : Int) (h0 : 0 ≤ at_) (h3 : at_ + 3 ≤ s.size) (hs : s.size ≤ 140737488355000) (w : World) (hat : AtStrs w g L) :
    Calls Tryd.prog 60 #[.slice (some ⟨g, 0, none⟩) n n, .string s, .int .i64 at_] w fun e w' => e = .returned (.int .i64 (ixC L (((bs s).drop at_.toNat).take 3))) ∧ ∃ z, w' = w.drewN z := by
  obtain ⟨c, hc⟩ : ∃ c, ((bs s).drop at_.toNat).take 3 = c := ⟨_, rfl⟩
  rw [hc]
  have HC := Lib.hid hc; have HL3 := Lib.hid hL3; have HN := Lib.hid hn; have HAT := Lib.hid hat
  clear hc hL3 hn hat
  go_enter Tryd.func60, Tryd.ntmps60
  go_wp2
  go_loopw [7] (fun iv wr => ∃ i : Nat, iv = .int .i64 i ∧ i ≤ n ∧ Hid (ixC L c = ixG c i (L.drop i)) ∧ ∃ z, wr = w.drewN z) (fun iv _ => n - (intOf iv).toNat)
  case atStart => exact ⟨0, rfl, Nat.zero_le _, Lib.hid rfl, 0, rfl⟩
  case round =>
    obtain ⟨i, rfl, hi, hix, z, rfl⟩ := hrel
    by_cases hlt : i < n
    · have hil : i < L.length := by rw [HN.out]; exact hlt
      have hcell : w.cell? ⟨g, i, none⟩ = some (.string ⟨L[i].toArray⟩) := HAT.out.cell (List.getElem?_eq_getElem hil)
      have hl3 := HL3.out L[i] (List.getElem_mem hil)
      have hcons : L.drop i = L[i] :: L.drop (i + 1) := List.drop_eq_getElem_cons hil
      obtain ⟨x, hx⟩ : ∃ x, L[i] = x := ⟨_, rfl⟩
      rw [hx] at hcell hl3 hcons
      obtain ⟨b, hb⟩ : ∃ b, ByteArray.mk x.toArray = b := ⟨_, rfl⟩
      have hbx : bs b = x := by rw [← hb]
      have hbz : b.size = x.length := by rw [← hbx, bs_len]
      rw [hb] at hcell
      have hst := hix.out
      rw [hcons] at hst
      unfold ixG at hst
      have i0 : (0 : Int) ≤ (i : Int) := by omega
      have i1 : (i : Int) < (n : Int) := by omega
      by_cases hz : x.length = 0
      · have hxe : x = [] := List.eq_nil_of_length_eq_zero hz
        rw [if_neg (fun e => e.1 hxe)] at hst
        have HX := Lib.hid hst
        rw [hz] at hbz
        have hbe : b = { data := #[] } := by rw [← hb, hxe]
        subst hbe
        clear hil hx hb hbx hst hcons hl3 hz hxe hix hbz
        go_wp2
        go_quiet (fail)
        go_wp2
        go_roundw
        case rel => exact ⟨i + 1, by go_num, by omega, HX, by first | exact ⟨_, rfl⟩ | exact ⟨_, World.drewN_drewN _ _ _⟩⟩
        case measure => simp [intOf] <;> omega
      · have hx3 : x.length = 3 := by rcases hl3 with h | h; exact absurd h hz; exact h
        rw [hx3] at hbz
        have hcut : s.extract at_.toNat (at_.toNat + 3) = ⟨c.toArray⟩ := by
          apply ba_ext
          rw [Lib.extract_data]
          show ((bs s).drop at_.toNat).take (at_.toNat + 3 - at_.toNat) = _
          rw [show at_.toNat + 3 - at_.toNat = 3 by omega, HC.out]
        have hsl : ∀ w, (Instr.slice 9 (.string s) (some (.int .i64 at_)) (some (.int .i64 (at_ + 3))) none).run Tryd.prog w = .ok (.string ⟨c.toArray⟩) w := fun w => by
          have e2 : (at_ + 3).toNat = at_.toNat + 3 := by omega
          rw [run_slice_string_if w 9 _ .i64 .i64 _ _ Tryd.underlying9, e2, hcut]
          rw [if_pos (by omega), if_pos (by omega)]
        have heq : ((⟨c.toArray⟩ : ByteArray).toList == b.toList) = decide (x = c) := by
          rw [ByteArray.toList_eq, ByteArray.toList_eq]
          show (c.toArray.toList == bs b) = _
          rw [hbx, List.toList_toArray]
          by_cases e : x = c
          · rw [e]; simp
          · rw [decide_eq_false e]; simp only [beq_eq_false_iff_ne]; exact fun h => e h.symm
        obtain ⟨cb, hcb⟩ : ∃ cb, ByteArray.mk c.toArray = cb := ⟨_, rfl⟩
        rw [hcb] at heq
        simp only [hcb] at hsl
        have hb3 : (b.size : Int) = 3 := by omega
        have hxn : x ≠ [] := fun e => by rw [e] at hx3; cases hx3
        by_cases e : x = c
        · rw [decide_eq_true e] at heq
          rw [if_pos ⟨hxn, e⟩] at hst
          have HX := Lib.hid hst
          clear hil hx hb hbx hst hcons hl3 hz hx3 hix hcut hcb hxn e
          go_wp2
          go_quiet (fail)
          go_wp2
          go_ret
          exact ⟨by rw [HX.out]; rfl, by first | exact ⟨_, rfl⟩ | exact ⟨_, World.drewN_drewN _ _ _⟩⟩
        · rw [decide_eq_false e] at heq
          rw [if_neg (fun h => e h.2)] at hst
          have HX := Lib.hid hst
          clear hil hx hb hbx hst hcons hl3 hz hx3 hix hcut hcb hxn e
          go_wp2
          go_quiet (fail)
          go_wp2
          go_roundw
          case rel => exact ⟨i + 1, by go_num, by omega, HX, by first | exact ⟨_, rfl⟩ | exact ⟨_, World.drewN_drewN _ _ _⟩⟩
          case measure => simp [intOf] <;> omega
    · have hin : i = n := by omega
      have hfin : ixC L c = -1 := by rw [hix.out, List.drop_of_length_le (by rw [HN.out]; omega)]; rfl
      have HF := Lib.hid hfin
      clear hfin hix hlt
      subst hin
      go_wp2
      go_ret
      exact ⟨by rw [HF.out]; rfl, _, rfl⟩

theorem len3_pd : ∀ x ∈ lPd, x.length = 0 ∨ x.length = 3 := by decide
theorem ix_pd : ∀ d, d ≤ 9 → ixC lPd (encs [pd d]) = (d : Int) := by decide

theorem posC_len (ds : List Nat) (h : ∀ d ∈ ds, d ≤ 9) : (encs (posC ds)).length = 3 * ds.length := by
  rw [posC_map]
  induction ds with
  | nil => rfl
  | cons d ds ih =>
    rw [List.map_cons, encs_cons, List.length_append, ih (fun x hx => h x (List.mem_cons_of_mem _ hx)), List.length_cons]
    have := len_pd d (h d (List.mem_cons_self ..))
    rw [encs_cons, List.length_append] at this
    have h0 : (encs ([] : List Int)).length = 0 := rfl
    omega
theorem posC_at (ds : List Nat) (h : ∀ d ∈ ds, d ≤ 9) (k : Nat) (hk : k < ds.length) : ((encs (posC ds)).drop (3 * k)).take 3 = encs [pd ds[k]] := by
  have e : posC ds = posC (ds.take k) ++ ([pd ds[k]] ++ posC (ds.drop (k + 1))) := by
    rw [posC_map, posC_map, posC_map, List.map_drop, List.map_take]
    have h1 : (ds.map pd).drop k = pd ds[k] :: (ds.map pd).drop (k + 1) := by
      rw [List.drop_eq_getElem_cons (by simpa using hk), List.getElem_map]
    rw [List.singleton_append, ← h1, List.take_append_drop]
  have l1 := posC_len (ds.take k) (fun x hx => h x (List.mem_of_mem_take hx))
  have l2 : (ds.take k).length = k := by rw [List.length_take]; omega
  rw [l2] at l1
  have l3 := len_pd ds[k] (h _ (List.getElem_mem hk))
  rw [e, encs_append, encs_append, List.drop_append_of_le_length (by omega), List.drop_of_length_le (by omega), List.nil_append, List.take_append_of_le_length (by omega), List.take_of_length_le (by omega)]

/-- What digitwise returns: some digits; where plain digits stand one after the other, they. -/
def DwPost (s : ByteArray) (w : World) (e : Ending) (w' : World) : Prop :=
  ∃ es : List Nat, e = .returned (.string (dg es)) ∧ es.length ≤ s.size ∧ (∀ ds, (∀ d ∈ ds, d ≤ 9) → s = tx (posC ds) → es = ds) ∧ Below w.heap.size w w'

set_option maxHeartbeats 1000000 in
theorem digitwise_any (s : ByteArray) (w : World) (hs : s.size ≤ 140737488355000) :
    Calls Tryd.prog 42 #[.string s] w (DwPost s w) := by
  go_enter Tryd.func42, Tryd.ntmps42
  go_wp2
  go_loopw [3, 4, 5] (fun ov iv _ wr => ∃ (p : Int) (es : List Nat), iv = .int .i64 p ∧ ov = Value.string (dg es) ∧ 0 ≤ p ∧ p ≤ s.size ∧ (es.length : Int) ≤ p ∧ Hid (∃ k : Nat, p = 3 * (k : Int) ∧ ∀ ds, (∀ d ∈ ds, d ≤ 9) → s = tx (posC ds) → es = ds.take k) ∧ Below w.heap.size w wr) (fun _ iv _ _ => s.size - (intOf iv).toNat)
  case atStart => exact ⟨0, [], rfl, rfl, Int.le_refl _, by omega, by simp, Lib.hid ⟨0, rfl, fun _ _ _ => rfl⟩, Below.refl _ _⟩
  case round =>
    obtain ⟨p, es, rfl, rfl, hp0, hps, hel, hsp, hb⟩ := hrel
    by_cases hlt : p + 3 ≤ s.size
    · have HI := Lib.hid (fun g w hat => index_any lPd 10 rfl (by omega) len3_pd g s p hp0 hlt hs w hat)
      have hle := ixC_le lPd (((bs s).drop p.toNat).take 3)
      rw [show ((lPd.length : Nat) : Int) = 10 from rfl] at hle
      have hne : ∀ ds, (∀ d ∈ ds, d ≤ 9) → s = tx (posC ds) → ∃ k : Nat, p = 3 * (k : Int) ∧ ∃ hk : k < ds.length, es = ds.take k ∧ ixC lPd (((bs s).drop p.toNat).take 3) = (ds[k] : Int) := fun ds h9 he => by
        obtain ⟨k, hk, hall⟩ := hsp.out
        have hz : s.size = 3 * ds.length := by rw [he, tx_size, posC_len ds h9]
        have hkl : k < ds.length := by omega
        refine ⟨k, hk, hkl, hall ds h9 he, ?_⟩
        rw [show p.toNat = 3 * k by omega, he, bs_tx, posC_at ds h9 k hkl, ix_pd _ (h9 _ (List.getElem_mem hkl))]
      obtain ⟨k0, hk0, _⟩ := hsp.out
      obtain ⟨r, hr⟩ : ∃ r, ixC lPd (((bs s).drop p.toNat).take 3) = r := ⟨_, rfl⟩
      rw [hr] at HI hle
      simp only [hr] at hne
      by_cases h0 : 0 ≤ r
      · obtain ⟨d, rfl⟩ : ∃ d : Nat, r = (d : Int) := ⟨r.toNat, by omega⟩
        have hd : d ≤ 9 := by omega
        have hsl := fun w => cut_digit d hd .i64 .i64 (d : Int) ((d : Int) + 1) rfl rfl w
        have hadd : ∀ w, (Op.stringOp .add (dg es) (dg [d])).run Tryd.prog w = .ok (.string (dg (es ++ [d]))) w := fun w => by
          rw [← dg_append]
          exact run_string_add_sum (P := Tryd.prog) (w := w) _ _ (by rw [dg_size, dg_size]; simp; omega)
        have HQ := Lib.hid (show ∃ k : Nat, p + 3 = 3 * (k : Int) ∧ ∀ ds, (∀ d ∈ ds, d ≤ 9) → s = tx (posC ds) → es ++ [d] = ds.take k from ⟨k0 + 1, by omega, fun ds h9 he => by
          obtain ⟨k, hk, hkl, h1, h2⟩ := hne ds h9 he
          have : k = k0 := by omega
          subst this
          have h3 : d = ds[k] := by omega
          rw [List.take_succ_eq_append_getElem hkl, h1, h3]⟩)
        have d9 : (d : Int) ≤ 9 := by omega
        clear hr hne hle hk0 hsp
        go_wp2_with (first
          | (go_at_call 33; refine (plain_any _).mono ?_; rintro e w2 ⟨rfl, hat, hb2⟩; have hb3 := hb.trans (hb2.mono hb.size))
          | (go_at_call 60; refine (HI.out _ _ hat).mono ?_; rintro e w3 ⟨rfl, z, rfl⟩))
        have hb4 := hb3.trans ((below_drewN w2 z).mono hb3.size)
        go_roundw
        case rel => exact ⟨p + 3, es ++ [d], by go_num, rfl, by omega, by omega, by simp; omega, HQ, hb4⟩
        case measure => simp [intOf] <;> omega
      · have hrm : r = -1 := by omega
        subst hrm
        have HQ := Lib.hid (show ∃ k : Nat, p + 3 = 3 * (k : Int) ∧ ∀ ds, (∀ d ∈ ds, d ≤ 9) → s = tx (posC ds) → es = ds.take k from ⟨k0 + 1, by omega, fun ds h9 he => by
          obtain ⟨k, hk, hkl, h1, h2⟩ := hne ds h9 he
          omega⟩)
        clear hr hne hle hk0 hsp h0
        go_wp2_with (first
          | (go_at_call 33; refine (plain_any _).mono ?_; rintro e w2 ⟨rfl, hat, hb2⟩; have hb3 := hb.trans (hb2.mono hb.size))
          | (go_at_call 60; refine (HI.out _ _ hat).mono ?_; rintro e w3 ⟨rfl, z, rfl⟩))
        have hb4 := hb3.trans ((below_drewN w2 z).mono hb3.size)
        go_roundw
        case rel => exact ⟨p + 3, es, by go_num, rfl, by omega, by omega, by omega, HQ, hb4⟩
        case measure => simp [intOf] <;> omega
    · have HF := Lib.hid (show ∀ ds, (∀ d ∈ ds, d ≤ 9) → s = tx (posC ds) → es = ds from fun ds h9 he => by
        obtain ⟨k, hk, hall⟩ := hsp.out
        have hz : s.size = 3 * ds.length := by rw [he, tx_size, posC_len ds h9]
        rw [hall ds h9 he, List.take_of_length_le (by omega)])
      clear hsp
      go_wp2
      go_ret
      exact ⟨es, rfl, by omega, HF.out, hb⟩

end Go.Proofs.YtfkdlnaakmgclaaDoor.Num
