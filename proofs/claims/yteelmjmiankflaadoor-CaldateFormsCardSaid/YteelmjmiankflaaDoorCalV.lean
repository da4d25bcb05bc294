/-
  Contract of the reference's Number.
-/
import Derived.Test.YteelmjmiankflaaDoorCalS
set_option linter.unusedVariables false
set_option linter.unusedSimpArgs false
namespace Go.Proofs.YteelmjmiankflaaDoor.Cal
open Go Go.RowKit Go.Proofs.YteelmjmiankflaaDoor.Kit Go.Proofs.YteelmjmiankflaaDoor.Utf
open Go.Proofs.YteelmjmiankflaaDoor.Num

/-- What is still to be written before what is written. -/
def front (n r : Nat) : List Nat := if n = 0 then List.replicate r 0 else List.replicate (r - (digs n).length) 0 ++ digs n
theorem front_end : front 0 0 = [] := rfl
theorem front_pad (n k : Nat) (hk : 1 ≤ k) : front n k = pad k n := by
  unfold front
  by_cases h : n = 0
  · subst h
    unfold pad
    rw [if_pos rfl, digs_small (by decide), List.length_singleton, ← List.replicate_succ']
    rw [show k - 1 + 1 = k by omega]
  · rw [if_neg h]; rfl
theorem front_step (n r : Nat) (h : 0 < n ∨ 0 < r) : front n r = front (n / 10) (r - 1) ++ [n % 10] := by
  by_cases h0 : n = 0
  · subst h0
    have hr : 0 < r := by omega
    show List.replicate r 0 = List.replicate (r - 1) 0 ++ [0]
    rw [← List.replicate_succ', show r - 1 + 1 = r by omega]
  · by_cases h10 : n < 10
    · have e : n / 10 = 0 := by omega
      unfold front
      rw [if_neg h0, if_pos e, digs_small h10, List.length_singleton, show n % 10 = n by omega]
    · have e : ¬ n / 10 = 0 := by omega
      unfold front
      rw [if_neg h0, if_neg e, digs_step h10, List.length_append, List.length_singleton, ← List.append_assoc, show r - ((digs (n / 10)).length + 1) = r - 1 - (digs (n / 10)).length by omega]

def strSize : Value → Nat
  | .string b => b.size
  | _ => 0

theorem conv_digit (w : World) (z : Int) (r : Nat) (hr : r ≤ 9) (hz : z = 48 + r) : (convert 57 9 (.slice (some ⟨w.heap.size, 0, none⟩) 1 1)).run Tryd.prog (w.alloc (.cells #[.int .u8 z] 5)) = .ok (.string (tx [48 + (r : Int)])) (w.alloc (.cells #[.int .u8 z] 5)) := by
  have e : z = ((UInt8.ofNat (48 + r)).toNat : Int) := by rw [toNat_ofNat _ (by omega)]; omega
  have h := own_one w (.int .u8 z) 5 0 (Nat.zero_le _)
  rw [e] at h ⊢
  have := conv_bytes (P := Tryd.prog) (l := [UInt8.ofNat (48 + r)]) h Tryd.underlying57 Tryd.underlying5 Tryd.underlying9
  rw [this]
  unfold tx
  rw [show encs [48 + (r : Int)] = enc (48 + (r : Int)) by simp [encs], dg_enc r hr]

theorem number_at (n k : Nat) (hn : n ≤ 9999) (hk1 : 1 ≤ k) (hk : k ≤ 4) (w : World) :
    Calls Tryd.prog 28 #[.int .i64 n, .int .i64 k] w fun e w' => e = .returned (.string (tx (ascC (pad k n)))) ∧ Below w.heap.size w w' := by
  have HP := Lib.hid (front_pad n k hk1)
  have hpl := pad_len hn hk
  go_enter Tryd.func28, Tryd.ntmps28
  go_wp2
  go_loopw [0, 5] (fun a s wr => ∃ (q : Nat) (ds : List Nat), a = .int .i64 q ∧ q ≤ 9999 ∧ s = .string (tx (ascC ds)) ∧ Hid (∀ d ∈ ds, d ≤ 9) ∧ Hid (front q (k - ds.length) ++ ds = pad k n) ∧ Below w.heap.size w wr) (fun a s _ => (intOf a).toNat + (k - strSize s))
  case atStart => exact ⟨n, [], rfl, hn, by rfl, Lib.hid (fun d hd => by cases hd), Lib.hid (by rw [List.append_nil]; exact HP.out), Below.refl _ _⟩
  case round =>
    obtain ⟨q, ds, rfl, hq, rfl, h9, hfr, hb⟩ := hrel
    have hlen : ds.length ≤ 4 := by
      have := congrArg List.length hfr.out
      rw [List.length_append] at this; omega
    have hts : (tx (ascC ds)).size = ds.length := by rw [tx_size, asc_len ds h9.out]
    have hel := asc_len ds h9.out
    by_cases hgo : 0 < q ∨ ds.length < k
    · obtain ⟨r, hr⟩ : ∃ r, q % 10 = r := ⟨_, rfl⟩
      have hr9 : r ≤ 9 := by omega
      have hmod : (q : Int).tmod 10 = (r : Int) := by rw [Int.tmod_eq_emod_of_nonneg (by omega)]; omega
      obtain ⟨q2, hq2⟩ : ∃ q2, q / 10 = q2 := ⟨_, rfl⟩
      have hdiv : (q : Int).tdiv 10 = (q2 : Int) := by rw [Int.tdiv_eq_ediv_of_nonneg (by omega)]; omega
      have hq29 : q2 ≤ 9999 := by omega
      obtain ⟨z, hz⟩ : ∃ z : Int, 48 + (r : Int) = z := ⟨_, rfl⟩
      have hw : IntKind.u8.wrap z = z := IntWalk.u8_in _ ⟨by omega, by omega⟩
      have hcv := conv_digit wr z r hr9 hz.symm
      have hadd := add_tx [48 + (r : Int)] (ascC ds) (by
        have : ∀ r : Nat, r ≤ 9 → (encs [48 + (r : Int)]).length = 1 := by decide
        rw [this r hr9]; omega)
      have hcons : [48 + (r : Int)] ++ ascC ds = ascC (r :: ds) := by rw [ascC_map, ascC_map]; rfl
      rw [hcons, hz] at hadd
      rw [hz] at hcv
      have HFR := Lib.hid (show front q2 (k - (r :: ds).length) ++ (r :: ds) = pad k n by
        rw [← hfr.out, front_step q (k - ds.length) (by omega), hr, hq2, List.append_assoc, List.length_cons, show k - (ds.length + 1) = k - ds.length - 1 by omega]; rfl)
      have H9 := Lib.hid (show ∀ d ∈ r :: ds, d ≤ 9 by
        intro d hd
        rcases List.mem_cons.1 hd with rfl | hd
        · exact hr9
        · exact h9.out d hd)
      have hts2 : (tx (ascC (r :: ds))).size = ds.length + 1 := by rw [tx_size, asc_len _ H9.out]; rfl
      have HTS2 := Lib.hid hts2
      have HTS := Lib.hid hts
      have hb2 := hb.alloc hb.size (.cells #[.int .u8 z] 5)
      have hz1 : 48 ≤ z := by omega
      have hz2 : z ≤ 57 := by omega
      obtain ⟨L, hL⟩ : ∃ L, ds.length = L := ⟨_, rfl⟩
      have HL := Lib.hid hL
      rw [hL] at hgo hts hlen hel
      obtain ⟨D2, hD2⟩ : ∃ D2, ascC (r :: ds) = D2 := ⟨_, rfl⟩
      rw [hD2] at hadd hts2 HTS2
      have HD2 := Lib.hid hD2
      clear hD2
      generalize ascC ds = D at *
      have HQ := Lib.hid (show q2 < q ∨ q2 = 0 ∧ q = 0 by omega)
      clear hcons hts2 hfr h9 hr hL hq2
      by_cases hq0 : 0 < q
      · have hq1 : (0 : Int) < q := by omega
        go_wp2
        go_roundw
        case rel => exact ⟨q2, r :: ds, rfl, hq29, by rw [HD2.out], H9, HFR, hb2⟩
        case measure =>
          have e1 := HTS2.out
          have e2 := HTS.out
          have e3 := HL.out
          simp only [intOf, strSize, Array.getD_eq_getD_getElem?]
          simp [intOf, strSize]
          rcases HQ.out with h | h <;> omega
      · have hq1 : ¬ ((0 : Int) < q) := by omega
        have hLk : (L : Int) < k := by omega
        go_wp2
        go_roundw
        case rel => exact ⟨q2, r :: ds, rfl, hq29, by rw [HD2.out], H9, HFR, hb2⟩
        case measure =>
          have e1 := HTS2.out
          have e2 := HTS.out
          have e3 := HL.out
          simp [intOf, strSize]
          rcases HQ.out with h | h <;> omega
    · have hq1 : ¬ ((0 : Int) < q) := by omega
      have hLk : ¬ ((ds.length : Int) < k) := by omega
      have hfin : ds = pad k n := by
        rw [← hfr.out, show k - ds.length = 0 by omega, show q = 0 by omega]; rfl
      have HFN := Lib.hid hfin
      clear hfin hfr hgo
      go_wp2
      go_ret
      exact ⟨by rw [← HFN.out]; rfl, hb⟩

end Go.Proofs.YteelmjmiankflaaDoor.Cal
