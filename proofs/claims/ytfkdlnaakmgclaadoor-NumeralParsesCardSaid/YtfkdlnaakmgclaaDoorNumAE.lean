/-
  Contracts of the reference's put and text; the row of digits.
-/
import Derived.Test.YtfkdlnaakmgclaaDoorNumAD
import Derived.Lib.ConvBytes
set_option linter.unusedVariables false
set_option linter.unusedSimpArgs false
namespace Go.Proofs.YtfkdlnaakmgclaaDoor.Num
open Go Go.RowKit Go.Proofs.YtfkdlnaakmgclaaDoor.Kit Go.Proofs.YtfkdlnaakmgclaaDoor.Utf

/-- Twenty digits in memory, as characters. -/
def Row (w : World) (A : Nat) (num : Nat → Nat) : Prop :=
  A < w.heap.size ∧ (∀ i, i < 20 → w.cell? ⟨A, i, none⟩ = some (.int .u8 ((48 + num (19 - i) : Nat) : Int))) ∧ ∀ i, i < 20 → w.frozen? ⟨A, i, none⟩ = false
theorem Row.next {w w' : World} {A B : Nat} {num : Nat → Nat} (h : Row w A num) (hb : Below B w w') (hA : A < B) : Row w' A num :=
  ⟨Nat.lt_of_lt_of_le h.1 hb.size, fun i hi => by rw [hb.cell (p := ⟨A, i, none⟩) hA]; exact h.2.1 i hi, fun i hi => by rw [hb.frozen (p := ⟨A, i, none⟩) hA]; exact h.2.2 i hi⟩
theorem Row.drewN {w : World} {A : Nat} {num : Nat → Nat} (h : Row w A num) (z : Nat) : Row (w.drewN z) A num := h.next (below_drewN w z) h.1
theorem Row.congr {w : World} {A : Nat} {num num' : Nat → Nat} (h : Row w A num) (e : ∀ p, p < 20 → num p = num' p) : Row w A num' :=
  ⟨h.1, fun i hi => by rw [← e (19 - i) (by omega)]; exact h.2.1 i hi, h.2.2⟩
theorem Row.set {w : World} {A : Nat} {num : Nat → Nat} (h : Row w A num) {q p : Nat} (hq : p + q = 19) (x : Nat) (v : Value) (hv : v = .int .u8 ((48 + x : Nat) : Int)) : Row (w.setCell ⟨A, q, none⟩ v) A (fun i => if i = p then x else num i) := by
  subst hv
  refine ⟨Nat.lt_of_lt_of_le h.1 ((Below.refl 0 w).setCell (p := ⟨A, q, none⟩) (Nat.zero_le _) _).size, fun i hi => ?_, fun i hi => ?_⟩
  · by_cases e : i = q
    · subst e
      rw [World.cell?_setCell_same _ _ _ (h.2.1 i hi)]
      show _ = some (Value.int .u8 ((48 + (if 19 - i = p then x else num (19 - i)) : Nat) : Int))
      rw [if_pos (by omega)]
    · rw [World.cell?_setCell_other _ _ _ _ (by intro he; cases he; exact e rfl)]
      show _ = some (Value.int .u8 ((48 + (if 19 - i = p then x else num (19 - i)) : Nat) : Int))
      rw [if_neg (by omega)]
      exact h.2.1 i hi
  · rw [World.frozen?_setCell]; exact h.2.2 i hi

theorem put_any (A cap B p : Nat) (num : Nat → Nat) (w : World) (hR : Row w A num) (hB : B ≤ A) (hp : p ≤ 19) (h9 : num p ≤ 9) :
    Calls Tryd.prog 61 #[.slice (some ⟨A, 0, none⟩) 20 cap, .int .i64 p, .int .i64 1] w fun e w' => (∃ b, e = .returned (.bool b)) ∧ Row w' A (fun i => if i = p ∧ num i = 0 then 1 else num i) ∧ Below B w w' := by
  obtain ⟨q, hq⟩ : ∃ q, p + q = 19 := ⟨19 - p, by omega⟩
  have hc := hR.2.1 q (by omega)
  have hf := hR.2.2 q (by omega)
  rw [show 19 - q = p by omega] at hc
  have q0 : (0 : Int) ≤ (q : Int) := by omega
  have q1 : (q : Int) < 20 := by omega
  have i1 : (20 : Int) - 1 - (p : Int) = (q : Int) := by omega
  have i2 : (19 : Int) - (p : Int) = (q : Int) := by omega
  have p20 : (p : Int) < 20 := by omega
  by_cases hz : num p = 0
  · rw [hz] at hc
    have HR := Lib.hid (show ∀ z, Row ((w.drewN z).setCell ⟨A, q, none⟩ (.int .u8 49)) A (fun i => if i = p ∧ num i = 0 then 1 else num i) from fun z =>
      ((hR.drewN z).set hq 1 (.int .u8 49) rfl).congr fun i hi => by
        by_cases e : i = p
        · subst e; rw [if_pos rfl, if_pos ⟨rfl, hz⟩]
        · rw [if_neg e, if_neg (fun h => e h.1)])
    have HB := Lib.hid (show ∀ z, Below B w ((w.drewN z).setCell ⟨A, q, none⟩ (.int .u8 49)) from fun z => ((below_drewN w z).mono (Nat.le_trans hB (Nat.le_of_lt hR.1))).setCell (p := ⟨A, q, none⟩) hB _)
    have hc' : w.cell? ⟨A, q, none⟩ = some (.int .u8 48) := hc
    clear hR hc hz h9 hq
    go_enter Tryd.func61, Tryd.ntmps61
    go_wp2
    go_ret
    exact ⟨⟨_, rfl⟩, by first | exact HR.out _ | exact HR.out 0, by first | exact HB.out _ | exact HB.out 0⟩
  · obtain ⟨x, hx⟩ : ∃ x : Int, ((48 + num p : Nat) : Int) = x := ⟨_, rfl⟩
    rw [hx] at hc
    have hx48 : ¬ x = 48 := by omega
    have hxb : (x != 48) = true := by simpa using hx48
    have HR := Lib.hid (show ∀ z, Row (w.drewN z) A (fun i => if i = p ∧ num i = 0 then 1 else num i) from fun z =>
      (hR.drewN z).congr fun i hi => by
        by_cases e : i = p
        · subst e; rw [if_neg (fun h => hz h.2)]
        · rw [if_neg (fun h => e h.1)])
    have HB := Lib.hid (show ∀ z, Below B w (w.drewN z) from fun z => (below_drewN w z).mono (Nat.le_trans hB (Nat.le_of_lt hR.1)))
    clear hR hz h9 hq hx
    go_enter Tryd.func61, Tryd.ntmps61
    go_wp2
    go_ret
    exact ⟨⟨_, rfl⟩, by first | exact HR.out _ | exact HR.out 0, by first | exact HB.out _ | exact HB.out 0⟩

theorem big_cells {w : World} {A : Nat} {num : Nat → Nat} (hR : Row w A num) (h9 : ∀ p, num p ≤ 9) (k : Nat) (j : Nat) (v : Value) (h : (u8s (((big num).drop k).map fun x => UInt8.ofNat (48 + x)))[j]? = some v) : w.cell? ((⟨A, k, none⟩ : Addr).add j) = some v := by
  have e : (⟨A, k, none⟩ : Addr).add j = ⟨A, k + j, none⟩ := by simp [Addr.add]
  rw [e]
  unfold u8s at h
  rw [List.getElem?_map, List.getElem?_map, List.getElem?_drop] at h
  by_cases hj : k + j < 20
  · rw [big_get num (k + j) hj] at h
    rw [hR.2.1 _ hj, ← h]
    have := h9 (19 - (k + j))
    show _ = some (Value.int .u8 ((UInt8.ofNat (48 + num (19 - (k + j)))).toNat : Int))
    rw [toNat_ofNat _ (by omega)]
  · rw [List.getElem?_eq_none (by rw [big_len]; omega)] at h
    cases h
theorem conv_row {w : World} {A : Nat} {num : Nat → Nat} (hR : Row w A num) (h9 : ∀ p, num p ≤ 9) (k n c : Nat) (hn : n + k = 20) :
    (convert 29 9 (.slice (some ⟨A, k, none⟩) n c)).run Tryd.prog w = .ok (.string (dg ((big num).drop k))) w := by
  obtain ⟨l, hl⟩ : ∃ l, ((big num).drop k).map (fun x => UInt8.ofNat (48 + x)) = l := ⟨_, rfl⟩
  have hc := big_cells hR h9 k
  rw [hl] at hc
  have hln : l.length = n := by rw [← hl, List.length_map, List.length_drop, big_len]; omega
  rw [run_convert_bytes_string w _ _ 5 _ _ _ Tryd.underlying29 Tryd.underlying5 Tryd.underlying9]
  rw [run_bytesToString w ⟨A, k, none⟩ n c (l.map fun b => (b.toNat : Int))]
  · congr 2
    apply ba_ext
    rw [foldl_push]
    show _ = bs (dg ((big num).drop k))
    rw [bs_dg, hl]; simp
  · have hx := run_loadCells_list (P := Tryd.prog) (w := w) ⟨A, k, none⟩ (u8s l) hc
    rw [u8s_len, hln] at hx
    rw [hx]
    simp [u8s]

theorem strip1_step {num : Nat → Nat} {k : Nat} (hk : k < 19) (hz : num (19 - k) = 0) : strip1 ((big num).drop k) = strip1 ((big num).drop (k + 1)) := by
  have h1 : k < (big num).length := by rw [big_len]; omega
  have h2 : k + 1 < (big num).length := by rw [big_len]; omega
  rw [List.drop_eq_getElem_cons h1, List.drop_eq_getElem_cons h2]
  have e : (big num)[k] = num (19 - k) := by
    have := big_get num k (by omega)
    rw [List.getElem?_eq_getElem h1] at this
    exact Option.some.inj this
  show (if (big num)[k] = 0 then _ else _) = _
  rw [e, if_pos hz]
theorem strip1_stop {num : Nat → Nat} {k : Nat} (hk : k ≤ 19) (hz : k = 19 ∨ num (19 - k) ≠ 0) : strip1 ((big num).drop k) = (big num).drop k := by
  have h1 : k < (big num).length := by rw [big_len]; omega
  rw [List.drop_eq_getElem_cons h1]
  rcases hz with rfl | hz
  · rw [List.drop_of_length_le (by rw [big_len]; omega)]; rfl
  · have e : (big num)[k] = num (19 - k) := by
      have := big_get num k (by omega)
      rw [List.getElem?_eq_getElem h1] at this
      exact Option.some.inj this
    cases (big num).drop (k + 1) with
    | nil => rfl
    | cons y t =>
      show (if (big num)[k] = 0 then _ else _) = _
      rw [e, if_neg hz]

set_option maxHeartbeats 1000000 in
theorem text_any (A cap : Nat) (num : Nat → Nat) (h9 : ∀ p, num p ≤ 9) (w : World) (hR : Row w A num) (hcap : 20 ≤ cap) (hcm : cap ≤ 9223372036854775807) :
    Calls Tryd.prog 62 #[.slice (some ⟨A, 0, none⟩) 20 cap] w fun e w' => e = .returned (.string (dg (strip1 (big num)))) ∧ ∃ z, w' = w.drewN z := by
  have HR := Lib.hid hR; have H9 := Lib.hid h9
  clear hR h9
  go_enter Tryd.func62, Tryd.ntmps62
  go_wp2
  go_loopw [3] (fun iv wr => ∃ k : Nat, iv = .int .i64 k ∧ k ≤ 19 ∧ Hid (strip1 (big num) = strip1 ((big num).drop k)) ∧ ∃ z, wr = w.drewN z) (fun iv _ => 20 - (intOf iv).toNat)
  case atStart => exact ⟨0, rfl, Nat.zero_le _, Lib.hid rfl, 0, rfl⟩
  case round =>
    obtain ⟨k, rfl, hk, hst, z, rfl⟩ := hrel
    have hc := HR.out.2.1 k (by omega)
    have k0 : (0 : Int) ≤ (k : Int) := by omega
    have k1 : (k : Int) < 20 := by omega
    obtain ⟨x, hx⟩ : ∃ x : Int, ((48 + num (19 - k) : Nat) : Int) = x := ⟨_, rfl⟩
    rw [hx] at hc
    by_cases hgo : k < 19 ∧ num (19 - k) = 0
    · have hk19 := hgo.1
      have HS := Lib.hid (hst.out.trans (strip1_step hgo.1 hgo.2))
      obtain rfl : x = 48 := by rw [← hx, hgo.2]; rfl
      clear hx hgo hst
      go_wp2
      go_roundw
      case rel => exact ⟨k + 1, by go_num, by omega, HS, by first | exact ⟨_, rfl⟩ | exact ⟨_, World.drewN_drewN _ _ _⟩⟩
      case measure => simp [intOf] <;> omega
    · have hcase : k = 19 ∨ (k < 19 ∧ ¬ x = 48) := by omega
      have HS := Lib.hid (hst.out.trans (strip1_stop hk (by omega)))
      have hcv := fun z => conv_row (HR.out.drewN z) H9.out k (20 - k) (cap - k) (by omega)
      obtain ⟨o, ho⟩ : ∃ o, dg ((big num).drop k) = o := ⟨_, rfl⟩
      simp only [ho] at hcv
      have HO := Lib.hid ho
      clear ho
      clear hx hgo hst
      have hcase' : (19 : Int) ≤ (k : Int) ∨ ((k : Int) < 19 ∧ ¬ x = 48) := by omega
      clear hcase
      rcases hcase' with h | ⟨h, h'⟩
      all_goals
        go_wp2
        go_ret
        exact ⟨by rw [HS.out, HO.out]; rfl, _, rfl⟩

end Go.Proofs.YtfkdlnaakmgclaaDoor.Num
