/-
  Contracts of the reference's Keys and of the statements' light.
-/
import Derived.Test.YtmbccolkgephgaaAutFr
set_option linter.unusedVariables false
set_option linter.unusedSimpArgs false
set_option maxRecDepth 100000
namespace Go.Proofs.Ytmbccolkgephgaa.Aut
open Go Go.RowKit Go.Proofs.Ytmbccolkgephgaa.Kit Go.Proofs.Ytmbccolkgephgaa.Utf Go.Proofs.Ytmbccolkgephgaa.Rom

set_option maxHeartbeats 2000000 in
theorem rkeys_any (s : ByteArray) (w : World) (hs : s.size ≤ 1000000) :
    Calls Try.prog 28 #[.string s] w fun e w' => e = .returned (.string (ba (keysOf (bs s)))) ∧ Below w.heap.size w w' := by
  go_enter Try.func28, Try.ntmps28
  go_wp2
  go_loopw [4, 3] (fun i v wr => ∃ k : Nat, i = .int .i64 k ∧ k ≤ s.size ∧ v = .string (ba (keysOf ((bs s).take k))) ∧ wr = w) (fun i _ _ => s.size - (intOf i).toNat)
  case atStart => exact ⟨0, rfl, Nat.zero_le _, rfl, rfl⟩
  case round =>
    obtain ⟨k, rfl, hk, rfl, rfl⟩ := hrel
    by_cases hkl : k < s.size
    · have hrun := run_byte s k hkl
      have hbz := bz_bound s k
      have hsu := Lib.hid (keysOf_succ s k hkl)
      have hln : (keysOf ((bs s).take k)).length ≤ k := by
        have := keysOf_le ((bs s).take k)
        rw [List.length_take] at this; omega
      have hone := Lib.hid (one_more (keysOf ((bs s).take k)) s k hkl)
      have hbt := Lib.hid (bz_bt8 s k)
      have hes : (s.extract k (k + 1)).size = 1 := by rw [ByteArray.size_extract]; omega
      generalize keysOf ((bs s).take k) = xs at hsu hln hone
      have hxs : (ba xs).size = xs.length := ba_size _
      have hb2 : ¬ 9223372036854775807 < (ba xs).size + (s.extract k (k + 1)).size := by omega
      generalize bz s k = x at hrun hbz hbt
      generalize bt8 s k = c at hsu hbt hone
      obtain ⟨hb0, hb1⟩ := hbz
      have k0 : (0 : Int) ≤ k := by omega
      have k1 : (k : Int) + 1 ≤ s.size := by omega
      by_cases h1 : (33 : Int) ≤ x ∧ x ≤ 126
      · obtain ⟨h1, h2⟩ := h1
        have hK : isKb c = true := by unfold isKb; rw [decide_eq_true_eq]; have := hbt.out; omega
        have hs2 := hsu.out
        rw [hK, if_pos rfl] at hs2
        have HS := Lib.hid hs2
        clear hs2 hsu hK hxs
        go_wp2
        go_roundw
        case rel => exact ⟨k + 1, by go_num, by omega, by rw [HS.out, hone.out], trivial⟩
        case measure => simp [intOf]; omega
      · have hK : isKb c = false := by unfold isKb; rw [decide_eq_false_iff_not]; have := hbt.out; omega
        have hs2 := hsu.out
        rw [hK] at hs2
        simp only [Bool.false_eq_true, if_false, List.append_nil] at hs2
        have HS := Lib.hid hs2
        clear hs2 hsu hK hxs
        by_cases h2 : (33 : Int) ≤ x
        · have h3 : ¬ x ≤ 126 := by omega
          clear h1
          go_wp2
          go_roundw
          case rel => exact ⟨k + 1, by go_num, by omega, by rw [HS.out], trivial⟩
          case measure => simp [intOf]; omega
        · clear h1
          go_wp2
          go_roundw
          case rel => exact ⟨k + 1, by go_num, by omega, by rw [HS.out], trivial⟩
          case measure => simp [intOf]; omega
    · have e1 : (bs s).take k = bs s := List.take_of_length_le (by rw [bs_len]; omega)
      rw [e1]
      clear e1
      go_wp2
      go_ret
      exact ⟨rfl, Below.refl _ _⟩

/-- Rules and keys that are looked at. -/
def Lt (rs : List Rule) (s : ByteArray) : Prop := rs.length ≤ 600 ∧ s.size ≤ 200 ∧ ∀ r ∈ rs, r.k.size ≤ 40 ∧ r.o.size ≤ 40 ∧ r.n.size ≤ 40
theorem Lt.short {rs : List Rule} {s : ByteArray} (h : Lt rs s) : ∀ r ∈ rs, Short r := fun r hr => by
  have := h.2.2 r hr
  exact ⟨by omega, by omega, by omega⟩
def LightPost (rs : List Rule) (s : ByteArray) (w : World) (e : Ending) (w' : World) : Prop := ∃ x, e = .returned (.bool x) ∧ w' = w ∧ (x = true ↔ Lt rs s)
set_option maxHeartbeats 2000000 in
theorem light_any (v : Value) (rs : List Rule) (s : ByteArray) (w : World) (hR : RowR w v rs) (hs : s.size ≤ 140737488351232) :
    Calls Try.prog 14 #[v, .string s] w (LightPost rs s w) := by
  obtain ⟨a, len, cap, rfl, hlen, hcap, hmax, _⟩ := id hR
  subst hlen
  have HR := Lib.hid hR
  have hmx : rs.length ≤ maxLen := by omega
  unfold maxLen at hmx
  clear hR hmax
  go_enter Try.func14, Try.ntmps14
  go_wp2
  go_loopw [5] (fun i wr => ∃ k : Nat, i = .int .i64 k ∧ k ≤ rs.length ∧ Hid (∀ j, j < k → (ri rs j).k.size ≤ 40 ∧ (ri rs j).o.size ≤ 40 ∧ (ri rs j).n.size ≤ 40) ∧ wr = w) (fun i _ => rs.length - (intOf i).toNat)
  case atStart => exact ⟨0, rfl, Nat.zero_le _, Lib.hid (fun j hj => by omega), rfl⟩
  case round =>
    obtain ⟨k, rfl, hk, hall, rfl⟩ := hrel
    by_cases hkl : k < rs.length
    · obtain ⟨b, off, rfl, hb, hx⟩ := HR.out.at (by omega)
      obtain ⟨x0, x1, x2⟩ := hx k hkl
      have HA := Lib.hid (show (ri rs k).k.size ≤ 40 → (ri rs k).o.size ≤ 40 → (ri rs k).n.size ≤ 40 → ∀ j, j < k + 1 → (ri rs j).k.size ≤ 40 ∧ (ri rs j).o.size ≤ 40 ∧ (ri rs j).n.size ≤ 40 from fun h1 h2 h3 j hj => by
        rcases Nat.lt_or_ge j k with h | h
        · exact hall.out j h
        · rw [show j = k by omega]; exact ⟨h1, h2, h3⟩)
      have HM := Lib.hid (ri_mem hkl)
      clear hx
      generalize ri rs k = r at x0 x1 x2 HA HM
      have k0 : (0 : Int) ≤ k := by omega
      have k1 : (k : Int) < rs.length := by omega
      by_cases h1 : r.k.size ≤ 40
      · by_cases h2 : r.o.size ≤ 40
        · by_cases h3 : r.n.size ≤ 40
          · have HA2 := Lib.hid (HA.out h1 h2 h3)
            go_wp2
            go_roundw
            case rel => exact ⟨k + 1, by go_num, by omega, HA2, trivial⟩
            case measure => simp [intOf]; omega
          · go_wp2
            go_ret
            exact ⟨false, rfl, rfl, ⟨fun h => (by cases h), fun h => absurd (h.2.2 r HM.out).2.2 h3⟩⟩
        · go_wp2
          go_ret
          exact ⟨false, rfl, rfl, ⟨fun h => (by cases h), fun h => absurd (h.2.2 r HM.out).2.1 h2⟩⟩
      · go_wp2
        go_ret
        exact ⟨false, rfl, rfl, ⟨fun h => (by cases h), fun h => absurd (h.2.2 r HM.out).1 h1⟩⟩
    · have hpost : rs.length ≤ 600 → s.size ≤ 200 → Lt rs s := by
        refine fun h h' => ⟨h, h', fun r hr => ?_⟩
        obtain ⟨j, hj, rfl⟩ := List.getElem_of_mem hr
        have := hall.out j (by omega)
        unfold ri at this
        rw [List.getD_eq_getElem?_getD, List.getElem?_eq_getElem hj] at this
        exact this
      have HP := Lib.hid hpost
      clear hpost
      by_cases h6 : rs.length ≤ 600
      · by_cases h7 : s.size ≤ 200
        · have h6' : (rs.length : Int) ≤ 600 := by omega
          have h7' : (s.size : Int) ≤ 200 := by omega
          go_wp2
          go_ret
          exact ⟨true, ret_bool (by simp), rfl, ⟨fun _ => HP.out h6 h7, fun _ => rfl⟩⟩
        · have h6' : (rs.length : Int) ≤ 600 := by omega
          have h7' : ¬ (s.size : Int) ≤ 200 := by omega
          go_wp2
          go_ret
          exact ⟨false, ret_bool (by simp), rfl, ⟨fun h => (by cases h), fun h => absurd h.2.1 h7⟩⟩
      · have h6' : ¬ (rs.length : Int) ≤ 600 := by omega
        go_wp2
        go_ret
        exact ⟨false, ret_bool (by simp), rfl, ⟨fun h => (by cases h), fun h => absurd h.1 h6⟩⟩

/-! ### New, by cases -/
theorem new_no {v : Value} {rs : List Rule} {w : World} (hR : RowR w v rs) (hs : ∀ r ∈ rs, Short r) (hc : checkL rs ≠ 0) :
    Calls Try.prog 15 #[v] w fun e w' => e = .returned (.tuple #[.pointer none, .int .i64 (checkL rs)]) ∧ Below w.heap.size w w' := by
  refine (new_any v rs w hR hs).mono ?_
  rintro e w' ⟨hb, ⟨_, h⟩ | ⟨h, _⟩⟩
  · exact ⟨h, hb⟩
  · exact absurd h hc
theorem new_yes {v : Value} {rs : List Rule} {w : World} (hR : RowR w v rs) (hs : ∀ r ∈ rs, Short r) (hc : checkL rs = 0) :
    Calls Try.prog 15 #[v] w fun e w' => ∃ a, e = .returned (.tuple #[.pointer (some ⟨a, 0, none⟩), .int .i64 0]) ∧ AutoAt w'.heap.size w' a rs ∧ Below w.heap.size w w' := by
  refine (new_any v rs w hR hs).mono ?_
  rintro e w' ⟨hb, ⟨h, _⟩ | ⟨_, a, rfl, hA, _⟩⟩
  · exact absurd hc h
  · exact ⟨a, rfl, hA, hb⟩
theorem ba_app (a b : By) : ba (a ++ b) = ba a ++ ba b := ba_ext (by rw [ByteArray.data_append, Array.toList_append]; rfl)
theorem bs_app2 (a b : ByteArray) : bs (a ++ b) = bs a ++ bs b := by unfold bs; rw [ByteArray.data_append, Array.toList_append]
theorem u8_bounds {x : Int} (h : (Lit.int .u8 x).wf = true) : 0 ≤ x ∧ x < 256 := by
  simp only [Lit.wf, Bool.and_eq_true, decide_eq_true_eq] at h
  have h1 : IntKind.u8.min = 0 := rfl
  have h2 : IntKind.u8.max = 255 := rfl
  omega
theorem u8_of {x : Int} (h : (Lit.int .u8 x).wf = true) : ∃ c : UInt8, x = (c.toNat : Int) := by
  obtain ⟨h0, h1⟩ := u8_bounds h
  exact ⟨UInt8.ofNat x.toNat, by rw [toNat_ofNat _ (by omega)]; omega⟩

end Go.Proofs.Ytmbccolkgephgaa.Aut
