/-
  Contracts of the program's Find and Longer, the reference's Longer and Check.
-/
import Derived.Test.YtpaeppklkicngaaDoorRomF
set_option linter.unusedVariables false
set_option linter.unusedSimpArgs false
set_option maxRecDepth 100000
namespace Go.Proofs.YtpaeppklkicngaaDoor.Rom
open Go Go.RowKit Go.Proofs.YtpaeppklkicngaaDoor.Kit Go.Proofs.YtpaeppklkicngaaDoor.Utf

/-- A variable of three strings that the call has laid: what it holds, that it may be written. -/
structure Var3 (w : World) (g : Nat) : Prop where
  z0 : w.cell? ⟨g, 0, none⟩ = some (.string { data := #[] })
  z1 : w.cell? ⟨g, 1, none⟩ = some (.string { data := #[] })
  z2 : w.cell? ⟨g, 2, none⟩ = some (.string { data := #[] })
  y : ∀ j, w.frozen? ⟨g, j, none⟩ = false
theorem Var3.of {w : World} {g : Nat} {t : TypeId} (e0 : w.heap[g]? = some (Obj.cells #[.string { data := #[] }, .string { data := #[] }, .string { data := #[] }] t (0, 0))) : Var3 w g :=
  ⟨by rw [cell_of_row w _ 0 _ _ _ e0]; rfl, by rw [cell_of_row w _ 1 _ _ _ e0]; rfl, by rw [cell_of_row w _ 2 _ _ _ e0]; rfl, fun j => by unfold World.frozen?; rw [show w.heap[(⟨g, j, none⟩ : Addr).block]? = _ from e0]; simp⟩
theorem Var3.later {w w' : World} {g B : Nat} (h : Var3 w g) (hb : Below B w w') (hg : g < B) : Var3 w' g :=
  ⟨by rw [hb.cell (by exact hg)]; exact h.z0, by rw [hb.cell (by exact hg)]; exact h.z1, by rw [hb.cell (by exact hg)]; exact h.z2, fun j => by rw [hb.frozen (by exact hg)]; exact h.y j⟩
theorem Var3.set {w : World} {g : Nat} (h : Var3 w g) (r : Rule) :
    (((w.setCell ⟨g, 0, none⟩ (.string r.k)).setCell ⟨g, 1, none⟩ (.string r.o)).setCell ⟨g, 2, none⟩ (.string r.n)).cell? ⟨g, 0, none⟩ = some (.string r.k) ∧ (((w.setCell ⟨g, 0, none⟩ (.string r.k)).setCell ⟨g, 1, none⟩ (.string r.o)).setCell ⟨g, 2, none⟩ (.string r.n)).cell? ⟨g, 1, none⟩ = some (.string r.o) ∧ (((w.setCell ⟨g, 0, none⟩ (.string r.k)).setCell ⟨g, 1, none⟩ (.string r.o)).setCell ⟨g, 2, none⟩ (.string r.n)).cell? ⟨g, 2, none⟩ = some (.string r.n) :=
  three_set (by rw [h.z0]; rfl) (by rw [h.z1]; rfl) (by rw [h.z2]; rfl)
theorem below_set3 {B : Nat} {a w : World} (h : Below B a w) {g : Nat} (hg : B ≤ g) (x y z : Value) : Below B a (((w.setCell ⟨g, 0, none⟩ x).setCell ⟨g, 1, none⟩ y).setCell ⟨g, 2, none⟩ z) :=
  Below.setCell (Below.setCell (Below.setCell h (by exact hg) _) (by exact hg) _) (by exact hg) _

set_option maxHeartbeats 1000000 in
theorem find_any (v : Value) (rs : List Rule) (x : ByteArray) (w : World) (hR : RowR w v rs) (hs : ∀ r ∈ rs, Short r) :
    Calls Tryd.prog 21 #[v, .string x] w fun e w' => e = .returned (.tuple #[ragg (findL rs x).1, .bool (findL rs x).2]) ∧ Below w.heap.size w w' := by
  obtain ⟨a, len, cap, rfl, hlen, hcap, hmax, _⟩ := id hR
  subst hlen
  have hmx : rs.length ≤ maxLen := by omega
  unfold maxLen at hmx
  have HR := Lib.hid hR
  have HS := Lib.hid hs
  clear hR hmax hs
  go_enter Tryd.func21, Tryd.ntmps21
  go_wp2
  have e0 := heap_alloc_new w (Obj.cells #[.string { data := #[] }, .string { data := #[] }, .string { data := #[] }] 40)
  obtain ⟨W, hW⟩ : ∃ W, w.alloc (Obj.cells #[.string { data := #[] }, .string { data := #[] }, .string { data := #[] }] 40) = W := ⟨_, rfl⟩
  have hb0 : Below w.heap.size w W := by rw [← hW]; exact (Below.refl _ _).alloc (Nat.le_refl _) _
  have hsz : W.heap.size = w.heap.size + 1 := by rw [← hW]; simp
  rw [hW] at e0 ⊢
  have HV := Lib.hid (Var3.of e0)
  have HR2 := Lib.hid (HR.out.later hb0 (Nat.le_refl _))
  clear hW e0
  go_loopw [10] (fun i wr => ∃ k : Nat, i = .int .i64 k ∧ k ≤ rs.length ∧ Hid ((findL (rs.take k) x).2 = false) ∧ Below W.heap.size W wr) (fun i _ => rs.length - (intOf i).toNat)
  case atStart => exact ⟨0, rfl, Nat.zero_le _, Lib.hid rfl, Below.refl _ _⟩
  case round =>
    obtain ⟨k, rfl, hk, hno, hbw⟩ := hrel
    have hws := hbw.size
    by_cases hkl : k < rs.length
    · obtain ⟨b, off, rfl, hb, hx⟩ := HR2.out.at (by omega)
      obtain ⟨x0, x1, x2⟩ := hx k hkl
      rw [← hbw.cell (p := ⟨b, _, none⟩) hb] at x0 x1 x2
      have hsr := Lib.hid (HS.out _ (ri_mem hkl))
      have k0 : (0 : Int) ≤ k := by omega
      have k1 : (k : Int) < rs.length := by omega
      by_cases hq : (ri rs k).k = x
      · have HF := Lib.hid (findL_hit hkl hno.out hq)
        have hq2 : ((ri rs k).k.toList == x.toList) = true := by rw [str_beq, decide_eq_true hq]
        generalize ri rs k = r at *
        clear hq hx
        go_wp2_with (go_at_call 35; (refine (fresh_any r _ hsr.out).mono ?_); rintro e w3 ⟨rfl, hb3⟩; have hbW : Below W.heap.size W w3 := (hbw.alloc hbw.size _).trans (hb3.mono (by simp; omega)); have hv := HV.out.later hbW (by omega); have v0 := hv.z0; have v1 := hv.z1; have v2 := hv.z2; have v3 := hv.y; unfold ragg)
        (try simp only [Exit.inBlock, Exit.then])
        rw [HF.out]
        refine bodyPost_ret (v := .tuple #[ragg r, .bool true]) ?_ rfl ⟨rfl, below_set3 (hb0.trans (hbW.mono hb0.size)) (Nat.le_refl _) _ _ _⟩
        rw [results_cell_tmp rfl]
        obtain ⟨q0, q1, q2⟩ := hv.set r
        show ((loadVar 40 ⟨w.heap.size, 0, none⟩).run Tryd.prog _).andThen _ = _
        rw [load_rule q0 q1 q2]
        rfl
      · have HF := Lib.hid (findL_miss hkl hno.out hq)
        have hq2 : ((ri rs k).k.toList == x.toList) = false := by rw [str_beq, decide_eq_false hq]
        generalize ri rs k = r at *
        clear hq hx
        go_wp2
        go_roundw
        case rel => exact ⟨k + 1, by go_num, by omega, HF, hbw.alloc hbw.size _⟩
        case measure => simp [intOf]; omega
    · have HF := Lib.hid (findL_none rs x (by have := hno.out; rwa [List.take_of_length_le (by omega)] at this))
      have hv := HV.out.later hbw (by omega)
      have v0 := hv.z0
      have v1 := hv.z1
      have v2 := hv.z2
      have v3 := hv.y
      go_wp2
      (try simp only [Exit.inBlock, Exit.then])
      rw [HF.out]
      refine bodyPost_ret (v := .tuple #[ragg noRule, .bool false]) ?_ rfl ⟨rfl, below_set3 (hb0.trans (hbw.mono hb0.size)) (Nat.le_refl _) _ _ _⟩
      rw [results_cell_tmp rfl]
      obtain ⟨q0, q1, q2⟩ := hv.set noRule
      show ((loadVar 40 ⟨w.heap.size, 0, none⟩).run Tryd.prog _).andThen _ = _
      erw [load_rule (r := noRule) q0 q1 q2]
      rfl

theorem prefix_len {x y : ByteArray} (h : ¬ x.size < y.size) (r : Rule) (e : r.k = y) : longR r x = false := by unfold longR; rw [e, decide_eq_false h]; rfl

theorem longer_any (v : Value) (rs : List Rule) (x : ByteArray) (w : World) (hR : RowR w v rs) :
    Calls Tryd.prog 23 #[v, .string x] w fun e w' => e = .returned (.bool (longL rs x)) ∧ Below w.heap.size w w' := by
  obtain ⟨a, len, cap, rfl, hlen, hcap, hmax, _⟩ := id hR
  subst hlen
  have hmx : rs.length ≤ maxLen := by omega
  unfold maxLen at hmx
  have HR := Lib.hid hR
  clear hR hmax
  obtain ⟨E, hE⟩ : ∃ E : Bool, longL rs x = E := ⟨_, rfl⟩
  rw [hE]
  have HPF := Lib.hid (fun (s : ByteArray) w => Tryd.strings_HasPrefix s x w)
  go_enter Tryd.func23, Tryd.ntmps23
  go_wp2
  go_loopw [9] (fun i wr => ∃ k : Nat, i = .int .i64 k ∧ k ≤ rs.length ∧ Hid (longL (rs.take k) x = false) ∧ Below w.heap.size w wr) (fun i _ => rs.length - (intOf i).toNat)
  case atStart => exact ⟨0, rfl, Nat.zero_le _, Lib.hid rfl, Below.refl _ _⟩
  case round =>
    obtain ⟨k, rfl, hk, hno, hbw⟩ := hrel
    have hws := hbw.size
    by_cases hkl : k < rs.length
    · obtain ⟨b, off, rfl, hb, hx⟩ := HR.out.at (by omega)
      obtain ⟨x0, x1, x2⟩ := hx k hkl
      rw [← hbw.cell (p := ⟨b, _, none⟩) hb] at x0 x1 x2
      have k0 : (0 : Int) ≤ k := by omega
      have k1 : (k : Int) < rs.length := by omega
      have hsu := longL_succ (x := x) hkl
      rw [hno.out, Bool.false_or] at hsu
      have hhit : longL (rs.take (k + 1)) x = true → true = E := fun h => by rw [← hE, longL_hit h]
      have HH := Lib.hid hhit
      have HSU := Lib.hid hsu
      clear hx hsu hhit
      generalize ri rs k = r at *
      by_cases hl : x.size < r.k.size
      · have hgt : decide ((x.size : Int) < (r.k.size : Int)) = true := by simp; omega
        have hlr : longR r x = Lib.hasPrefix r.k.data.toList x.data.toList := by unfold longR; rw [decide_eq_true hl]; rfl
        have HL := Lib.hid hlr
        clear hlr
        obtain ⟨q, hq⟩ : ∃ q, Lib.hasPrefix r.k.data.toList x.data.toList = q := ⟨_, rfl⟩
        have HC := Lib.hid (fun w => hq ▸ HPF.out r.k w)
        rw [hq] at HL
        clear hq
        cases q
        · go_wp2_with (go_at_call 32; (with_reducible refine (HC.out _).mono ?_); rintro e w2 ⟨rfl, hw2⟩; obtain rfl := hw2.symm)
          go_roundw
          case rel => exact ⟨k + 1, by go_num, by omega, Lib.hid (by rw [HSU.out, HL.out]), hbw.alloc hbw.size _⟩
          case measure => simp [intOf]; omega
        · go_wp2_with (go_at_call 32; (with_reducible refine (HC.out _).mono ?_); rintro e w2 ⟨rfl, hw2⟩; obtain rfl := hw2.symm)
          go_ret
          exact ⟨ret_bool (HH.out (by rw [HSU.out, HL.out])), hbw.alloc hbw.size _⟩
      · have HL := Lib.hid (show longR r x = false by unfold longR; rw [decide_eq_false hl]; rfl)
        go_wp2
        go_roundw
        case rel => exact ⟨k + 1, by go_num, by omega, Lib.hid (by rw [HSU.out, HL.out]), hbw.alloc hbw.size _⟩
        case measure => simp [intOf]; omega
    · have HF := Lib.hid (show false = E by rw [← hE]; have := hno.out; rw [List.take_of_length_le (by omega)] at this; rw [this])
      go_wp2
      go_ret
      exact ⟨ret_bool HF.out, hbw⟩

theorem extract_pref (s x : ByteArray) (h : x.size ≤ s.size) : ((s.extract 0 x.size).toList == x.toList) = (bs x).isPrefixOf (bs s) := by
  rw [str_beq, Bool.eq_iff_iff, List.isPrefixOf_iff_prefix, decide_eq_true_eq]
  constructor
  · intro e
    rw [← e]
    rw [show bs (s.extract 0 x.size) = (bs s).take x.size by simp [bs, ByteArray.data_extract]]
    exact List.take_prefix _ _
  · intro hp
    apply ba_ext
    rw [show (s.extract 0 x.size).data.toList = (bs s).take x.size by simp [bs, ByteArray.data_extract]]
    have e := List.prefix_iff_eq_take.1 hp
    rw [bs_len] at e
    exact e.symm

theorem rlonger_any (v : Value) (rs : List Rule) (x : ByteArray) (w : World) (hR : RowR w v rs) (hxs : x.size ≤ 1048576) (hs : ∀ r ∈ rs, Short r) :
    Calls Tryd.prog 24 #[v, .string x] w fun e w' => e = .returned (.bool (longL rs x)) ∧ w' = w := by
  obtain ⟨a, len, cap, rfl, hlen, hcap, hmax, _⟩ := id hR
  subst hlen
  have hmx : rs.length ≤ maxLen := by omega
  unfold maxLen at hmx
  have HR := Lib.hid hR
  have HS := Lib.hid hs
  clear hR hmax hs
  obtain ⟨E, hE⟩ : ∃ E : Bool, longL rs x = E := ⟨_, rfl⟩
  rw [hE]
  go_enter Tryd.func24, Tryd.ntmps24
  go_wp2
  go_loopw [5] (fun i wr => ∃ k : Nat, i = .int .i64 k ∧ k ≤ rs.length ∧ Hid (longL (rs.take k) x = false) ∧ wr = w) (fun i _ => rs.length - (intOf i).toNat)
  case atStart => exact ⟨0, rfl, Nat.zero_le _, Lib.hid rfl, rfl⟩
  case round =>
    obtain ⟨k, rfl, hk, hno, rfl⟩ := hrel
    by_cases hkl : k < rs.length
    · obtain ⟨b, off, rfl, hb, hx⟩ := HR.out.at (by omega)
      obtain ⟨x0, x1, x2⟩ := hx k hkl
      have hsr := (HS.out _ (ri_mem hkl)).1
      have k0 : (0 : Int) ≤ k := by omega
      have k1 : (k : Int) < rs.length := by omega
      have hsu := longL_succ (x := x) hkl
      rw [hno.out, Bool.false_or] at hsu
      have hhit : longL (rs.take (k + 1)) x = true → true = E := fun h => by rw [← hE, longL_hit h]
      have HH := Lib.hid hhit
      have HSU := Lib.hid hsu
      clear hx hsu hhit
      generalize ri rs k = r at *
      by_cases hl : x.size < r.k.size
      · have hlr : longR r x = ((r.k.extract 0 x.size).toList == x.toList) := by unfold longR; rw [decide_eq_true hl, extract_pref _ _ (by omega)]; rfl
        have HL := Lib.hid hlr
        clear hlr
        cases q : ((r.k.extract 0 x.size).toList == x.toList)
        · rw [q] at HL
          go_wp2
          go_roundw
          case rel => exact ⟨k + 1, by go_num, by omega, Lib.hid (by rw [HSU.out, HL.out]), trivial⟩
          case measure => simp [intOf]; omega
        · rw [q] at HL
          go_wp2
          go_ret
          exact ⟨ret_bool (HH.out (by rw [HSU.out, HL.out])), rfl⟩
      · have HL := Lib.hid (show longR r x = false by unfold longR; rw [decide_eq_false hl]; rfl)
        go_wp2
        go_roundw
        case rel => exact ⟨k + 1, by go_num, by omega, Lib.hid (by rw [HSU.out, HL.out]), trivial⟩
        case measure => simp [intOf]; omega
    · have HF := Lib.hid (show false = E by rw [← hE]; have := hno.out; rw [List.take_of_length_le (by omega)] at this; rw [this])
      go_wp2
      go_ret
      exact ⟨ret_bool HF.out, rfl⟩

end Go.Proofs.YtpaeppklkicngaaDoor.Rom
