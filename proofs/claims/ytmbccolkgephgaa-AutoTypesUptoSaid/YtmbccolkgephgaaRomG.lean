/-
  Contracts of the program's Find and Longer, the reference's Longer and Check.
-/
import Derived.Test.YtmbccolkgephgaaRomF
set_option linter.unusedVariables false
set_option linter.unusedSimpArgs false
set_option maxRecDepth 100000
namespace Go.Proofs.Ytmbccolkgephgaa.Rom
open Go Go.RowKit Go.Proofs.Ytmbccolkgephgaa.Kit Go.Proofs.Ytmbccolkgephgaa.Utf

/-- A variable of three strings that the call has laid: what it holds, that it may be written. -/
structure Var3 (w : World) (g : Nat) : Prop where
  z0 : w.cell? ⟨g, 0, none⟩ = some (.string { data := #[] })
  z1 : w.cell? ⟨g, 1, none⟩ = some (.string { data := #[] })
  z2 : w.cell? ⟨g, 2, none⟩ = some (.string { data := #[] })
  y : ∀ j, w.frozen? ⟨g, j, none⟩ = false
theorem Var3.of {w : World} {g : Nat} {t : TypeId} (e0 : w.heap[g]? = some (Obj.cells #[.string { data := #[] }, .string { data := #[] }, .string { data := #[] }] t (0, 0))) : Var3 w g :=
  ⟨by rw [cell_of_row w _ 0 _ _ _ e0]; rfl, by rw [cell_of_row w _ 1 _ _ _ e0]; rfl, by rw [cell_of_row w _ 2 _ _ _ e0]; rfl, fun j => by unfold World.frozen?; rw [show w.heap[(⟨g, j, none⟩ : Addr).block]? = _ from e0]; simp⟩
theorem Var3.later {w w' : World} {g B : Nat} (h : Var3 w g) (hb : Below B w w') (hg : g < B) : Var3 w' g :=
  ⟨by rw [hb.cell (by exact hg)]; exact h.z0, by rw [hb.cell (by exact hg)]; exact h.z1, by rw [hb.cell (by exact hg)]; exact h.z2, fun j => by rw [hb.frozen (by exact hg)]; exact h.y j⟩
theorem Var3.set {w : World} {g : Nat} (h : Var3 w g) (r : Rule) :
    (((w.setCell ⟨g, 0, none⟩ (.string r.k)).setCell ⟨g, 1, none⟩ (.string r.o)).setCell ⟨g, 2, none⟩ (.string r.n)).cell? ⟨g, 0, none⟩ = some (.string r.k) ∧ (((w.setCell ⟨g, 0, none⟩ (.string r.k)).setCell ⟨g, 1, none⟩ (.string r.o)).setCell ⟨g, 2, none⟩ (.string r.n)).cell? ⟨g, 1, none⟩ = some (.string r.o) ∧ (((w.setCell ⟨g, 0, none⟩ (.string r.k)).setCell ⟨g, 1, none⟩ (.string r.o)).setCell ⟨g, 2, none⟩ (.string r.n)).cell? ⟨g, 2, none⟩ = some (.string r.n) :=
  three_set (by rw [h.z0]; rfl) (by rw [h.z1]; rfl) (by rw [h.z2]; rfl)
theorem below_set3 {B : Nat} {a w : World} (h : Below B a w) {g : Nat} (hg : B ≤ g) (x y z : Value) : Below B a (((w.setCell ⟨g, 0, none⟩ x).setCell ⟨g, 1, none⟩ y).setCell ⟨g, 2, none⟩ z) :=
  Below.setCell (Below.setCell (Below.setCell h (by exact hg) _) (by exact hg) _) (by exact hg) _

theorem prefix_len {x y : ByteArray} (h : ¬ x.size < y.size) (r : Rule) (e : r.k = y) : longR r x = false := by unfold longR; rw [e, decide_eq_false h]; rfl

theorem extract_pref (s x : ByteArray) (h : x.size ≤ s.size) : ((s.extract 0 x.size).toList == x.toList) = (bs x).isPrefixOf (bs s) := by
  rw [str_beq, Bool.eq_iff_iff, List.isPrefixOf_iff_prefix, decide_eq_true_eq]
  constructor
  · intro e
    rw [← e]
    rw [show bs (s.extract 0 x.size) = (bs s).take x.size by simp [bs, ByteArray.data_extract]]
    exact List.take_prefix _ _
  · intro hp
    apply ba_ext
    rw [show (s.extract 0 x.size).data.toList = (bs s).take x.size by simp [bs, ByteArray.data_extract]]
    have e := List.prefix_iff_eq_take.1 hp
    rw [bs_len] at e
    exact e.symm

theorem rlonger_any (v : Value) (rs : List Rule) (x : ByteArray) (w : World) (hR : RowR w v rs) (hxs : x.size ≤ 1048576) (hs : ∀ r ∈ rs, Short r) :
    Calls Try.prog 52 #[v, .string x] w fun e w' => e = .returned (.bool (longL rs x)) ∧ w' = w := by
  obtain ⟨a, len, cap, rfl, hlen, hcap, hmax, _⟩ := id hR
  subst hlen
  have hmx : rs.length ≤ maxLen := by omega
  unfold maxLen at hmx
  have HR := Lib.hid hR
  have HS := Lib.hid hs
  clear hR hmax hs
  obtain ⟨E, hE⟩ : ∃ E : Bool, longL rs x = E := ⟨_, rfl⟩
  rw [hE]
  go_enter Try.func52, Try.ntmps52
  go_wp2
  go_loopw [5] (fun i wr => ∃ k : Nat, i = .int .i64 k ∧ k ≤ rs.length ∧ Hid (longL (rs.take k) x = false) ∧ wr = w) (fun i _ => rs.length - (intOf i).toNat)
  case atStart => exact ⟨0, rfl, Nat.zero_le _, Lib.hid rfl, rfl⟩
  case round =>
    obtain ⟨k, rfl, hk, hno, rfl⟩ := hrel
    by_cases hkl : k < rs.length
    · obtain ⟨b, off, rfl, hb, hx⟩ := HR.out.at (by omega)
      obtain ⟨x0, x1, x2⟩ := hx k hkl
      have hsr := (HS.out _ (ri_mem hkl)).1
      have k0 : (0 : Int) ≤ k := by omega
      have k1 : (k : Int) < rs.length := by omega
      have hsu := longL_succ (x := x) hkl
      rw [hno.out, Bool.false_or] at hsu
      have hhit : longL (rs.take (k + 1)) x = true → true = E := fun h => by rw [← hE, longL_hit h]
      have HH := Lib.hid hhit
      have HSU := Lib.hid hsu
      clear hx hsu hhit
      generalize ri rs k = r at *
      by_cases hl : x.size < r.k.size
      · have hlr : longR r x = ((r.k.extract 0 x.size).toList == x.toList) := by unfold longR; rw [decide_eq_true hl, extract_pref _ _ (by omega)]; rfl
        have HL := Lib.hid hlr
        clear hlr
        cases q : ((r.k.extract 0 x.size).toList == x.toList)
        · rw [q] at HL
          go_wp2
          go_roundw
          case rel => exact ⟨k + 1, by go_num, by omega, Lib.hid (by rw [HSU.out, HL.out]), trivial⟩
          case measure => simp [intOf]; omega
        · rw [q] at HL
          go_wp2
          go_ret
          exact ⟨ret_bool (HH.out (by rw [HSU.out, HL.out])), rfl⟩
      · have HL := Lib.hid (show longR r x = false by unfold longR; rw [decide_eq_false hl]; rfl)
        go_wp2
        go_roundw
        case rel => exact ⟨k + 1, by go_num, by omega, Lib.hid (by rw [HSU.out, HL.out]), trivial⟩
        case measure => simp [intOf]; omega
    · have HF := Lib.hid (show false = E by rw [← hE]; have := hno.out; rw [List.take_of_length_le (by omega)] at this; rw [this])
      go_wp2
      go_ret
      exact ⟨ret_bool HF.out, rfl⟩

end Go.Proofs.Ytmbccolkgephgaa.Rom
