/-
  Contract of the laws' number: decimal digits out of any bytes.
-/
import Derived.Test.YtfkdlnaakmgclaaDoorNumK
set_option linter.unusedVariables false
set_option linter.unusedSimpArgs false
namespace Go.Proofs.YtfkdlnaakmgclaaDoor.Num
open Go Go.RowKit Go.Proofs.YtfkdlnaakmgclaaDoor.Kit Go.Proofs.YtfkdlnaakmgclaaDoor.Utf

theorem tenth : ∀ r : Nat, r ≤ 9 → (({ data := #[48, 49, 50, 51, 52, 53, 54, 55, 56, 57] } : ByteArray).extract r (r + 1)) = dg [r] := by decide

theorem cut_digit (r : Nat) (h : r ≤ 9) (k k' : IntKind) (x y : Int) (hx : x = r) (hy : y = (r : Int) + 1) (w : World) :
    (Instr.slice 9 (.string { data := #[48, 49, 50, 51, 52, 53, 54, 55, 56, 57] }) (some (.int k x)) (some (.int k' y)) none).run Tryd.prog w = .ok (.string (dg [r])) w := by
  subst hx hy
  have e1 : ((r : Int)).toNat = r := by omega
  have e2 : ((r : Int) + 1).toNat = r + 1 := by omega
  rw [run_slice_string_if w 9 _ k k' _ _ Tryd.underlying9, e1, e2, tenth r h]
  have hsz : (({ data := #[48, 49, 50, 51, 52, 53, 54, 55, 56, 57] } : ByteArray).size : Int) = 10 := rfl
  rw [if_pos (by rw [hsz]; omega), if_pos (by omega)]

theorem dg_one (r : Nat) (h : r ≤ 9) : dg [r] = tx [48 + (r : Int)] := by
  rw [dg_tx _ (by intro d hd; rw [List.mem_singleton.1 hd]; exact h)]; rfl
theorem dg_append (a b : List Nat) : dg a ++ dg b = dg (a ++ b) := by
  apply ba_ext
  show (dg a ++ dg b).data.toList = bs (dg (a ++ b))
  rw [bs_dg, ByteArray.data_append, Array.toList_append, List.map_append]
  show bs (dg a) ++ bs (dg b) = _
  rw [bs_dg, bs_dg]

/-- What number returns: some decimal digits. -/
def NumPost (w : World) (e : Ending) (w' : World) : Prop := ∃ ds, DS ds ∧ e = .returned (.string (dg ds)) ∧ Below w.heap.size w w'

theorem dg_head {ds : List Nat} (h9 : ∀ d ∈ ds, d ≤ 9) : ((dg ds).toList == ({ data := #[48] } : ByteArray).toList) = decide (ds = [0]) := by
  rw [ByteArray.toList_eq, ByteArray.toList_eq]
  by_cases e : ds = [0]
  · subst e; rfl
  · rw [decide_eq_false e]
    simp only [beq_eq_false_iff_ne]
    intro h
    have h2 : dg ds = dg [0] := ba_ext h
    have := ofDg_dg ds h9
    rw [h2, ofDg_dg [0] (by decide)] at this
    exact e this.symm

/-- What number keeps: nothing yet, or decimal digits. -/
def Sofar (ds : List Nat) (i : Nat) : Prop := ds.length ≤ i ∧ (ds = [] ∨ DS ds)

theorem number_any (a : Option Addr) (len cap : Nat) (zs : List Int) (w : World) (hR : Reads w (.slice a len cap) (zs.map (Value.int .u8))) (hz : ∀ z ∈ zs, 0 ≤ z ∧ z ≤ 255) :
    Calls Tryd.prog 26 #[.slice a len cap, .int .i64 20] w (NumPost w) := by
  obtain ⟨a', len', cap', e', h1', h2', h3', hx⟩ := hR
  cases e'
  rw [List.length_map] at h1'
  have H1 := Lib.hid h1'; clear h1'
  unfold maxLen at h3'
  go_enter Tryd.func26, Tryd.ntmps26
  go_wp2
  go_loopw [5, 6] (fun dv iv wr => ∃ (i : Nat) (ds : List Nat), iv = .int .i64 i ∧ dv = Value.string (dg ds) ∧ i ≤ 20 ∧ i ≤ len ∧ Hid (Sofar ds i) ∧ ∃ n, wr = w.drewN n) (fun _ iv _ => 20 - (intOf iv).toNat)
  case atStart => exact ⟨0, [], rfl, rfl, by omega, by omega, Lib.hid ⟨Nat.le_refl _, .inl rfl⟩, 0, rfl⟩
  case round =>
    obtain ⟨i, ds, rfl, rfl, hi, hil, hso, n0, rfl⟩ := hrel
    by_cases hlt : i < len ∧ i < 20
    · have hl1 := hlt.1
      have hl2 := hlt.2
      have hil' : i < zs.length := by have := H1.out; omega
      obtain ⟨b, off, ha, hbl, hcell⟩ : ∃ b off, a = some ⟨b, off, none⟩ ∧ b < w.heap.size ∧ w.cell? ⟨b, off + i, none⟩ = some (.int .u8 zs[i]) := by
        rcases hx with ⟨_, h0, _⟩ | ⟨x, _, h0⟩ | ⟨b, off, e2, hlt2, hx⟩
        · omega
        · omega
        · exact ⟨b, off, e2, hlt2, hx i _ (by rw [List.getElem?_map, List.getElem?_eq_getElem hil']; rfl)⟩
      subst ha
      have hzr := hz zs[i] (List.getElem_mem hil')
      obtain ⟨z, hzd⟩ : ∃ z, zs[i] = z := ⟨_, rfl⟩
      rw [hzd] at hcell hzr
      obtain ⟨r, hr⟩ : ∃ r : Nat, z.tmod 10 = (r : Int) := ⟨(z.tmod 10).toNat, by rw [Int.tmod_eq_emod_of_nonneg hzr.1]; omega⟩
      have hr9 : r ≤ 9 := by rw [Int.tmod_eq_emod_of_nonneg hzr.1] at hr; omega
      have hw1 : IntKind.u8.wrap ((r : Int) + 1) = (r : Int) + 1 := IntWalk.u8_in _ ⟨by omega, by omega⟩
      have hsl := fun w => cut_digit r hr9 .u8 .u8 (r : Int) ((r : Int) + 1) rfl rfl w
      have hi0 : (0 : Int) ≤ (i : Int) := by omega
      have hi1 : (i : Int) < (len : Int) := by omega
      have h9 : ∀ d ∈ ds, d ≤ 9 := by
        rcases hso.out.2 with e | e
        · subst e; intro d hd; simp at hd
        · exact e.2.2.1
      have hlen := hso.out.1
      by_cases e0 : ds = [0]
      · have ht : ((dg ds).toList == [48]) = true := by have := dg_head h9; rw [ByteArray.toList_eq (bs := { data := #[48] })] at this; exact this.trans (by simpa using e0)
        have hso2 := Lib.hid (show Sofar [r] (i + 1) from ⟨by simp, .inr ⟨by simp, by simp, fun d hd => by rw [List.mem_singleton.1 hd]; exact hr9, fun h => by simp at h; rw [h]⟩⟩)
        clear hzd hzr hr9 hil' hil hlt hx e0 h9
        go_wp2
        go_quiet (fail)
        go_wp2
        go_roundw
        case rel => exact ⟨i + 1, [r], by go_num, rfl, by omega, by omega, hso2, by first | exact ⟨_, rfl⟩ | exact ⟨_, World.drewN_drewN _ _ _⟩⟩
        case measure => simp [intOf] <;> omega
      · have ht : ((dg ds).toList == [48]) = false := by have := dg_head h9; rw [ByteArray.toList_eq (bs := { data := #[48] })] at this; exact this.trans (by simpa using e0)
        have hso2 := Lib.hid (show Sofar (ds ++ [r]) (i + 1) from by
          have hall : ∀ d ∈ ds ++ [r], d ≤ 9 := fun d hd => by
            rcases List.mem_append.1 hd with hd | hd
            · exact h9 d hd
            · rw [List.mem_singleton.1 hd]; exact hr9
          refine ⟨by simp; omega, .inr ⟨by simp, by simp; omega, hall, fun h => ?_⟩⟩
          rcases hso.out.2 with e | e
          · subst e; simp at h ⊢; exact h
          · exfalso
            match ds, e, e0, h with
            | [], e, _, _ => exact absurd e.1 (by simp)
            | x :: t, e, e0, h => simp at h; exact e0 (e.2.2.2 (by rw [h]; rfl)))
        have hadd : ∀ w, (Op.stringOp .add (dg ds) (dg [r])).run Tryd.prog w = .ok (.string (dg (ds ++ [r]))) w := fun w => by
          rw [← dg_append]
          exact run_string_add_sum (P := Tryd.prog) (w := w) _ _ (by rw [dg_size, dg_size]; simp; omega)
        clear hzd hzr hr9 hil' hil hlt hx e0 h9
        go_wp2
        go_quiet (fail)
        go_wp2
        go_roundw
        case rel => exact ⟨i + 1, ds ++ [r], by go_num, rfl, by omega, by omega, hso2, by first | exact ⟨_, rfl⟩ | exact ⟨_, World.drewN_drewN _ _ _⟩⟩
        case measure => simp [intOf] <;> omega
    · have hcase : len ≤ i ∨ (i < len ∧ 20 ≤ i) := by omega
      have hpost : ∀ w', w' = w.drewN n0 → ds ≠ [] → NumPost w (.returned (.string (dg ds))) w' := fun w' h1 h2 => by
        subst h1
        rcases hso.out.2 with e | e
        · exact absurd e h2
        · exact ⟨ds, e, rfl, below_drewN w n0⟩
      have hpost0 : ∀ w', w' = w.drewN n0 → NumPost w (.returned (.string { data := #[48] })) w' := fun w' h1 => by
        subst h1; exact ⟨[0], by decide, rfl, below_drewN w n0⟩
      have HP := Lib.hid hpost
      have HP0 := Lib.hid hpost0
      clear hpost hpost0 hlt hx
      by_cases e : ds = []
      · subst e
        have e2 : dg [] = { data := #[] } := rfl
        rw [e2]
        clear e2
        rcases hcase with h | ⟨h, h'⟩
        all_goals
          go_wp2
          go_ret
          exact HP0.out _ rfl
      · have hne : (dg ds).toList ≠ [] := by
          rw [ByteArray.toList_eq]
          intro h
          have : (bs (dg ds)).length = 0 := by show (dg ds).data.toList.length = 0; rw [h]; rfl
          rw [bs_len, dg_size] at this
          exact e (List.eq_nil_of_length_eq_zero this)
        have hne1 : ((dg ds).toList = []) = False := by simpa using hne
        have hne2 : (dg ds).toList.isEmpty = false := by simpa using hne
        rcases hcase with h | ⟨h, h'⟩
        all_goals
          go_wp2
          go_ret
          exact HP.out _ rfl e

end Go.Proofs.YtfkdlnaakmgclaaDoor.Num
