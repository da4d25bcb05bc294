/-
  Contracts of Find and Longer, the program's and the reference's.
-/
import Derived.Test.YtmbccolkgephgaaRomD
set_option linter.unusedVariables false
set_option linter.unusedSimpArgs false
set_option maxRecDepth 100000
namespace Go.Proofs.Ytmbccolkgephgaa.Rom
open Go Go.RowKit Go.Proofs.Ytmbccolkgephgaa.Kit Go.Proofs.Ytmbccolkgephgaa.Utf

def noRule : Rule := ⟨⟨#[]⟩, ⟨#[]⟩, ⟨#[]⟩⟩
/-- The first rule with these keys, and whether there is one. -/
def findL (rs : List Rule) (x : ByteArray) : Rule × Bool :=
  match rs with
  | [] => (noRule, false)
  | r :: rs => if r.k = x then (r, true) else findL rs x
theorem findL_append (a b : List Rule) (x : ByteArray) (h : (findL a x).2 = false) : findL (a ++ b) x = findL b x := by
  induction a with
  | nil => rfl
  | cons r a ih =>
    unfold findL at h
    show (if r.k = x then (r, true) else findL (a ++ b) x) = _
    split at h
    · cases h
    · rename_i hr; rw [if_neg hr]; exact ih h
theorem findL_none (rs : List Rule) (x : ByteArray) (h : (findL rs x).2 = false) : findL rs x = (noRule, false) := by
  have := findL_append rs [] x h
  rw [List.append_nil] at this
  rw [this]; rfl
theorem findL_hit {rs : List Rule} {x : ByteArray} {k : Nat} (hk : k < rs.length) (h : (findL (rs.take k) x).2 = false) (e : (ri rs k).k = x) : findL rs x = (ri rs k, true) := by
  have h2 : rs = rs.take k ++ (ri rs k :: rs.drop (k + 1)) := by
    conv => lhs; rw [← List.take_append_drop (k + 1) rs]
    rw [take_succ_ri rs k hk]; simp
  conv => lhs; rw [h2]
  rw [findL_append _ _ _ h]
  unfold findL
  rw [if_pos e]
theorem findL_miss {rs : List Rule} {x : ByteArray} {k : Nat} (hk : k < rs.length) (h : (findL (rs.take k) x).2 = false) (e : (ri rs k).k ≠ x) : (findL (rs.take (k + 1)) x).2 = false := by
  rw [take_succ_ri rs k hk, findL_append _ _ _ h]
  unfold findL
  rw [if_neg e]
  rfl
theorem findL_iff (rs : List Rule) (x : ByteArray) : (findL rs x).2 = !newK (rs.map Rule.k) x := by
  induction rs with
  | nil => rfl
  | cons r rs ih =>
    unfold findL
    by_cases h : r.k = x
    · rw [if_pos h]; simp [newK, h]
    · rw [if_neg h, ih]; simp [newK, h]

/-- Has some rule longer keys that begin so? -/
def longR (r : Rule) (x : ByteArray) : Bool := decide (x.size < r.k.size) && (bs x).isPrefixOf (bs r.k)
def longL (rs : List Rule) (x : ByteArray) : Bool := rs.any fun r => longR r x
theorem longL_succ {rs : List Rule} {x : ByteArray} {k : Nat} (hk : k < rs.length) : longL (rs.take (k + 1)) x = (longL (rs.take k) x || longR (ri rs k) x) := by
  unfold longL; rw [take_succ_ri rs k hk, List.any_append]; simp
theorem longL_hit {rs : List Rule} {x : ByteArray} {k : Nat} (h : longL (rs.take k) x = true) : longL rs x = true := by
  unfold longL at *
  rw [List.any_eq_true] at *
  obtain ⟨r, hr, h⟩ := h
  exact ⟨r, List.mem_of_mem_take hr, h⟩

set_option maxHeartbeats 1000000 in
theorem rfind_any (v : Value) (rs : List Rule) (x : ByteArray) (w : World) (hR : RowR w v rs) :
    Calls Try.prog 32 #[v, .string x] w fun e w' => e = .returned (.tuple #[ragg (findL rs x).1, .bool (findL rs x).2]) ∧ Below w.heap.size w w' := by
  obtain ⟨a, len, cap, rfl, hlen, hcap, hmax, _⟩ := id hR
  subst hlen
  have hmx : rs.length ≤ maxLen := by omega
  unfold maxLen at hmx
  have HR := Lib.hid hR
  clear hR hmax
  go_enter Try.func32, Try.ntmps32
  go_wp2
  have e0 := heap_alloc_new w (Obj.cells #[.string { data := #[] }, .string { data := #[] }, .string { data := #[] }] 56)
  obtain ⟨W, hW⟩ : ∃ W, w.alloc (Obj.cells #[.string { data := #[] }, .string { data := #[] }, .string { data := #[] }] 56) = W := ⟨_, rfl⟩
  have hb0 : Below w.heap.size w W := by rw [← hW]; exact (Below.refl _ _).alloc (Nat.le_refl _) _
  have hsz : W.heap.size = w.heap.size + 1 := by rw [← hW]; simp
  rw [hW] at e0 ⊢
  have z0 : W.cell? ⟨w.heap.size, 0, none⟩ = some (.string { data := #[] }) := by rw [cell_of_row W _ 0 _ _ _ e0]; rfl
  have z1 : W.cell? ⟨w.heap.size, 1, none⟩ = some (.string { data := #[] }) := by rw [cell_of_row W _ 1 _ _ _ e0]; rfl
  have z2 : W.cell? ⟨w.heap.size, 2, none⟩ = some (.string { data := #[] }) := by rw [cell_of_row W _ 2 _ _ _ e0]; rfl
  have y0 : ∀ j, W.frozen? ⟨w.heap.size, j, none⟩ = false := fun j => by unfold World.frozen?; rw [show W.heap[(⟨w.heap.size, j, none⟩ : Addr).block]? = _ from e0]; simp
  have HR2 := Lib.hid (HR.out.later hb0 (Nat.le_refl _))
  clear hW e0
  go_loopw [6] (fun i wr => ∃ k : Nat, i = .int .i64 k ∧ k ≤ rs.length ∧ Hid ((findL (rs.take k) x).2 = false) ∧ wr = W) (fun i _ => rs.length - (intOf i).toNat)
  case atStart => exact ⟨0, rfl, Nat.zero_le _, Lib.hid rfl, rfl⟩
  case round =>
    obtain ⟨k, rfl, hk, hno, rfl⟩ := hrel
    by_cases hkl : k < rs.length
    · obtain ⟨b, off, rfl, hb, hx⟩ := HR2.out.at (by omega)
      obtain ⟨x0, x1, x2⟩ := hx k hkl
      have k0 : (0 : Int) ≤ k := by omega
      have k1 : (k : Int) < rs.length := by omega
      by_cases hq : (ri rs k).k = x
      · have HF := Lib.hid (findL_hit hkl hno.out hq)
        have hq2 : ((ri rs k).k.toList == x.toList) = true := by rw [str_beq, decide_eq_true hq]
        generalize ri rs k = r at *
        clear hq hx
        go_wp2
        (try simp only [Exit.inBlock, Exit.then])
        rw [HF.out]
        refine bodyPost_ret (v := .tuple #[ragg r, .bool true]) ?_ rfl ⟨rfl, Below.setCell (Below.setCell (Below.setCell hb0 (by simp) _) (by simp) _) (by simp) _⟩
        rw [results_cell_tmp rfl]
        obtain ⟨q0, q1, q2⟩ := three_set (w := wr) (g := w.heap.size) (x := .string r.k) (y := .string r.o) (z := .string r.n) (by rw [z0]; rfl) (by rw [z1]; rfl) (by rw [z2]; rfl)
        show ((loadVar 56 ⟨w.heap.size, 0, none⟩).run Try.prog _).andThen _ = _
        rw [load_rrule q0 q1 q2]
        rfl
      · have HF := Lib.hid (findL_miss hkl hno.out hq)
        have hq2 : ((ri rs k).k.toList == x.toList) = false := by rw [str_beq, decide_eq_false hq]
        generalize ri rs k = r at *
        clear hq hx
        go_wp2
        go_roundw
        case rel => exact ⟨k + 1, by go_num, by omega, HF, trivial⟩
        case measure => simp [intOf]; omega
    · have HF := Lib.hid (findL_none rs x (by have := hno.out; rwa [List.take_of_length_le (by omega)] at this))
      go_wp2
      (try simp only [Exit.inBlock, Exit.then])
      rw [HF.out]
      refine bodyPost_ret (v := .tuple #[ragg noRule, .bool false]) ?_ rfl ⟨rfl, Below.setCell (Below.setCell (Below.setCell hb0 (by simp) _) (by simp) _) (by simp) _⟩
      rw [results_cell_tmp rfl]
      obtain ⟨q0, q1, q2⟩ := three_set (w := wr) (g := w.heap.size) (x := .string { data := #[] }) (y := .string { data := #[] }) (z := .string { data := #[] }) (by rw [z0]; rfl) (by rw [z1]; rfl) (by rw [z2]; rfl)
      show ((loadVar 56 ⟨w.heap.size, 0, none⟩).run Try.prog _).andThen _ = _
      rw [load_rrule (r := noRule) q0 q1 q2]
      rfl

end Go.Proofs.Ytmbccolkgephgaa.Rom
