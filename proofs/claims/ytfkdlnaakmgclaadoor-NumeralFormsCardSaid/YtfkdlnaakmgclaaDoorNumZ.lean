/-
  Contract of the laws' same, at lists that are the same.
-/
import Derived.Test.YtfkdlnaakmgclaaDoorNumY
set_option linter.unusedVariables false
set_option linter.unusedSimpArgs false
namespace Go.Proofs.YtfkdlnaakmgclaaDoor.Num
open Go Go.RowKit Go.Proofs.YtfkdlnaakmgclaaDoor.Kit Go.Proofs.YtfkdlnaakmgclaaDoor.Utf

theorem reads_at {w : World} {a : Option Addr} {len cap : Nat} {l : List ByteArray} (h : Reads w (.slice a len cap) (l.map Value.string)) {i : Nat} (hi : i < l.length) :
    ∃ b off, a = some ⟨b, off, none⟩ ∧ w.cell? ⟨b, off + i, none⟩ = some (.string l[i]) := by
  obtain ⟨a', len', cap', e', h1', h2', h3', hx⟩ := h
  cases e'
  rw [List.length_map] at h1'
  rcases hx with ⟨_, h0, _⟩ | ⟨x, _, h0⟩ | ⟨b, off, e2, _, hx⟩
  · omega
  · omega
  · exact ⟨b, off, e2, hx i _ (by rw [List.getElem?_map, List.getElem?_eq_getElem hi]; rfl)⟩

theorem same_eq (l : List ByteArray) (v1 v2 : Value) (w : World) (h1 : Reads w v1 (l.map Value.string)) (h2 : Reads w v2 (l.map Value.string)) :
    Calls Tryd.prog 23 #[v1, v2] w fun e w' => e = .returned (.bool true) ∧ Below w.heap.size w w' := by
  obtain ⟨a1, n1, c1, rfl, e1, k1, m1, _⟩ := id h1
  obtain ⟨a2, n2, c2, rfl, e2, k2, m2, _⟩ := id h2
  rw [List.length_map] at e1 e2
  obtain rfl : n1 = n2 := by omega
  obtain ⟨n, hn⟩ : ∃ n, l.length = n := ⟨_, rfl⟩
  rw [hn] at e1
  obtain rfl : n1 = n := e1
  unfold maxLen at m1 m2
  have H1 := Lib.hid (fun i (hi : i < l.length) => reads_at h1 hi)
  have H2 := Lib.hid (fun i (hi : i < l.length) => reads_at h2 hi)
  have HN := Lib.hid hn
  clear h1 h2 e2 hn
  go_enter Tryd.func23, Tryd.ntmps23
  go_wp2
  go_loopw [5, 13] (fun _ iv wr => ∃ i : Nat, iv = .int .i64 i ∧ i ≤ n1 ∧ ∃ n, wr = w.drewN n) (fun _ iv _ => n1 - (intOf iv).toNat)
  case atStart => exact ⟨0, rfl, Nat.zero_le _, 0, rfl⟩
  case round =>
    obtain ⟨i, rfl, hi, m0, rfl⟩ := hrel
    by_cases hlt : i < n1
    · have hil : i < l.length := by rw [HN.out]; exact hlt
      obtain ⟨b1, o1, q1, x1⟩ := H1.out i hil
      obtain ⟨b2, o2, q2, x2⟩ := H2.out i hil
      subst q1
      subst q2
      obtain ⟨x, hx⟩ : ∃ x, l[i] = x := ⟨_, rfl⟩
      rw [hx] at x1 x2
      have hs := same_toList x
      have i0 : (0 : Int) ≤ (i : Int) := by omega
      have i1 : (i : Int) < (n1 : Int) := by omega
      clear hx hil hi
      go_wp2
      go_quiet (fail)
      go_wp2
      go_roundw
      case rel => exact ⟨i + 1, by go_num, by omega, by first | exact ⟨_, rfl⟩ | exact ⟨_, World.drewN_drewN _ _ _⟩⟩
      case measure => simp [intOf] <;> omega
    · have : i = n1 := by omega
      subst this
      clear hlt
      go_wp2
      go_ret
      exact ⟨rfl, below_drewN w m0⟩

theorem OwnL.reads {B : Nat} {w : World} {v : Value} {l : List ByteArray} (h : OwnL B w v l) : Reads w v (l.map Value.string) := own_reads h
theorem OwnL.later {B : Nat} {w w' : World} {v : Value} {l : List ByteArray} (h : OwnL B w v l) (hb : Below w.heap.size w w') : OwnL B w' v l := own_later h hb

end Go.Proofs.YtfkdlnaakmgclaaDoor.Num
