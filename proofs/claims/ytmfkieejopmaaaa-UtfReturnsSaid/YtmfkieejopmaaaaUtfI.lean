/-
  Contract of the reference's Code: the code of a character.
-/
import Derived.Test.YtmfkieejopmaaaaUtfH
set_option linter.unusedVariables false
set_option linter.unusedSimpArgs false
namespace Go.Proofs.Ytmfkieejopmaaaa.Utf
open Go Go.RowKit Go.Proofs.Ytmfkieejopmaaaa.Kit

theorem info_u8 : (Try.prog.info? 5).map (fun i => (i.zero, i.size, i.bytes)) = some (some (.int .u8 0), 1, 1) := by kernel_rfl

theorem conv_one (W : World) (B : Nat) (x : Int) (hB : B = W.heap.size) (h0 : 0 ≤ x) (h1 : x < 256) :
    (convert 41 9 (.slice (some ⟨B, 0, none⟩) 1 1)).run Try.prog (W.alloc (.cells #[.int .u8 x] 5)) = .ok (.string ⟨#[UInt8.ofNat x.toNat]⟩) (W.alloc (.cells #[.int .u8 x] 5)) := by
  subst hB
  have e : [Value.int .u8 x] = u8s [UInt8.ofNat x.toNat] := by
    simp [u8s]; omega
  have h : (W.alloc (.cells #[.int .u8 x] 5)).ownsRow 0 5 1 (.slice (some ⟨W.heap.size, 0, none⟩) 1 1) 1 (u8s [UInt8.ofNat x.toNat]) := by
    rw [← e]; exact own_one W (.int .u8 x) 5 0 (Nat.zero_le _)
  exact conv_bytes h Try.underlying41 Try.underlying5 Try.underlying9

theorem enc_1 (c : Int) (h0 : 0 ≤ c) (h1 : c < 128) : (⟨#[UInt8.ofNat c.toNat]⟩ : ByteArray) = Utf8.encode c := by
  have hv : validRune c = true := (valid_iff c).2 (by omega)
  apply ba_ext
  rcases enc_forms c hv with ⟨_, e⟩ | ⟨_, _, e⟩ | ⟨_, _, e⟩ | ⟨_, _, e⟩ <;> first | omega | skip
  exact e.symm

theorem code_1 (c : Int) (w : World) (h0 : 0 ≤ c) (h1 : c < 128) :
    Calls Try.prog 27 #[.int .i32 c] w fun e w' => e = .returned (.string (Utf8.encode c)) ∧ Below w.heap.size w w' := by
  have hcv := conv_one
  have h2 : c < 256 := by omega
  have HE := Lib.hid (enc_1 c h0 h1)
  go_enter Try.func27, Try.ntmps27
  go_wp2
  go_rounds 3
  go_ret
  exact ⟨ret_string HE.out, by go_grown⟩

/-- The last k bytes of a code. -/
def conts (c : Int) : Nat → List UInt8
  | 0 => []
  | k + 1 => UInt8.ofNat (128 + ((c / 64 ^ k) % 64).toNat) :: conts c k
theorem conts_len (c : Int) : ∀ k, (conts c k).length = k
  | 0 => rfl
  | k + 1 => by simp [conts, conts_len c k]

/-- What the loop holds: the bytes so far, none or in a row of the call's own. -/
def Tail (w : World) (c : Int) (N : Nat) (d b : Value) (wr : World) (k : Nat) (D : Int) : Prop :=
  k ≤ N ∧ d = .int .i32 D ∧ 0 ≤ D ∧ D ≤ 1114111 ∧ Hid (D = c / 64 ^ k) ∧ Below w.heap.size w wr ∧
    ((k = 0 ∧ b = .slice none 0 0) ∨ (1 ≤ k ∧ ∃ g cap, b = .slice (some ⟨g, 0, none⟩) k cap ∧ wr.ownsRow w.heap.size 5 1 (.slice (some ⟨g, 0, none⟩) k cap) k (u8s (conts c k))))

theorem tail_next {c D : Int} {k : Nat} (h : D = c / 64 ^ k) (h0 : 0 ≤ D) (h1 : D ≤ 1114111) : D / 64 = c / 64 ^ (k + 1) := by
  rw [h, Int.pow_succ, Int.ediv_ediv_of_nonneg (by exact Int.pow_nonneg (by omega))]

theorem tail_byte {c D : Int} {k : Nat} (h : D = c / 64 ^ k) (h0 : 0 ≤ D) : Value.int .u8 (128 + D % 64) :: u8s (conts c k) = u8s (conts c (k + 1)) := by
  have e : ((UInt8.ofNat (128 + (D % 64).toNat)).toNat : Int) = 128 + D % 64 := by
    rw [Utf.toNat_ofNat _ (by omega)]; omega
  simp only [u8s, conts, List.map_cons, ← h, e]

end Go.Proofs.Ytmfkieejopmaaaa.Utf
