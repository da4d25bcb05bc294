/-
  A list's sequence; contracts of the laws' has and works.
-/
import Derived.Test.YtleegkocahobkaaPkG
set_option linter.unusedVariables false
set_option linter.unusedSimpArgs false
set_option maxRecDepth 100000
namespace Go.Proofs.Ytleegkocahobkaa.Pk
open Go Go.RowKit Go.Proofs.Ytleegkocahobkaa.Kit Go.Proofs.Ytleegkocahobkaa.Bv

/-- The pointer to block p is the sequence of the list l. -/
def PkAt (B0 B1 : Nat) (w : World) (p : Nat) (l : List Nat) : Prop := IntsAt B0 B1 w p l.length (wid l) (dg (wid l) l)
theorem PkAt.below {B0 B1 B : Nat} {w w' : World} {p : Nat} {l : List Nat} (h : PkAt B0 B1 w p l) (hb : Below B w w') (hB : B1 ≤ B) : PkAt B0 B1 w' p l := IntsAt.below h hb hB
theorem PkAt.later {B0 B1 : Nat} {w w' : World} {p : Nat} {l : List Nat} (h : PkAt B0 B1 w p l) (hk : ∀ b, B0 ≤ b → b < B1 → w'.heap[b]? = w.heap[b]?) : PkAt B0 B1 w' p l := IntsAt.later h hk
def U64 (l : List Nat) : Prop := ∀ x ∈ l, x < 18446744073709551616
theorem gv_list {l : List Nat} (hl : U64 l) {i x : Nat} (h : l[i]? = some x) : gv (dg (wid l) l) (wid l) i = x := by
  unfold gv
  rw [Nat.min_eq_left (wid_64 hl)]
  exact dg_get _ l (fun n hn => wid_lt hn) i x h
theorem pnew_at (l : List Nat) (a : Option Addr) (cap : Nat) (w : World) (hl : l.length ≤ 1048576) (hx : U64 l) (hR : Reads w (.slice a l.length cap) (u64s l)) :
    Calls Try.prog 11 #[.slice a l.length cap] w fun e w' => ∃ p, e = .returned (.tuple #[.pointer (some ⟨p, 0, none⟩), .int .i64 0]) ∧ PkAt w.heap.size w'.heap.size w' p l ∧ Below w.heap.size w w' := pnew_ok l a cap w hl hx hR
theorem get_at {B0 B1 : Nat} {w : World} {p : Nat} {l : List Nat} (h : PkAt B0 B1 w p l) (hB : B1 ≤ w.heap.size) (hl : l.length ≤ 1048577) (hx : U64 l) {i x : Nat} (hi : l[i]? = some x) :
    Calls Try.prog 15 #[.pointer (some ⟨p, 0, none⟩), .int .i64 (i : Int)] w fun e w' => e = .returned (.tuple #[.int .u64 (x : Int), .bool true]) ∧ Below w.heap.size w w' := by
  have := get_pk h hB hl (by have := wid_64 hx; omega) i (List.getElem?_eq_some_iff.1 hi).1
  rwa [gv_list hx hi] at this

set_option maxHeartbeats 1000000 in
theorem has_yes {B0 B1 : Nat} {w : World} {p : Nat} {l : List Nat} (h : PkAt B0 B1 w p l) (hB : B1 ≤ w.heap.size) (hl : l.length ≤ 1048577) (hx : U64 l) (a : Option Addr) (cap : Nat) (hR : Reads w (.slice a l.length cap) (u64s l)) :
    Calls Try.prog 12 #[.pointer (some ⟨p, 0, none⟩), .slice a l.length cap] w fun e w' => e = .returned (.bool true) ∧ Below w.heap.size w w' := by
  have hmx := hR.len.2
  unfold maxLen at hmx
  have HR := Lib.hid hR
  have HL := Lib.hid (len_pk h)
  have HG := Lib.hid (fun W (hW : Below w.heap.size w W) (i x : Nat) (hi : l[i]? = some x) => get_at (h.below hW hB) (by have := hW.size; omega) hl hx hi)
  obtain ⟨n, hn⟩ : ∃ n, l.length = n := ⟨_, rfl⟩
  have HN := Lib.hid hn
  rw [hn] at hmx HR HL hl ⊢
  have hd : ((n : Int) != (n : Int)) = false := by rw [bne_eq_false_iff_eq]
  clear hR hn h hx hB
  go_enter Try.func12, Try.ntmps12
  go_wp2_with (go_at_call 24; (with_reducible refine HL.out.mono ?_); rintro e w1 ⟨rfl, rfl⟩)
  go_loopw [5] (fun y wr => ∃ i : Nat, i ≤ n ∧ y = .int .i64 i ∧ Below w.heap.size w wr) (fun y _ => n - (intOf y).toNat)
  case atStart => exact ⟨0, Nat.zero_le _, rfl, Below.refl _ _⟩
  case round =>
    obtain ⟨i, hi, rfl, hb⟩ := hrel
    by_cases hlt : i < n
    · obtain ⟨x, hxi⟩ : ∃ x, l[i]? = some x := ⟨_, List.getElem?_eq_getElem (by rw [HN.out]; exact hlt)⟩
      obtain ⟨b, off, rfl, hblt, hc0⟩ := Reads.cell HR.out (u64s_get hxi)
      have hG := Lib.hid (HG.out _ hb i x hxi)
      have hxd : ((x : Int) != (x : Int)) = false := by rw [bne_eq_false_iff_eq]
      have hbs := hb.size
      clear hxi
      go_wp2_with (go_at_call 15; (with_reducible refine hG.out.mono ?_); rintro e w5 ⟨rfl, hb5⟩; have hbw := hb.trans (hb5.mono hbs); have hcell : w5.cell? ⟨b, off + i, none⟩ = some (.int .u64 (x : Int)) := (by rw [hbw.cell (p := ⟨b, off + i, none⟩) hblt]; exact hc0))
      go_roundw
      case rel => exact ⟨i + 1, by omega, by go_num, hbw⟩
      case measure => simp [intOf]; omega
    · obtain rfl : i = n := by omega
      go_wp2
      go_ret
      exact ⟨rfl, hb⟩

theorem encode_at {B0 B1 : Nat} {w : World} {p : Nat} {l : List Nat} (h : PkAt B0 B1 w p l) (hB : B1 ≤ w.heap.size) (hl : l.length ≤ 1048577) (hx : U64 l) :
    Calls Try.prog 19 #[.pointer (some ⟨p, 0, none⟩)] w (EncPost (pcode l) w) := encode_pk h hB hl (wid_64 hx)
def l0 : List Nat := [5, 0, 3]
def c0 : List UInt8 := [3, 0, 0, 0, 3, 197, 0]
theorem pcode0 : pcode l0 = c0 := by decide +kernel
theorem wid0 : wid l0 = 3 := by decide +kernel
theorem u64_l0 : U64 l0 := by unfold U64 l0; decide

set_option maxHeartbeats 4000000 in
theorem works_pk (w : World) : Calls Try.prog 16 #[] w fun e w' => e = .returned (.bool true) ∧ Below w.heap.size w w' := by
  obtain ⟨W1, hW1⟩ : ∃ W1, w.alloc (.cells #[.int .u64 5, .int .u64 0, .int .u64 3] 27) = W1 := ⟨_, rfl⟩
  have hs1 : W1.heap.size = w.heap.size + 1 := by rw [← hW1]; simp
  have hb1 : Below w.heap.size w W1 := by rw [← hW1]; exact (Below.refl _ w).alloc (Nat.le_refl _) _
  have hr1 : Reads W1 (.slice (some ⟨w.heap.size, 0, none⟩) 3 3) (u64s l0) := by
    rw [← hW1]; exact reads_lit w #[.int .u64 5, .int .u64 0, .int .u64 3] 27 w.heap.size 3 rfl rfl (by simp [maxLen])
  have H1 := Lib.hid (pnew_at l0 (some ⟨w.heap.size, 0, none⟩) 3 W1 (by decide) u64_l0 hr1)
  have HW1 := Lib.hid hW1
  have HB1 := Lib.hid hb1
  have HS1 := Lib.hid hs1
  have HCD := Lib.hid pcode0
  have HWD := Lib.hid wid0
  clear hW1 hb1 hs1 hr1
  go_enter Try.func16, Try.ntmps16
  go_wp2_with fail
  rw [HW1.out]
  refine H1.out.mono ?_
  rintro e W2 ⟨p, rfl, hv, hb2⟩
  have HBW : Hid (Below w.heap.size w W2) := Lib.hid (HB1.out.trans (hb2.mono (by have := HS1.out; omega)))
  have HV := Lib.hid hv
  have HG : Hid (Calls Try.prog 15 #[.pointer (some ⟨p, 0, none⟩), .int .i64 2] W2 fun e w' => e = .returned (.tuple #[.int .u64 3, .bool true]) ∧ Below W2.heap.size W2 w') := Lib.hid (get_at hv (Nat.le_refl _) (by decide) u64_l0 (i := 2) (x := 3) rfl)
  clear hv hb2 H1 HW1 HB1 HS1
  go_wp2_with (first
    | (go_at_call 15; (with_reducible refine HG.out.mono ?_); rintro e w3 ⟨rfl, hb3⟩; have HB3 := Lib.hid (HBW.out.trans (hb3.mono HBW.out.size)); have HV3 := Lib.hid (HV.out.below hb3 (Nat.le_refl _)); have hz3 := hb3.size; have HL : Hid (Calls Try.prog 24 #[.pointer (some ⟨p, 0, none⟩)] w3 fun e w' => e = .returned (.int .i64 3) ∧ w3 = w') := Lib.hid (len_pk HV3.out); have HWI : Hid (Calls Try.prog 13 #[.pointer (some ⟨p, 0, none⟩)] w3 fun e w' => e = .returned (.int .i64 3) ∧ w3 = w') := Lib.hid (by have h := wid_pk HV3.out; rw [HWD.out] at h; exact h); have HEN := Lib.hid (encode_at HV3.out hz3 (by decide) u64_l0); rw [HCD.out] at HEN)
    | (go_at_call 24; (with_reducible refine HL.out.mono ?_); rintro e w4 ⟨rfl, rfl⟩)
    | (go_at_call 13; (with_reducible refine HWI.out.mono ?_); rintro e w4 ⟨rfl, rfl⟩)
    | (go_at_call 19; (with_reducible refine HEN.out.mono ?_); rintro e w6 ⟨a6, c6, rfl, hown6, hb6⟩; have HB6 := Lib.hid (HB3.out.trans (hb6.mono HB3.out.size)); have HB7 : Hid (Below w.heap.size w (w6.alloc (.cells #[.int .u8 3, .int .u8 0, .int .u8 0, .int .u8 0, .int .u8 3, .int .u8 197, .int .u8 0] 5))) := Lib.hid (HB6.out.alloc HB6.out.size _); have HSB : Hid (Calls Try.prog 20 #[.slice a6 c0.length c6, .slice (some ⟨w6.heap.size, 0, none⟩) 7 7] (w6.alloc (.cells #[.int .u8 3, .int .u8 0, .int .u8 0, .int .u8 0, .int .u8 3, .int .u8 197, .int .u8 0] 5)) fun e w' => e = .returned (.bool true) ∧ Below (w6.alloc (.cells #[.int .u8 3, .int .u8 0, .int .u8 0, .int .u8 0, .int .u8 3, .int .u8 197, .int .u8 0] 5)).heap.size (w6.alloc (.cells #[.int .u8 3, .int .u8 0, .int .u8 0, .int .u8 0, .int .u8 3, .int .u8 197, .int .u8 0] 5)) w') := Lib.hid (samb_any c0 c0 a6 (some ⟨w6.heap.size, 0, none⟩) c6 7 true (by decide +kernel) (w6.alloc (.cells #[.int .u8 3, .int .u8 0, .int .u8 0, .int .u8 0, .int .u8 3, .int .u8 197, .int .u8 0] 5)) (own_reads (hown6.alloc _)) (reads_lit w6 #[.int .u8 3, .int .u8 0, .int .u8 0, .int .u8 0, .int .u8 3, .int .u8 197, .int .u8 0] 5 w6.heap.size 7 rfl rfl (by simp [maxLen]))); clear HEN hown6 hb6)
    | (go_at_call 20; (with_reducible refine HSB.out.mono ?_); rintro e w8 ⟨rfl, hb8⟩; have HB8 := Lib.hid (HB7.out.trans (hb8.mono HB7.out.size))))
  go_ret
  exact ⟨rfl, HB8.out⟩
end Go.Proofs.Ytleegkocahobkaa.Pk
