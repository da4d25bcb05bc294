/-
  Contracts of Encode and of the reference's.
-/
import Derived.Test.YtffljcfpofhkgaaBvH
set_option linter.unusedVariables false
set_option linter.unusedSimpArgs false
set_option maxRecDepth 100000
namespace Go.Proofs.Ytffljcfpofhkgaa.Bv
open Go Go.RowKit Go.Proofs.Ytffljcfpofhkgaa.Kit

def EncPost (bs : List UInt8) (w : World) (e : Ending) (w' : World) : Prop := ∃ a c, e = .returned (.slice a bs.length c) ∧ w'.ownsRow w.heap.size 5 1 (.slice a bs.length c) bs.length (u8s bs) ∧ Below w.heap.size w w'

/-- appendNumbers at the sizes that Encode gives. -/
def AppPost (base : Nat) (bs : List UInt8) (w : World) (e : Ending) (w' : World) : Prop := ∃ a c, e = .returned (.slice a bs.length c) ∧ w'.ownsRow base 5 1 (.slice a bs.length c) bs.length (u8s bs) ∧ Below base w w'
theorem appn_4 (acc : List UInt8) (v : Value) (ns : List Nat) (a : Option Addr) (m cap base : Nat) (w : World) (hm : m = ns.length) (hown : w.ownsRow base 5 1 v acc.length (u8s acc)) (hbase : base ≤ w.heap.size)
    (hR : Reads w (.slice a m cap) (u64s ns)) (ha : ∀ x, a = some x → x.block < base) (hacc : acc.length ≤ 1099511627776) (hns : m ≤ 1099511627776) :
    Calls Try.prog 76 #[v, .int .i64 4, .slice a m cap] w (AppPost base (acc ++ les 4 ns) w) := by
  subst hm
  refine (appn_any acc v 4 (by decide) ns a cap base w hown hbase hR ha hacc hns).mono ?_
  rintro e w' ⟨v', rfl, h1, h2⟩
  obtain ⟨a', c', rfl⟩ := own_is h1
  exact ⟨a', c', rfl, h1, h2⟩
theorem appn_8 (acc : List UInt8) (v : Value) (ns : List Nat) (a : Option Addr) (m cap base : Nat) (w : World) (hm : m = ns.length) (hown : w.ownsRow base 5 1 v acc.length (u8s acc)) (hbase : base ≤ w.heap.size)
    (hR : Reads w (.slice a m cap) (u64s ns)) (ha : ∀ x, a = some x → x.block < base) (hacc : acc.length ≤ 1099511627776) (hns : m ≤ 1099511627776) :
    Calls Try.prog 76 #[v, .int .i64 8, .slice a m cap] w (AppPost base (acc ++ les 8 ns) w) := by
  subst hm
  refine (appn_any acc v 8 (by decide) ns a cap base w hown hbase hR ha hacc hns).mono ?_
  rintro e w' ⟨v', rfl, h1, h2⟩
  obtain ⟨a', c', rfl⟩ := own_is h1
  exact ⟨a', c', rfl, h1, h2⟩

set_option maxHeartbeats 2000000 in
theorem encode_any {B0 B1 : Nat} {l : List Bool} {p : Nat} {w : World} (h : VecAt B0 B1 w p l) (hB : B1 ≤ w.heap.size) (hl : l.length ≤ 1048576) :
    Calls Try.prog 51 #[.pointer (some ⟨p, 0, none⟩)] w (EncPost (code l) w) := by
  obtain ⟨a1, c1, a2, c2, hp, x0, x1, x2, hR, hR2, ha1, ha2⟩ := h.use
  have hnw : nw l.length ≤ 16384 := by unfold nw; omega
  have hnc : nc l.length ≤ 2048 := by unfold nc; omega
  have hcode : Hid (code l = (([] : List UInt8) ++ les 4 [l.length]) ++ les 8 (wds l) ++ les 4 (cts l)) := Lib.hid (by unfold code; simp [les])
  have HWL := Lib.hid (wds_len l)
  have HCL := Lib.hid (cts_len l)
  have HL1 := Lib.hid (les_len 4 [l.length])
  have HL2 := Lib.hid (les_len 8 (wds l))
  rw [wds_len] at HL2
  have HR := Lib.hid hR
  have HR2 := Lib.hid hR2
  have HA1 := Lib.hid ha1
  have HA2 := Lib.hid ha2
  obtain ⟨W1, hW1⟩ : ∃ W1, w.alloc (.cells #[.int .u64 (l.length : Nat)] 69) = W1 := ⟨_, rfl⟩
  have hs1 : W1.heap.size = w.heap.size + 1 := by rw [← hW1]; simp
  have hb1 : Below w.heap.size w W1 := by rw [← hW1]; exact (Below.refl _ w).alloc (Nat.le_refl _) _
  have hr1 : Reads W1 (.slice (some ⟨w.heap.size, 0, none⟩) 1 1) (u64s [l.length]) := by rw [← hW1]; exact own_reads (own_one w _ 69 w.heap.size (Nat.le_refl _))
  have H1 := Lib.hid (appn_4 [] (.slice none 0 0) [l.length] (some ⟨w.heap.size, 0, none⟩) 1 1 W1.heap.size W1 rfl (own_nil W1 _ _ _) (Nat.le_refl _) hr1 (fun x hx => by cases hx; show w.heap.size < _; omega) (by simp) (by simp))
  have HW1 := Lib.hid hW1
  have HB1 := Lib.hid hb1
  have HS1 := Lib.hid hs1
  have hwr : IntKind.u64.wrap ((l.length : Nat) : Int) = ((l.length : Nat) : Int) := wrap_u64_nat _ (by omega)
  clear h hR hR2 ha1 ha2 hr1 hb1 hs1 hW1
  obtain ⟨P1, hP1⟩ : ∃ P1, [] ++ les 4 [l.length] = P1 := ⟨_, rfl⟩
  rw [hP1] at H1 hcode
  have hP1l : P1.length = 4 := by rw [← hP1]; exact HL1.out
  have HP1l := Lib.hid hP1l
  clear hP1 hP1l HL1
  obtain ⟨P2, hP2⟩ : ∃ P2, P1 ++ les 8 (wds l) = P2 := ⟨_, rfl⟩
  have HP2 := Lib.hid hP2
  have HP2l : Hid (P2.length ≤ 4 + 8 * 16384) := Lib.hid (by rw [← hP2, List.length_append, HP1l.out, HL2.out]; omega)
  rw [hP2] at hcode
  clear hP2 HL2
  obtain ⟨P3, hP3⟩ : ∃ P3, P2 ++ les 4 (cts l) = P3 := ⟨_, rfl⟩
  have HP3 := Lib.hid hP3
  rw [hP3] at hcode
  rw [hcode.out]
  clear hP3 hcode
  obtain ⟨n, hn⟩ : ∃ n, l.length = n := ⟨_, rfl⟩
  rw [hn] at x0 x1 x2 hnw hnc HWL HCL HR HR2 HW1 hwr hl
  obtain ⟨N, hN⟩ : ∃ N, nw n = N := ⟨_, rfl⟩
  obtain ⟨M, hM⟩ : ∃ M, nc n = M := ⟨_, rfl⟩
  rw [hN] at x1 hnw HWL HR
  rw [hM] at x2 hnc HCL HR2
  clear hn hN hM
  go_enter Try.func51, Try.ntmps51
  go_wp2_with fail
  rw [HW1.out]
  refine H1.out.mono ?_
  rintro e W2 ⟨a3, c3, rfl, hown2, hb2⟩
  have hs2 := hb2.size
  have hs1 := HS1.out
  have hbw2 : Below w.heap.size w W2 := HB1.out.trans (hb2.mono (by omega))
  have H2 := Lib.hid (appn_8 P1 _ (wds l) a1 N c1 W1.heap.size W2 HWL.out.symm hown2 hs2 (HR.out.later hbw2) (fun x hx => by have := HA1.out x hx; omega) (by rw [HP1l.out]; omega) (by omega))
  rw [HP2.out] at H2
  have y1 : W2.cell? ⟨p, 1, none⟩ = some (.slice a1 N c1) := by rw [hbw2.cell (p := ⟨p, 1, none⟩) (by show p < _; omega)]; exact x1
  have HBW2 := Lib.hid hbw2
  have HS12 := Lib.hid hs2
  clear hown2 hb2 hs2 hs1 hbw2 x1 x0
  go_wp2_with fail
  refine H2.out.mono ?_
  rintro e W3 ⟨a4, c4, rfl, hown3, hb3⟩
  have hs3 := hb3.size
  have hs1 := HS1.out
  have hs2 := HBW2.out.size
  have hbw3 : Below w.heap.size w W3 := HBW2.out.trans (hb3.mono (by omega))
  have H3 := Lib.hid (appn_4 P2 _ (cts l) a2 M c2 W1.heap.size W3 HCL.out.symm hown3 (Nat.le_trans HS12.out hs3) (HR2.out.later hbw3) (fun x hx => by have := HA2.out x hx; omega) (by have := HP2l.out; omega) (by omega))
  rw [HP3.out] at H3
  have y2 : W3.cell? ⟨p, 2, none⟩ = some (.slice a2 M c2) := by rw [hbw3.cell (p := ⟨p, 2, none⟩) (by show p < _; omega)]; exact x2
  have HBW3 := Lib.hid hbw3
  clear hown3 hb3 hs3 hs2 hs1 hbw3 x2 H2 H1
  go_wp2_with fail
  refine H3.out.mono ?_
  rintro e W4 ⟨a5, c5, rfl, hown4, hb4⟩
  have hs1 := HS1.out
  have HF : Hid (EncPost P3 w (.returned (.slice a5 P3.length c5)) W4) := Lib.hid ⟨a5, c5, rfl, own_base hown4 (by omega), HBW3.out.trans (hb4.mono (by omega))⟩
  clear hown4 hb4 hs1
  go_wp2
  go_ret
  exact HF.out
theorem encode_nil (w : World) :
    Calls Try.prog 51 #[.pointer none] w fun e w' => e = .returned (.slice none 0 0) ∧ w = w' := by
  go_enter Try.func51, Try.ntmps51
  go_wp2
  go_ret
  exact ⟨rfl, rfl⟩
end Go.Proofs.Ytffljcfpofhkgaa.Bv
