/-
  Contract of spell.
-/
import Derived.Test.YtffljcfpofhkgaaLoC
set_option linter.unusedVariables false
set_option linter.unusedSimpArgs false
set_option maxRecDepth 100000
namespace Go.Proofs.Ytffljcfpofhkgaa.Lo
open Go Go.RowKit Go.Proofs.Ytffljcfpofhkgaa.Kit Go.Proofs.Ytffljcfpofhkgaa.Bv Go.Proofs.Ytffljcfpofhkgaa.Pk

/-- The bytes on the way up from a node, but not more than so many. -/
def clm (P : Nat → Nat) (ls : List UInt8) : Nat → Nat → List UInt8
  | 0, _ => []
  | f + 1, k => if k = 0 then [] else ls.getD (k - 1) 0 :: clm P ls f (P k)
def vlen : Value → Nat
  | .slice _ n _ => n
  | _ => 0
theorem u8s_get0 {l : List UInt8} {i : Nat} (h : i < l.length) : (u8s l)[i]? = some (.int .u8 ((l.getD i 0).toNat : Nat)) := by
  unfold u8s; rw [List.getElem?_map, List.getElem?_eq_getElem h, List.getD_eq_getElem?_getD, List.getElem?_eq_getElem h]; rfl
theorem own_byte {w : World} {base n : Nat} {v : Value} {xs : List Value} {l : List UInt8} {c : UInt8} (h : w.ownsRow base 5 1 v n xs) (e : xs = u8s l ++ [.int .u8 (c.toNat : Nat)]) (hn : n = l.length + 1) : w.ownsRow base 5 1 v (l ++ [c]).length (u8s (l ++ [c])) := by
  subst e hn
  rw [u8s_append, List.length_append]
  exact h

set_option maxHeartbeats 4000000 in
theorem spell_any (F : FuncId) (fst caps : Array Value) (P : Nat → Nat) (inv : Nat → Prop) (ls : List UInt8) (a : Option Addr) (cap : Nat) (k0 : Nat) (w : World)
    (hR : Reads w (.slice a ls.length cap) (u8s ls)) (eF : ∀ args w, (callFunc F args).run Try.prog w = .ok (.enter F args) w)
    (hk0 : inv k0) (hi1 : ∀ j, inv j → j ≤ ls.length) (hi2 : ∀ j, inv j → 0 < j → inv (P j))
    (hF : ∀ W, Below w.heap.size w W → ∀ j, inv j → 0 < j → Calls Try.prog F (fst ++ #[.int .i64 (j : Int)] ++ caps) W fun e W' => e = .returned (.int .i64 (P j : Nat)) ∧ Below W.heap.size W W') :
    Calls Try.prog 48 #[.int .i64 (k0 : Int), .func (.func F) fst caps, .slice a ls.length cap] w fun e w' => e = .returned (.string ⟨(clm P ls 257 k0).reverse.toArray⟩) ∧ Below w.heap.size w w' := by
  obtain ⟨i0, hi, hz0, hz1, hz2⟩ := info_parts info_u8
  have hmx := hR.len.2
  unfold maxLen at hmx
  have HR := Lib.hid hR
  have HF := Lib.hid hF
  have HI1 := Lib.hid hi1
  have HI2 := Lib.hid hi2
  have HK0 := Lib.hid hk0
  have HC0 : Hid (clm P ls 257 k0 = [] ++ clm P ls (257 - ([] : List UInt8).length) k0) := Lib.hid rfl
  have HST : Hid (∀ f j, 0 < f → 0 < j → clm P ls f j = ls.getD (j - 1) 0 :: clm P ls (f - 1) (P j)) := Lib.hid (fun f j h1 h2 => by
    obtain ⟨g, rfl⟩ : ∃ g, f = g + 1 := ⟨f - 1, by omega⟩
    simp only [clm, Nat.add_sub_cancel]
    rw [if_neg (by omega)])
  have HZ : Hid (∀ f, clm P ls f 0 = []) := Lib.hid (fun f => by cases f <;> rfl)
  have HZ2 : Hid (∀ j, clm P ls 0 j = []) := Lib.hid (fun j => rfl)
  obtain ⟨res, hres⟩ : ∃ r, clm P ls 257 k0 = r := ⟨_, rfl⟩
  rw [hres] at HC0 ⊢
  obtain ⟨n, hn⟩ : ∃ n, ls.length = n := ⟨_, rfl⟩
  have HN := Lib.hid hn
  rw [hn] at hmx HR HI1 ⊢
  have hn0 := own_nil w w.heap.size 5 1
  clear hR hF hi1 hi2 hk0 hres hn
  go_enter Try.func48, Try.ntmps48
  go_wp2
  go_loopw [0, 7] (fun y v wr => ∃ (j : Nat) (acc : List UInt8), y = .int .i64 (j : Int) ∧ Hid (inv j) ∧ acc.length ≤ 257 ∧ Hid (res = acc ++ clm P ls (257 - acc.length) j) ∧ wr.ownsRow w.heap.size 5 1 v acc.length (u8s acc) ∧ Below w.heap.size w wr) (fun _ v _ => 258 - vlen v)
  case atStart => exact ⟨k0, [], rfl, HK0, by simp, HC0, hn0, Below.refl _ _⟩
  case round =>
    clear hn0
    obtain ⟨j, acc, rfl, hinv, hacc, hcl, hown, hb⟩ := hrel
    obtain ⟨av, cv, rfl⟩ := own_is hown
    by_cases hgo : 0 < j ∧ acc.length ≤ 256
    · obtain ⟨h0, h256⟩ := hgo
      have hjn := HI1.out j hinv.out
      have hjz : (0 : Int) < (j : Int) := by omega
      obtain ⟨b, off, rfl, hblt, hc0⟩ := Reads.cell HR.out (u8s_get0 (l := ls) (i := j - 1) (by rw [HN.out]; omega))
      have hcell : wr.cell? ⟨b, off + (j - 1), none⟩ = some (.int .u8 ((ls.getD (j - 1) 0).toNat : Nat)) := by rw [hb.cell (p := ⟨b, off + (j - 1), none⟩) hblt]; exact hc0
      have HST1 : Hid (clm P ls (257 - acc.length) j = ls.getD (j - 1) 0 :: clm P ls (257 - (acc.length + 1)) (P j)) := Lib.hid (by
        have := HST.out (257 - acc.length) j (by omega) h0
        rwa [show 257 - acc.length - 1 = 257 - (acc.length + 1) by omega] at this)
      have HCALL := Lib.hid (fun W (hW : Below w.heap.size w W) => HF.out W hW j hinv.out h0)
      have HINV := Lib.hid (HI2.out j hinv.out h0)
      obtain ⟨c, hc⟩ : ∃ c, ls.getD (j - 1) 0 = c := ⟨_, rfl⟩
      rw [hc] at hcell HST1
      obtain ⟨t, ht⟩ : ∃ t, c.toNat = t := ⟨_, rfl⟩
      have HT := Lib.hid ht
      have htl : t < 256 := by rw [← ht]; exact c.toNat_lt
      rw [ht] at hcell
      obtain ⟨m, hm⟩ : ∃ m, acc.length = m := ⟨_, rfl⟩
      have HM := Lib.hid hm
      rw [hm] at hown h256 hacc ⊢
      obtain ⟨i, hi'⟩ : ∃ i, j - 1 = i := ⟨_, rfl⟩
      rw [hi'] at hcell
      have hji : (j : Int) - 1 = (i : Int) := by omega
      have hi0 : (0 : Int) ≤ (i : Int) := by omega
      have hin : (i : Int) < (n : Int) := by omega
      have hbs := hb.size
      have HOWN := Lib.hid hown
      have hmz : (m : Int) ≤ 256 := by omega
      have HJI := Lib.hid hji
      clear hc0 hc ht hm hi' hinv hjn h0 hown
      go_wp2_with (first
        | (at_builtin; refine wpList_append_own _ rfl _ _ _ rfl w.heap.size 5 i0 (.int .u8 0) 1 1 Try.underlying51 hi hz0 hz1 hz2 rfl (by decide) _ m (u8s acc) rfl (HOWN.out.alloc _) ⟨wr.heap.size, 0, none⟩ 1 1 [.int .u8 (t : Int)] rfl rfl (cell_one_new _ _ _) ?c2 ?c3 ?c4 ?c5 ?_))
      case c2 => simp [Value.oneCell']
      case c3 => unfold maxLen; omega
      case c4 => omega
      case c5 => have := hb.size; simp; omega
      intro v' w5 hown5 hg5 _
      have hb5 := below_own (hb.alloc hb.size _) (HOWN.out.alloc _) (Nat.le_refl _) (by have := hb.size; simp; omega) hg5
      have HC5 := Lib.hid (HCALL.out w5 hb5)
      have HO5 : Hid (w5.ownsRow w.heap.size 5 1 v' (acc ++ [c]).length (u8s (acc ++ [c]))) := Lib.hid (own_byte hown5 (by rw [HT.out]) (by rw [HM.out]))
      have hl5 : Hid ((acc ++ [c]).length = m + 1) := Lib.hid (by rw [List.length_append, HM.out]; rfl)
      have HR5 : Hid (res = (acc ++ [c]) ++ clm P ls (257 - (acc ++ [c]).length) (P j)) := Lib.hid (by rw [hl5.out, hcl.out, HM.out, ← HM.out, HST1.out, List.append_assoc, HM.out]; rfl)
      clear hown5 hg5 hcell hcl HST1
      go_wp2_with (refine HC5.out.mono ?_; rintro e w6 ⟨rfl, hb6⟩)
      have hb7 := hb5.trans (hb6.mono hb5.size)
      have HO6 : Hid (w6.ownsRow w.heap.size 5 1 v' (acc ++ [c]).length (u8s (acc ++ [c]))) := Lib.hid (own_later HO5.out hb6)
      obtain ⟨a6, c6, hv6⟩ := own_is HO6.out
      have HV : Hid (vlen v' = m + 1) := Lib.hid (by rw [hv6]; exact hl5.out)
      go_roundw
      case rel => exact ⟨P j, acc ++ [c], rfl, HINV, by rw [hl5.out]; omega, HR5, HO6.out, hb7⟩
      case measure => rw [HV.out]; show 258 - (m + 1) < 258 - m; omega
    · have hend : Hid (res = acc) := Lib.hid (by
        rw [hcl.out]
        by_cases h0 : j = 0
        · rw [h0, HZ.out, List.append_nil]
        · rw [show 257 - acc.length = 0 by omega, HZ2.out, List.append_nil])
      have HREV := Lib.hid (rev_any acc w.heap.size _ wr hown (by omega))
      by_cases h0 : 0 < j
      · have hm : 256 < acc.length := by omega
        have hmz : ¬ ((acc.length : Int) ≤ 256) := by omega
        have hjz : (0 : Int) < (j : Int) := by omega
        obtain ⟨m, hm'⟩ : ∃ m, acc.length = m := ⟨_, rfl⟩
        rw [hm'] at HREV hmz hm ⊢
        have HM := Lib.hid hm'
        clear hm' hown hgo hcl hinv
        go_wp2_with (go_at_call 74; (with_reducible refine HREV.out.mono ?_); rintro e w6 ⟨rfl, ho6, hb6⟩; have hb7 := hb.trans hb6; have hcv := conv_bytes (P := Try.prog) ho6 Try.underlying51 Try.underlying5 Try.underlying9)
        go_ret
        exact ⟨by rw [hend.out]; rfl, hb7⟩
      · have hjz : ¬ (0 : Int) < (j : Int) := by omega
        obtain ⟨m, hm'⟩ : ∃ m, acc.length = m := ⟨_, rfl⟩
        rw [hm'] at HREV ⊢
        have HM := Lib.hid hm'
        clear hm' hown hgo hcl hinv
        go_wp2_with (go_at_call 74; (with_reducible refine HREV.out.mono ?_); rintro e w6 ⟨rfl, ho6, hb6⟩; have hb7 := hb.trans hb6; have hcv := conv_bytes (P := Try.prog) ho6 Try.underlying51 Try.underlying5 Try.underlying9)
        go_ret
        exact ⟨by rw [hend.out]; rfl, hb7⟩
end Go.Proofs.Ytffljcfpofhkgaa.Lo
