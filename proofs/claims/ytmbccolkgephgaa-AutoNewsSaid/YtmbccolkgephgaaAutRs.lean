/-
  Contract of the reference's Step.
-/
import Derived.Test.YtmbccolkgephgaaAutRg
import Derived.Deep.RegionLaw
set_option linter.unusedVariables false
set_option linter.unusedSimpArgs false
set_option maxRecDepth 100000
namespace Go.Proofs.Ytmbccolkgephgaa.Aut
open Go Go.RowKit Go.Proofs.Ytmbccolkgephgaa.Kit Go.Proofs.Ytmbccolkgephgaa.Utf Go.Proofs.Ytmbccolkgephgaa.Rom

set_option maxHeartbeats 4000000 in
theorem rstep_any (v : Value) (rs : List Rule) (p : ByteArray) (c : UInt8) (w : World) (hR : RowR w v rs) (hok : okL rs = true) (hsh : ∀ r ∈ rs, Short r) (hs : p.size ≤ 50000) :
    Calls Try.prog 22 #[v, .string p, .int .u8 c.toNat] w fun e w' => e = .returned (.tuple #[.string (ba (fd rs (keysOf (bs p)) (keysOf [c])).1), .string (ba (fd rs (keysOf (bs p)) (keysOf [c])).2)]) ∧ Below w.heap.size w w' := by
  have hkl := keysOf_le (bs p)
  rw [bs_len] at hkl
  have hk2 := keysOf_le [c]
  rw [List.length_singleton] at hk2
  have HK1 := Lib.hid (fun W => rkeys_any p W (by omega))
  have HK2 := Lib.hid (fun W => rkeys_any (ba [c]) W (by rw [ba_size]; simp))
  rw [bs_ba] at HK2
  have HF : Hid (∀ W, Below w.heap.size w W → Calls Try.prog 35 #[v, .string (ba (keysOf (bs p))), .string (ba (keysOf [c]))] W fun e w' => e = .returned (.tuple #[.string (ba (fd rs (keysOf (bs p)) (keysOf [c])).1), .string (ba (fd rs (keysOf (bs p)) (keysOf [c])).2)]) ∧ Below W.heap.size W w') := Lib.hid fun W hW => by
    have h := rfeed_any v rs (ba (keysOf (bs p))) (ba (keysOf [c])) W (hR.later hW (Nat.le_refl _)) hok hsh (by rw [ba_size, ba_size]; omega)
    rw [bs_ba, bs_ba] at h
    exact h
  generalize ba (keysOf (bs p)) = K1 at *
  generalize ba (keysOf [c]) = K2 at *
  generalize ba (fd rs (keysOf (bs p)) (keysOf [c])).1 = O at *
  generalize ba (fd rs (keysOf (bs p)) (keysOf [c])).2 = Q at *
  clear hR hsh hkl hk2
  go_enter Try.func22, Try.ntmps22
  go_wp2
  have hcv1 : ∀ W : World, (convert 47 9 (.slice (some ⟨W.heap.size, 0, none⟩) 1 1)).run Try.prog (W.alloc (Obj.cells #[.int .u8 c.toNat] 5)) = .ok (.string (ba [c])) (W.alloc (Obj.cells #[.int .u8 c.toNat] 5)) := fun W => conv_lit W c (heap_alloc_new W _)
  have hcv2 : ∀ W : World, (convert 47 9 (.slice (some ⟨W.heap.size, 0, none⟩) 1 1)).run Try.prog (W.alloc (Obj.cells #[.int .u8 c.toNat] 5)).drew = .ok (.string (ba [c])) (W.alloc (Obj.cells #[.int .u8 c.toNat] 5)).drew := fun W => conv_lit W c (W' := (W.alloc (Obj.cells #[.int .u8 c.toNat] 5)).drew) (heap_alloc_new W _)
  have HC3 : Hid (∀ W1 : World, Below (w.heap.size + 1) (w.alloc (Obj.cells #[.int .u8 c.toNat] 5)).drew W1 → (convert 47 9 (.slice (some ⟨w.heap.size, 0, none⟩) 1 1)).run Try.prog W1 = .ok (.string (ba [c])) W1) := Lib.hid fun W1 h => conv_lit w c (W' := W1) (by rw [h.block w.heap.size (by omega)]; exact heap_alloc_new w _)
  generalize ba [c] = L at *
  go_region_law (first
    | (go_simp; go_at_call 28; (with_reducible refine (HK1.out _).mono ?_); rintro e w1 ⟨rfl, hb1⟩; have hbw1 : Below w.heap.size w w1 := (by first | exact (Below.refl _ w).drew.trans hb1 | exact (((Below.refl _ _).alloc (Nat.le_refl _) _).drew).trans (hb1.mono (by simp))); try have hcv3 := HC3.out w1 (hb1.mono (by simp)))
    | (go_simp; go_at_call 28; (with_reducible refine (HK2.out _).mono ?_); rintro e w2 ⟨rfl, hb2⟩; have hbw2 : Below w.heap.size w w2 := (by first | exact hbw1.trans (hb2.mono hbw1.size) | exact (hbw1.alloc hbw1.size _).trans (hb2.mono (by simp; have := hbw1.size; omega))))
    | (go_simp; go_at_call 35; (with_reducible refine (HF.out _ hbw2).mono ?_); rintro e w3 ⟨rfl, hb3⟩))
  all_goals go_wp2
  all_goals go_ret2
  all_goals exact ⟨rfl, hbw2.trans (hb3.mono hbw2.size)⟩

end Go.Proofs.Ytmbccolkgephgaa.Aut
