/-
  Contracts of the reference's Check.
-/
import Derived.Test.YtmbccolkgephgaaRomG
import Derived.Deep.RegionHeld3
set_option linter.unusedVariables false
set_option linter.unusedSimpArgs false
set_option maxRecDepth 100000
namespace Go.Proofs.Ytmbccolkgephgaa.Rom
open Go Go.RowKit Go.Proofs.Ytmbccolkgephgaa.Kit Go.Proofs.Ytmbccolkgephgaa.Utf

theorem twice_no {rs : List Rule} {k : Nat} (hk : k < rs.length) (hok : okL (rs.take k) = true) : okL (rs.take (k + 1)) = (!(findL (rs.take k) (ri rs k).k).2 && okR (ri rs k)) := by
  rw [take_succ_ri rs k hk, okL_snoc, hok, findL_iff, Bool.true_and, Bool.not_not, Bool.and_comm]

set_option maxHeartbeats 4000000 in
theorem rcheck_any (v : Value) (rs : List Rule) (w : World) (hR : RowR w v rs) (hs : ∀ r ∈ rs, Short r) :
    Calls Try.prog 16 #[v] w fun e w' => e = .returned (.int .i64 (checkL rs)) ∧ Below w.heap.size w w' := by
  obtain ⟨a, len, cap, rfl, hlen, hcap, hmax, _⟩ := id hR
  subst hlen
  unfold checkL
  by_cases h500 : rs.length > 500
  · rw [if_pos h500]
    go_enter Try.func16, Try.ntmps16
    go_wp2
    go_ret
    exact ⟨rfl, Below.refl _ _⟩
  rw [if_neg h500]
  have HR := Lib.hid hR
  have HS := Lib.hid hs
  unfold maxLen at hmax
  clear hs hR
  obtain ⟨E, hE⟩ : ∃ E : Int, (if okL rs = true then 0 else 50) = E := ⟨_, rfl⟩
  rw [hE]
  have HP := Lib.hid (show okL rs = false → (50 : Int) = E from fun h => by rw [← hE, h]; rfl)
  have HP2 := Lib.hid (show okL rs = true → (0 : Int) = E from fun h => by rw [← hE, h]; rfl)
  clear hE
  go_enter Try.func16, Try.ntmps16
  go_wp2
  go_loopw [3] (fun i wr => ∃ k : Nat, i = .int .i64 k ∧ k ≤ rs.length ∧ Hid (okL (rs.take k) = true) ∧ Below w.heap.size w wr) (fun i _ => rs.length - (intOf i).toNat)
  case atStart => exact ⟨0, rfl, Nat.zero_le _, Lib.hid rfl, Below.refl _ _⟩
  case round =>
    obtain ⟨k, rfl, hk, hok, hbw⟩ := hrel
    by_cases hkl : k < rs.length
    · obtain ⟨b, off, rfl, hb, hx⟩ := HR.out.at (by omega)
      obtain ⟨x0, x1, x2⟩ := hx k hkl
      have hRt := Lib.hid (HR.out.take (k := k) (by omega))
      have hsr := Lib.hid (HS.out _ (ri_mem hkl))
      have HT := Lib.hid (twice_no hkl hok.out)
      have hz : ∀ w', Below w.heap.size w w' → w'.cell? ⟨b, off + k * 3, none⟩ = some (.string (ri rs k).k) := fun w' h => by rw [h.cell (p := ⟨b, _, none⟩) hb]; exact x0
      have hz1 : ∀ w', Below w.heap.size w w' → w'.cell? ⟨b, off + k * 3 + 1, none⟩ = some (.string (ri rs k).o) := fun w' h => by rw [h.cell (p := ⟨b, _, none⟩) hb]; exact x1
      have hz2 : ∀ w', Below w.heap.size w w' → w'.cell? ⟨b, off + k * 3 + 2, none⟩ = some (.string (ri rs k).n) := fun w' h => by rw [h.cell (p := ⟨b, _, none⟩) hb]; exact x2
      have Z0 := Lib.hid hz
      have Z1 := Lib.hid hz1
      have Z2 := Lib.hid hz2
      have c0 := hz wr hbw
      clear hx x0 x1 x2 hz hz1 hz2
      have HBAD := Lib.hid (fun h => HP.out (okL_bad (rs := rs) (k := k + 1) h))
      have HALL := Lib.hid (fun w => rallowed_any (ri rs k) w hsr.out)
      generalize ri rs k = r at *
      have HF := fun W hRW => rfind_any (.slice (some ⟨b, off, none⟩) k cap) (rs.take k) r.k W hRW
      generalize findL (rs.take k) r.k = fr at HF HT
      obtain ⟨f1, f2⟩ := fr
      unfold ragg at HF HALL
      simp only at HF HT
      have HF := Lib.hid HF
      have k2 : (k : Int) ≤ cap := by omega
      have hsl : ∀ W, (Instr.sliceAt 29 (.slice (some ⟨b, off, none⟩) rs.length cap) none (some (.int .i64 k)) none).run Try.prog W = .ok (.slice (some ⟨b, off, none⟩) k cap) W := fun W => by
        have k4 : ¬ 0 = cap := by omega
        have k5 : ¬ cap = 0 := by omega
        have u := Try.underlying29
        go_simp
      have SS := Lib.hid (show ∀ w', Below w.heap.size w w' → (w'.cell? ⟨b, off + k * 3, none⟩ = some (.string r.k) ∧ w'.cell? ⟨b, off + k * 3 + 1, none⟩ = some (.string r.o) ∧ w'.cell? ⟨b, off + k * 3 + 2, none⟩ = some (.string r.n) ∧ Below w.heap.size w w') from fun w' h => ⟨Z0.out _ h, Z1.out _ h, Z2.out _ h, h⟩)
      have FZ := Lib.hid (show ∀ j, (wr.alloc (Obj.cells #[.string { data := #[] }, .string { data := #[] }, .string { data := #[] }] 56)).drew.frozen? ⟨wr.heap.size, j, none⟩ = false from fun j => by
        have e := heap_alloc_new wr (Obj.cells #[.string { data := #[] }, .string { data := #[] }, .string { data := #[] }] 56)
        show (wr.alloc (Obj.cells #[.string { data := #[] }, .string { data := #[] }, .string { data := #[] }] 56)).frozen? ⟨wr.heap.size, j, none⟩ = false
        unfold World.frozen?; rw [show (wr.alloc (Obj.cells #[.string { data := #[] }, .string { data := #[] }, .string { data := #[] }] 56)).heap[(⟨wr.heap.size, j, none⟩ : Addr).block]? = _ from e]; simp)
      clear Z0 Z1 Z2 hsr HS hok
      cases f2
      · cases hq : okR r
        · rw [hq] at HALL HT
          have HB := Lib.hid (HBAD.out HT.out)
          clear HBAD HT hq
          have hws := hbw.size
          go_wp2_with fail
          go_region_held3 (fun w' => w'.cell? ⟨b, off + k * 3, none⟩ = some (.string r.k) ∧ w'.cell? ⟨b, off + k * 3 + 1, none⟩ = some (.string r.o) ∧ w'.cell? ⟨b, off + k * 3 + 2, none⟩ = some (.string r.n) ∧ Below w.heap.size w w')
            (first
              | exact SS.out _ hbw.drew
              | exact SS.out _ (hbw.drew.alloc hbw.size _)
              | exact SS.out _ ((hbw.alloc hbw.size _).drew)
              | exact SS.out _ (hbw.drew.trans (hb2.mono hbw.size))
              | exact SS.out _ ((hbw.drew.trans (hb2.mono hbw.size)).alloc (Nat.le_trans hbw.size hb2.size) _)
              | exact SS.out _ (((hbw.alloc hbw.size _).drew).trans (hb2.mono (by simp; omega)))
              | exact SS.out _ (below_set3 (((hbw.alloc hbw.size _).drew).trans (hb2.mono (by simp; omega))) hbw.size _ _ _))
            ((go_at_call 32; first
              | ((with_reducible refine (HF.out _ (hRt.out.later hbw.drew (Nat.le_refl _))).mono ?_); rintro e w' ⟨rfl, hb2⟩)
              | ((with_reducible refine (HF.out _ (hRt.out.later ((hbw.alloc hbw.size _).drew) (Nat.le_refl _))).mono ?_); rintro e w' ⟨rfl, hb2⟩
                 have z0 : w'.cell? ⟨wr.heap.size, 0, none⟩ = some (.string { data := #[] }) := (by rw [hb2.cell (by simp)]; simp)
                 have z1 : w'.cell? ⟨wr.heap.size, 1, none⟩ = some (.string { data := #[] }) := (by rw [hb2.cell (by simp)]; simp)
                 have z2 : w'.cell? ⟨wr.heap.size, 2, none⟩ = some (.string { data := #[] }) := (by rw [hb2.cell (by simp)]; simp)
                 have y0 : ∀ j, w'.frozen? ⟨wr.heap.size, j, none⟩ = false := (fun j => by rw [hb2.frozen (by simp)]; exact FZ.out j))))
          all_goals
            rename_i hH
            obtain ⟨q0, q1, q2, hB⟩ := hH
            go_wp2_with (go_at_call 33; (with_reducible refine (HALL.out _).mono ?_); rintro e w7 ⟨rfl, hb7⟩)
            go_ret
            exact ⟨ret_int HB.out, hB.trans (hb7.mono hB.size)⟩
        · rw [hq] at HALL HT
          have HT2 := Lib.hid (show okL (rs.take (k + 1)) = true from HT.out)
          clear HBAD HT hq
          have hws := hbw.size
          go_wp2_with fail
          go_region_held3 (fun w' => w'.cell? ⟨b, off + k * 3, none⟩ = some (.string r.k) ∧ w'.cell? ⟨b, off + k * 3 + 1, none⟩ = some (.string r.o) ∧ w'.cell? ⟨b, off + k * 3 + 2, none⟩ = some (.string r.n) ∧ Below w.heap.size w w')
            (first
              | exact SS.out _ hbw.drew
              | exact SS.out _ (hbw.drew.alloc hbw.size _)
              | exact SS.out _ ((hbw.alloc hbw.size _).drew)
              | exact SS.out _ (hbw.drew.trans (hb2.mono hbw.size))
              | exact SS.out _ ((hbw.drew.trans (hb2.mono hbw.size)).alloc (Nat.le_trans hbw.size hb2.size) _)
              | exact SS.out _ (((hbw.alloc hbw.size _).drew).trans (hb2.mono (by simp; omega)))
              | exact SS.out _ (below_set3 (((hbw.alloc hbw.size _).drew).trans (hb2.mono (by simp; omega))) hbw.size _ _ _))
            ((go_at_call 32; first
              | ((with_reducible refine (HF.out _ (hRt.out.later hbw.drew (Nat.le_refl _))).mono ?_); rintro e w' ⟨rfl, hb2⟩)
              | ((with_reducible refine (HF.out _ (hRt.out.later ((hbw.alloc hbw.size _).drew) (Nat.le_refl _))).mono ?_); rintro e w' ⟨rfl, hb2⟩
                 have z0 : w'.cell? ⟨wr.heap.size, 0, none⟩ = some (.string { data := #[] }) := (by rw [hb2.cell (by simp)]; simp)
                 have z1 : w'.cell? ⟨wr.heap.size, 1, none⟩ = some (.string { data := #[] }) := (by rw [hb2.cell (by simp)]; simp)
                 have z2 : w'.cell? ⟨wr.heap.size, 2, none⟩ = some (.string { data := #[] }) := (by rw [hb2.cell (by simp)]; simp)
                 have y0 : ∀ j, w'.frozen? ⟨wr.heap.size, j, none⟩ = false := (fun j => by rw [hb2.frozen (by simp)]; exact FZ.out j))))
          all_goals
            rename_i hH
            obtain ⟨q0, q1, q2, hB⟩ := hH
            go_wp2_with (go_at_call 33; (with_reducible refine (HALL.out _).mono ?_); rintro e w7 ⟨rfl, hb7⟩)
            go_roundw
            case rel => exact ⟨k + 1, by go_num, by omega, HT2, hB.trans (hb7.mono hB.size)⟩
            case measure => simp [intOf]; omega
      · have HB := Lib.hid (HBAD.out HT.out)
        clear HBAD HT HALL
        have hws := hbw.size
        go_wp2_with fail
        go_region_held3 (fun w' => w'.cell? ⟨b, off + k * 3, none⟩ = some (.string r.k) ∧ w'.cell? ⟨b, off + k * 3 + 1, none⟩ = some (.string r.o) ∧ w'.cell? ⟨b, off + k * 3 + 2, none⟩ = some (.string r.n) ∧ Below w.heap.size w w')
          (first
            | exact SS.out _ hbw.drew
            | exact SS.out _ (hbw.drew.alloc hbw.size _)
            | exact SS.out _ ((hbw.alloc hbw.size _).drew)
            | exact SS.out _ (hbw.drew.trans (hb2.mono hbw.size))
            | exact SS.out _ ((hbw.drew.trans (hb2.mono hbw.size)).alloc (Nat.le_trans hbw.size hb2.size) _)
            | exact SS.out _ (((hbw.alloc hbw.size _).drew).trans (hb2.mono (by simp; omega)))
            | exact SS.out _ (below_set3 (((hbw.alloc hbw.size _).drew).trans (hb2.mono (by simp; omega))) hbw.size _ _ _))
          ((go_at_call 32; first
            | ((with_reducible refine (HF.out _ (hRt.out.later hbw.drew (Nat.le_refl _))).mono ?_); rintro e w' ⟨rfl, hb2⟩)
            | ((with_reducible refine (HF.out _ (hRt.out.later ((hbw.alloc hbw.size _).drew) (Nat.le_refl _))).mono ?_); rintro e w' ⟨rfl, hb2⟩
               have z0 : w'.cell? ⟨wr.heap.size, 0, none⟩ = some (.string { data := #[] }) := (by rw [hb2.cell (by simp)]; simp)
               have z1 : w'.cell? ⟨wr.heap.size, 1, none⟩ = some (.string { data := #[] }) := (by rw [hb2.cell (by simp)]; simp)
               have z2 : w'.cell? ⟨wr.heap.size, 2, none⟩ = some (.string { data := #[] }) := (by rw [hb2.cell (by simp)]; simp)
               have y0 : ∀ j, w'.frozen? ⟨wr.heap.size, j, none⟩ = false := (fun j => by rw [hb2.frozen (by simp)]; exact FZ.out j))))
        all_goals
          rename_i hH
          obtain ⟨q0, q1, q2, hB⟩ := hH
          go_wp2
          go_ret
          exact ⟨ret_int HB.out, hB⟩
    · have e1 := Lib.hid (show okL rs = true by have := hok.out; rwa [List.take_of_length_le (by omega)] at this)
      clear hok
      go_wp2
      go_ret
      exact ⟨ret_int (HP2.out e1.out), hbw⟩

end Go.Proofs.Ytmbccolkgephgaa.Rom
