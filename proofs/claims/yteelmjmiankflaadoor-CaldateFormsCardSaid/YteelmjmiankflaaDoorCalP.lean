/-
  Contracts of caldate.decimal, kanji, inEra.
-/
import Derived.Test.YteelmjmiankflaaDoorCalN
import Derived.Test.YteelmjmiankflaaDoorCalH
import Derived.Test.YteelmjmiankflaaDoorNumPS
import Derived.Lib.AppendIntMem
import Derived.Lib.SmallJoins
import Derived.Deep.RegionWith
set_option linter.unusedVariables false
set_option linter.unusedSimpArgs false
namespace Go.Proofs.YteelmjmiankflaaDoor.Cal
open Go Go.RowKit Go.Proofs.YteelmjmiankflaaDoor.Kit Go.Proofs.YteelmjmiankflaaDoor.Utf
open Go.Proofs.YteelmjmiankflaaDoor.Num

/-- The tables that the forms of a day read. -/
structure FLaid (w : World) : Prop where
  era : ELaid w
  num : Num.Laid w
  pow : Lib.TabIs Tryd.prog w "internal/strconv.uint64pow10" .u64 Lib.pow10Tab
theorem FLaid.next {w w' : World} (h : FLaid w) (hb : Below w.heap.size w w') : FLaid w' :=
  ⟨h.era.next hb, h.num.next hb, Joins.tab_stays (g := 6) (by kernel_rfl) h.pow hb (Nat.le_refl _)⟩

theorem itoa_at (n : Nat) (hn : n ≤ 9999) (w : World) (hL : FLaid w) :
    Calls Tryd.prog 35 #[.int .i64 n] w fun e w' => e = .returned (.string (tx (ascC (digs n)))) ∧ Below w.heap.size w w' := by
  have e1 : (⟨(Lib.itoa (n : Int)).toArray⟩ : ByteArray) = tx (ascC (digs n)) := by
    rw [← dg_tx _ (digs_le n), dg_digs]
    unfold Lib.itoa
    rw [if_neg (by omega)]; rfl
  refine (Tryd.strconv_Itoa (n : Int) (by omega) (by omega) w hL.pow).mono ?_
  rintro e w' ⟨rfl, k, os, rfl⟩
  exact ⟨by rw [e1], Lib.below_grow _ _ (Nat.le_refl _) k os⟩

theorem repeat_at (c : Nat) (hc : c ≤ 4) (w : World) :
    Calls Tryd.prog 36 #[.string { data := #[48] }, .int .i64 c] w fun e w' => e = .returned (.string (tx (ascC (List.replicate c 0)))) ∧ Below w.heap.size w w' := by
  have e1 : (⟨(Lib.repeatL [48] c).toArray⟩ : ByteArray) = tx (ascC (List.replicate c 0)) := by
    rw [repeat_zero, dg_tx]
    intro d hd
    rw [(List.mem_replicate.1 hd).2]; omega
  refine (Tryd.strings_Repeat { data := #[48] } c w (by omega) (by show 1 * c ≤ _; omega)).mono ?_
  rintro e w' ⟨rfl, hb⟩
  exact ⟨by rw [← e1], hb⟩

/-- A field of a form. -/
def fieldV (n k : Nat) (u : List Int) : Value := .agg #[.int .i64 n, .int .i64 k, .string (tx u)]

set_option maxHeartbeats 4000000 in
theorem decimal_at (n k : Nat) (u : List Int) (hn : n ≤ 9999) (hk : k ≤ 4) (hu : (encs u).length ≤ 100) (w : World) (hL : FLaid w) :
    Calls Tryd.prog 27 #[.agg #[.int .i64 n, .int .i64 k, .string (tx u)]] w fun e w' => e = .returned (.string (tx (decC n k u))) ∧ Below w.heap.size w w' := by
  have hb1 : Below w.heap.size w (w.alloc (.cells #[.int .i64 n, .int .i64 k, .string (tx u)] 47)) := (Below.refl _ w).alloc (Nat.le_refl _) _
  have hsz1 := size_alloc w (.cells #[.int .i64 n, .int .i64 k, .string (tx u)] 47)
  have HI := Lib.hid (itoa_at n hn _ (hL.next hb1))
  have k1 : (w.alloc (.cells #[.int .i64 n, .int .i64 k, .string (tx u)] 47)).cell? ⟨w.heap.size, 1, none⟩ = some (.int .i64 k) := by rw [World.cell?_alloc_at _ _ _ _ rfl]; rfl
  have k2 : (w.alloc (.cells #[.int .i64 n, .int .i64 k, .string (tx u)] 47)).cell? ⟨w.heap.size, 2, none⟩ = some (.string (tx u)) := by rw [World.cell?_alloc_at _ _ _ _ rfl]; rfl
  have HC : ∀ w2, Below (w.alloc (.cells #[.int .i64 n, .int .i64 k, .string (tx u)] 47)).heap.size (w.alloc (.cells #[.int .i64 n, .int .i64 k, .string (tx u)] 47)) w2 →
      w2.cell? ⟨w.heap.size, 1, none⟩ = some (.int .i64 k) ∧ w2.cell? ⟨w.heap.size, 2, none⟩ = some (.string (tx u)) ∧ Below w.heap.size w w2 ∧ w.heap.size < w2.heap.size := by
    intro w2 h2
    refine ⟨?_, ?_, hb1.trans (h2.mono (by rw [hsz1]; omega)), by have := h2.size; omega⟩
    · rw [h2.cell (p := ⟨w.heap.size, 1, none⟩) (show w.heap.size < _ by rw [hsz1]; omega)]; exact k1
    · rw [h2.cell (p := ⟨w.heap.size, 2, none⟩) (show w.heap.size < _ by rw [hsz1]; omega)]; exact k2
  have HC := Lib.hid HC
  have hlen := asc_len (digs n) (digs_le n)
  have hl4 := digs_len4 hn
  have hl1 := digs_len_pos n
  have hts := tx_size (ascC (digs n))
  rw [hlen] at hts
  have hx1 := add_tx (ascC (List.replicate (k - (digs n).length) 0)) (ascC (digs n)) (by
    rw [hlen, asc_len _ (fun d hd => by rw [(List.mem_replicate.1 hd).2]; omega), List.length_replicate]; omega)
  have hx2 := add_tx (ascC (List.replicate (k - (digs n).length) 0) ++ ascC (digs n)) u (by
    rw [encs_append, List.length_append, hlen, asc_len _ (fun d hd => by rw [(List.mem_replicate.1 hd).2]; omega), List.length_replicate]; omega)
  have hres : ascC (List.replicate (k - (digs n).length) 0) ++ ascC (digs n) ++ u = decC n k u := by
    unfold decC pad
    rw [ascC_map, ascC_map, ascC_map, List.map_append]
  rw [hres] at hx2
  have HR := Lib.hid (repeat_at (k - (digs n).length) (by omega))
  obtain ⟨z, hz⟩ : ∃ z : Int, ((k - (digs n).length : Nat) : Int) = z := ⟨_, rfl⟩
  have hw : IntKind.i64.wrap ((k : Int) - (digs n).length) = (k : Int) - (digs n).length := IntWalk.i64_in _ ⟨by omega, by omega⟩
  have hm : max 0 ((k : Int) - (digs n).length) = z := by omega
  rw [hz] at HR
  obtain ⟨L, hLn⟩ : ∃ L, (digs n).length = L := ⟨_, rfl⟩
  rw [hLn] at hx1 hx2 hl4 hl1 hts HR hz hw hm
  clear hz
  generalize ascC (List.replicate (k - L) 0) = Z at *
  generalize ascC (digs n) = D at *
  generalize decC n k u = R at *
  clear hres hLn hlen hsz1 k1 k2 hb1 hL
  go_enter Tryd.func27, Tryd.ntmps27
  go_wp2_with (go_at_call 35; refine HI.out.mono ?_; rintro e w2 ⟨rfl, hb2⟩)
  obtain ⟨q1, q2, hb3, hs3⟩ := HC.out w2 hb2
  clear hb2 HC HI
  go_region_with (go_at_call 36; refine (HR.out _).mono ?_; rintro e w3 ⟨rfl, hb4⟩; have q3 : w3.cell? ⟨w.heap.size, 2, none⟩ = some (.string (tx u)) := (hb4.cell (p := ⟨w.heap.size, 2, none⟩) hs3).trans q2)
  all_goals
    go_wp2
    go_ret
    exact ⟨rfl, hb3.drew.trans (hb4.mono hb3.size)⟩

end Go.Proofs.YteelmjmiankflaaDoor.Cal
