/-
  RomanLines: a skipped line more changes only the numbers of the lines behind it; a beginning of an accepted text has so many of its rules. Conditions: none.
-/
import Derived.Test.YtpaeppklkicngaaDoorRomW
import Derived.Test.YtpaeppklkicngaaDoorRomLa
import Derived.Test.YtpaeppklkicngaaDoorRomFr
import Derived.OpenShut
import Derived.ShutString
import Derived.ChangeOld
import Derived.LaidMore
import Derived.Lay
import Derived.SevenTiedAt
import Derived.SizedLaws
import Derived.Test.YtpaeppklkicngaaDoorCards
import Derived.Test.YtpaeppklkicngaaDoorTie
set_option linter.unusedVariables false
set_option linter.unusedSimpArgs false
namespace Go.Proofs.YtpaeppklkicngaaDoor.romanLines
open Go Go.RowKit Go.ChangeShapes Go.WideShapes Go.ChangeAt Go.Proofs.YtpaeppklkicngaaDoor Go.Proofs.YtpaeppklkicngaaDoor.Kit
open Go.ChangeMaps (open_string shut_string)
open Go.Proofs.YtpaeppklkicngaaDoor.Utf Go.Proofs.YtpaeppklkicngaaDoor.Rom
set_option maxRecDepth 100000

theorem wf_u16 {n : Int} (h : (Lit.int .u16 n).wf = true) : 0 ≤ n ∧ n ≤ 65535 := by
  simp [Lit.wf, IntKind.min, IntKind.max, IntKind.signed, IntKind.bits] at h; omega

theorem parse_ok0 (s : ByteArray) (rs : List Rule) (h : parseL s = (rs, 0, 0)) (hs : s.size ≤ 140737488351232) (W : World) :
    Calls Tryd.prog 11 #[.string s] W fun e w' => ∃ a cap, e = .returned (.tuple #[.slice a rs.length cap, .int .i64 0, .int .i64 0]) ∧ RowR w' (.slice a rs.length cap) rs ∧ Below W.heap.size W w' ∧ (∀ r ∈ rs, Short r) ∧ rs.length ≤ 500 := parse_is s rs 0 0 h hs W
theorem parse_next (s : ByteArray) (rs : List Rule) (n : Nat) (er : Int) (h : parseL s = (rs, n + 1, er)) (hs : s.size ≤ 140737488351232) (W : World) :
    Calls Tryd.prog 11 #[.string s] W fun e w' => ∃ a cap, e = .returned (.tuple #[.slice a rs.length cap, .int .i64 ((n : Int) + 1), .int .i64 er]) ∧ RowR w' (.slice a rs.length cap) rs ∧ Below W.heap.size W w' ∧ (∀ r ∈ rs, Short r) ∧ rs.length ≤ 500 := parse_is s rs (n + 1) er h hs W

set_option maxHeartbeats 8000000 in
theorem walk (a0 : ByteArray) (a1 : Int) (a2 : Bool) (w : World) (w0 : a0.size ≤ maxLen) (w1 : (Lit.int .u16 a1).wf = true) (s0 : a0.size ≤ 140737488351232) :
    Calls Tryd.prog 8 #[.string a0, .int .u16 a1, .bool a2] w fun e w' => e = .returned (.bool true) ∧ Below w.heap.size w w' := by
  have b1 : 0 ≤ a1 ∧ a1 ≤ 65535 := wf_u16 w1
  clear w0 w1
  by_cases hlen : a0.size ≤ 5000
  rotate_left
  · go_enter Tryd.func8, Tryd.ntmps8
    go_wp2
    go_ret
    exact ⟨rfl, Below.refl _ _⟩
  have HLI := fun W => lines_any a0 W (by omega)
  have htl := tl_lines a0
  have hfree := pc_free (c := 10) (l := bs a0)
  have hpl := parse_lines a0 hlen
  have hpos : 0 < (pc 10 (bs a0)).length := List.length_pos_iff.2 (pc_ne _ _)
  have hcnt := pc_count_le 10 (bs a0)
  rw [bs_len] at hcnt
  generalize pc 10 (bs a0) = L at HLI htl hfree hpl hpos hcnt
  have HLI := Lib.hid HLI
  obtain ⟨m, hm⟩ : ∃ m, L.length = m := ⟨_, rfl⟩
  have hm1 : 0 < m := by omega
  have hm2 : m ≤ 5001 := by omega
  obtain ⟨k, hk⟩ : ∃ k : Nat, a1.tmod (m : Int) = (k : Int) := ⟨(a1.tmod (m : Int)).toNat, by
    rw [Int.tmod_eq_emod_of_nonneg b1.1]
    have := Int.emod_nonneg a1 (show (m : Int) ≠ 0 by omega)
    omega⟩
  have hkl : k < m := by
    rw [Int.tmod_eq_emod_of_nonneg b1.1] at hk
    have := Int.emod_lt_of_pos a1 (show (0 : Int) < (m : Int) by omega)
    omega
  have HM := Lib.hid hm
  have HTL := Lib.hid htl
  have HFREE := Lib.hid hfree
  have HPL := Lib.hid hpl
  have hmz : ¬ (m : Int) = 0 := by omega
  have hmz2 : ((m : Int) == 0) = false := by simpa using hmz
  clear hm htl hfree hpl hpos hcnt
  cases a2
  · obtain ⟨ex, hex, hsk, hexl, hexf⟩ : ∃ ex : List UInt8, ({ data := #[35, 32, 227, 129, 139] } : ByteArray) = ba ex ∧ skips ex = true ∧ ex.length ≤ 5 ∧ (10 : UInt8) ∉ ex := ⟨[35, 32, 227, 129, 139], rfl, rfl, by simp, by decide⟩
    obtain ⟨rs, n, er, hpb⟩ : ∃ rs n er, parseL a0 = (rs, n, er) := ⟨_, _, _, rfl⟩
    obtain ⟨hq1, hq2, hq3, hq4, hq5⟩ := lines_say hsk HM.out hkl HTL.out hlen hexl hexf HFREE.out HPL.out rs n er hpb
    have hsz2 := jn_le 10 (L.take k ++ [ex] ++ L.drop k)
    have hsz3 := jn_le 10 (L.take k)
    rw [← ba_size] at hsz2 hsz3
    have HJM := fun v W hR => joined_any v (L.take k ++ [ex] ++ L.drop k) W hR (by omega)
    have HJK := fun v W hR => joined_any v (L.take k) W hR (by omega)
    obtain ⟨tm, htm⟩ : ∃ tm, ba (jn 10 (L.take k ++ [ex] ++ L.drop k)) = tm := ⟨_, rfl⟩
    obtain ⟨tk, htk⟩ : ∃ tk, ba (jn 10 (L.take k)) = tk := ⟨_, rfl⟩
    rw [htm] at HJM hsz2 hq1
    rw [htk] at HJK hsz3 hq5
    replace HJM := Lib.hid HJM
    replace HJK := Lib.hid HJK
    have hsz4 : tm.size ≤ 6000 := by omega
    have hsz5 : tk.size ≤ 6000 := by omega
    have HTB := Lib.hid (fun v W hR hn => taken_is v rs W hR hn)
    have HSB := fun v1 v2 W hA hB hn => same_any v1 v2 rs rs W hA hB hn
    rw [decide_eq_true rfl] at HSB
    replace HSB := Lib.hid HSB
    have HW := Lib.hid works_any
    have hn5 : n ≤ 5001 := by omega
    have HCASE := Lib.hid (show (er = 0 ∧ n = 0) ∨ (er ≠ 0 ∧ k < n) ∨ (er ≠ 0 ∧ ¬ k < n) by
      by_cases h1 : er = 0
      · exact .inl ⟨h1, (hq5 h1).1⟩
      · by_cases h2 : k < n
        · exact .inr (.inl ⟨h1, h2⟩)
        · exact .inr (.inr ⟨h1, h2⟩))
    have HPB := Lib.hid hpb
    have HQ1 := Lib.hid hq1
    have HQ5 := Lib.hid hq5
    clear hpb hq1 hq2 hq3 hq4 hq5 htm htk hsz2 hsz3
    go_enter Tryd.func8, Tryd.ntmps8
    go_wp2_with (go_at_call 28; (with_reducible refine (HLI.out _).mono ?_); rintro e w1 ⟨v, rfl, hown1, hb1⟩; obtain ⟨g, cap, rfl, hg0, hg1, hcell⟩ := pc_cells hown1 (by have := HM.out; omega); rw [HM.out]; rw [HM.out] at hown1; clear hcell)
    rw [hex]
    have hR1 := own_reads hown1
    obtain ⟨x1, hs1, hx1⟩ := str_upto hR1 hkl
    obtain ⟨x2, hs2, hx2⟩ := str_on hR1 hkl
    have HR1 := Lib.hid hR1
    have HX1 := Lib.hid hx1
    have HX2 := Lib.hid hx2
    have HOWN1 := Lib.hid hown1
    have HB1 := Lib.hid hb1
    have HLEN := Lib.hid (show (L.take k).length = k ∧ (L.drop k).length = m - k from ⟨by rw [List.length_take, HM.out]; omega, by rw [List.length_drop, HM.out]⟩)
    have hb0 := Below.refl w1.heap.size w1
    clear hR1 hx1 hx2 hown1 hb1 hex
    go_region_held3 (fun w' => Below w1.heap.size w1 w')
      (((repeat (first
        | with_reducible exact hbC
        | with_reducible exact hbB
        | with_reducible exact hbA
        | with_reducible exact hb0
        | with_reducible apply below_dw
        | with_reducible apply below_al)); done))
      (first
        | (refine step_append_str _ (by rfl) _ _ (by rfl) w1.heap.size (.slice (some ⟨w1.heap.size, 0, none⟩) 0 0) 0 [] (by rfl) (by (repeat (first | with_reducible exact own_empty3 _ _ _ _ _ rfl (by simp) | with_reducible exact own_empty3 _ _ _ _ _ (by simp) (by simp) | with_reducible apply World.ownsRow.drew | with_reducible apply World.ownsRow.alloc))) x1 (L.take k) (by rfl) (HX1.out.later (by (repeat (first | with_reducible exact hb0 | with_reducible apply below_dw | with_reducible apply below_al)))) (by have := HLEN.out; omega) (by first | omega | (simp <;> omega)) ?_
           intro vA wA hownA hgA
           have hbA : Below w1.heap.size w1 wA := (Below.grown (by (repeat (first | with_reducible exact hb0 | with_reducible apply below_dw | with_reducible apply below_al))) hgA (by first | omega | (simp <;> omega)) (fun j hj => by simp [Value.ownBlock] at hj; omega))
           have hzA := hbA.size)
        | (refine step_append_str _ (by rfl) _ _ (by rfl) w1.heap.size (.slice (some ⟨w1.heap.size + 1, 0, none⟩) 0 0) 0 [] (by rfl) (by (repeat (first | with_reducible exact own_empty3 _ _ _ _ _ rfl (by simp) | with_reducible exact own_empty3 _ _ _ _ _ (by simp) (by simp) | with_reducible apply World.ownsRow.drew | with_reducible apply World.ownsRow.alloc))) x1 (L.take k) (by rfl) (HX1.out.later (by (repeat (first | with_reducible exact hb0 | with_reducible apply below_dw | with_reducible apply below_al)))) (by have := HLEN.out; omega) (by first | omega | (simp <;> omega)) ?_
           intro vA wA hownA hgA
           have hbA : Below w1.heap.size w1 wA := (Below.grown (by (repeat (first | with_reducible exact hb0 | with_reducible apply below_dw | with_reducible apply below_al))) hgA (by first | omega | (simp <;> omega)) (fun j hj => by simp [Value.ownBlock] at hj; omega))
           have hzA := hbA.size)
        | (refine step_append_str _ (by rfl) _ _ (by rfl) w1.heap.size vA _ _ (by rfl) (by (repeat (first | with_reducible exact hownA | with_reducible apply World.ownsRow.drew | with_reducible apply World.ownsRow.alloc))) (.slice (some ⟨wA.heap.size, 0, none⟩) 1 1) [ex] (by rfl) (reads_one (t := 9) (by (repeat (first | with_reducible exact heap_new_at _ _ _ (by simp) | with_reducible apply keeps_drew | with_reducible apply keeps_alloc | (refine grown_keeps hgA ?_ (by simp [Value.ownBlock])))))) (by have := HLEN.out; simp; omega) (by first | omega | (simp <;> omega)) ?_
           intro vB wB hownB hgB
           have hbB : Below w1.heap.size w1 wB := (below_own (base := w1.heap.size) (by (repeat (first | with_reducible exact hbA | with_reducible apply below_dw | with_reducible apply below_al))) (by (repeat (first | with_reducible exact hownA | with_reducible apply World.ownsRow.drew | with_reducible apply World.ownsRow.alloc))) (Nat.le_refl _) (by first | omega | (simp <;> omega)) hgB)
           have hzB := hbB.size)
        | (refine step_append_str _ (by rfl) _ _ (by rfl) w1.heap.size vA _ _ (by rfl) (by (repeat (first | with_reducible exact hownA | with_reducible apply World.ownsRow.drew | with_reducible apply World.ownsRow.alloc))) (.slice (some ⟨w1.heap.size + 1, 0, none⟩) 1 1) [ex] (by rfl) (reads_one (t := 9) (by (repeat (first | with_reducible exact heap_new_at _ _ _ (by simp) | with_reducible apply keeps_drew | with_reducible apply keeps_alloc | (refine grown_keeps hgA ?_ (by simp [Value.ownBlock])))))) (by have := HLEN.out; simp; omega) (by first | omega | (simp <;> omega)) ?_
           intro vB wB hownB hgB
           have hbB : Below w1.heap.size w1 wB := (below_own (base := w1.heap.size) (by (repeat (first | with_reducible exact hbA | with_reducible apply below_dw | with_reducible apply below_al))) (by (repeat (first | with_reducible exact hownA | with_reducible apply World.ownsRow.drew | with_reducible apply World.ownsRow.alloc))) (Nat.le_refl _) (by first | omega | (simp <;> omega)) hgB)
           have hzB := hbB.size)
        | (refine step_append_str _ (by rfl) _ _ (by rfl) w1.heap.size vA _ _ (by rfl) (by (repeat (first | with_reducible exact hownA | with_reducible apply World.ownsRow.drew | with_reducible apply World.ownsRow.alloc))) (.slice (some ⟨w1.heap.size, 0, none⟩) 1 1) [ex] (by rfl) (reads_one (t := 9) (by (repeat (first | with_reducible exact heap_new_at _ _ _ (by simp) | with_reducible apply keeps_drew | with_reducible apply keeps_alloc | (refine grown_keeps hgA ?_ (by simp [Value.ownBlock])))))) (by have := HLEN.out; simp; omega) (by first | omega | (simp <;> omega)) ?_
           intro vB wB hownB hgB
           have hbB : Below w1.heap.size w1 wB := (below_own (base := w1.heap.size) (by (repeat (first | with_reducible exact hbA | with_reducible apply below_dw | with_reducible apply below_al))) (by (repeat (first | with_reducible exact hownA | with_reducible apply World.ownsRow.drew | with_reducible apply World.ownsRow.alloc))) (Nat.le_refl _) (by first | omega | (simp <;> omega)) hgB)
           have hzB := hbB.size)
        | (refine step_append_str _ (by rfl) _ _ (by rfl) w1.heap.size vB _ _ (by rfl) (by (repeat (first | with_reducible exact hownB | with_reducible apply World.ownsRow.drew | with_reducible apply World.ownsRow.alloc))) x2 (L.drop k) (by rfl) (HX2.out.later (by (repeat (first | with_reducible exact hbB | with_reducible apply below_dw | with_reducible apply below_al)))) (by have := HLEN.out; simp at *; omega) (by first | omega | (simp <;> omega)) ?_
           intro vC wC hownC hgC
           have hbC : Below w1.heap.size w1 wC := (below_own (base := w1.heap.size) (by (repeat (first | with_reducible exact hbB | with_reducible apply below_dw | with_reducible apply below_al))) (by (repeat (first | with_reducible exact hownB | with_reducible apply World.ownsRow.drew | with_reducible apply World.ownsRow.alloc))) (Nat.le_refl _) (by first | omega | (simp <;> omega)) hgC)))
    all_goals
      rename_i hH
      clear hH hgA hgB hgC hownA hownB hbA hbB
      have hRM : Reads wC vC (pcells (L.take k ++ [ex] ++ L.drop k)) := by
        have := own_reads hownC
        rw [show pcells (L.take k ++ [ex] ++ L.drop k) = [] ++ pcells (L.take k) ++ pcells [ex] ++ pcells (L.drop k) by simp [pcells]]
        exact this
      have hb := hbC
      clear hownC hbC hb0
      rcases HCASE.out with ⟨h1, hn⟩ | ⟨h1, hn⟩ | ⟨h1, hn⟩
      · subst h1 hn
        have HB := Lib.hid (parse_ok0 a0 rs HPB.out s0)
        obtain ⟨_, c, t, hc, hct⟩ := HQ5.out rfl
        have hq := HQ1.out
        rw [if_neg (by omega)] at hq
        have HP2 := Lib.hid (parse_ok0 tm rs hq (by omega))
        have HP3 := Lib.hid (parse_ok0 tk c hc (by omega))
        have hcl : c.length ≤ rs.length := by rw [hct, List.length_append]; omega
        have HCT := Lib.hid (show rs.take c.length = c by rw [hct, List.take_left])
        clear hq hc hct HPB HQ1 HQ5 HCASE
        go_wp2_with (first
          | (go_at_call 11; (with_reducible refine (HB.out _).mono ?_); rintro e w6 ⟨aa, capa, rfl, hRa, hb6, hsha, hla⟩; have hRM := hRM.later hb6; have hb := hb.trans (hb6.mono hb.size); clear HB hsha)
          | (go_at_call 29; (with_reducible refine (HJM.out _ _ hRM).mono ?_); rintro e w7 ⟨rfl, hb7⟩; have hRa := hRa.later hb7 (Nat.le_refl _); have hb := hb.trans (hb7.mono hb.size); clear HJM)
          | (go_at_call 11; (with_reducible refine (HP2.out _).mono ?_); rintro e w8 ⟨ab, capb, rfl, hRb, hb8, hshb, hlb⟩; have hRa := hRa.later hb8 (Nat.le_refl _); have hb := hb.trans (hb8.mono hb.size); clear HP2 hshb)
          | (go_at_call 27; (with_reducible refine (HTB.out _ _ hRb (by omega)).mono ?_); rintro e w9 ⟨vt, rfl, hRt, hb9⟩; have hRa := hRa.later hb9 (Nat.le_refl _); have hb := hb.trans (hb9.mono hb.size); clear HTB)
          | (go_at_call 13; (with_reducible refine (HSB.out _ _ _ hRa hRt (by omega)).mono ?_); rintro e w10 ⟨rfl, hb10⟩; have hRa := hRa.later hb10 (Nat.le_refl _); have hb := hb.trans (hb10.mono hb.size); clear HSB)
          | (go_at_call 29; (with_reducible refine (HJK.out _ _ (HX1.out.later hb)).mono ?_); rintro e w11 ⟨rfl, hb11⟩; have hRa := hRa.later hb11 (Nat.le_refl _); have hb := hb.trans (hb11.mono hb.size); clear HJK)
          | (go_at_call 11; (with_reducible refine (HP3.out _).mono ?_); rintro e w12 ⟨ac, capc, rfl, hRc, hb12, hshc, hlc⟩; have hRa := hRa.later hb12 (Nat.le_refl _); have hb := hb.trans (hb12.mono hb.size); clear HP3 hshc)
          | (go_at_call 14; (with_reducible refine (HW.out _).mono ?_); rintro e w13 ⟨rfl, hb13⟩; have hb := hb.trans (hb13.mono hb.size)))
        obtain ⟨bs1, hsl, hRs⟩ := slice_upto_r hRa hcl
        rw [HCT.out] at hRs
        have hclI : (c.length : Int) ≤ rs.length := by omega
        have hclD : decide ((c.length : Int) ≤ rs.length) = true := decide_eq_true hclI
        have HTC := Lib.hid (fun v W hR hn => taken_is v c W hR hn)
        have HSC := fun v1 v2 W hA hB hn => same_any v1 v2 c c W hA hB hn
        rw [decide_eq_true rfl] at HSC
        replace HSC := Lib.hid HSC
        have hz := Below.refl w12.heap.size w12
        go_region_held3 (fun w' => Below w12.heap.size w12 w')
          (((repeat (first
            | with_reducible exact hc16
            | with_reducible exact hc15
            | with_reducible exact hc14
            | with_reducible exact hz
            | with_reducible apply below_dw
            | with_reducible apply below_al)); done))
          ((first
            | (go_at_call 27
               (with_reducible refine (HTC.out _ _ (hRc.later (B := w12.heap.size) (by (repeat (first | with_reducible exact hz | with_reducible apply below_dw | with_reducible apply below_al))) (Nat.le_refl _)) (by omega)).mono ?_)
               rintro e w14 ⟨vt2, rfl, hRt2, hb14⟩
               have hc14 : Below w12.heap.size w12 w14 := Below.trans (by (repeat (first | with_reducible exact hz | with_reducible apply below_dw | with_reducible apply below_al))) (hb14.mono (by first | exact Nat.le_refl _ | simp)))
            | (go_at_call 13
               (with_reducible refine (HSC.out _ _ _ (hRs.later (B := w12.heap.size) (by (repeat (first | with_reducible exact hc14 | with_reducible apply below_dw | with_reducible apply below_al))) (Nat.le_refl _)) (hRt2.later (B := w14.heap.size) (by (repeat (first | with_reducible exact Below.refl _ _ | with_reducible apply below_dw))) (Nat.le_refl _)) (by omega)).mono ?_)
               rintro e w15 ⟨rfl, hb15⟩
               have hc15 : Below w12.heap.size w12 w15 := Below.trans (by (repeat (first | with_reducible exact hc14 | with_reducible apply below_dw | with_reducible apply below_al))) (hb15.mono (by have := hc14.size; first | omega | (simp; omega))))
            | (go_at_call 14
               (with_reducible refine (HW.out _).mono ?_)
               rintro e w16 ⟨rfl, hb16⟩
               have hc16 : Below w12.heap.size w12 w16 := Below.trans (by (repeat (first | with_reducible exact hc15 | with_reducible apply below_dw | with_reducible apply below_al))) (hb16.mono (by have := hc15.size; first | omega | (simp; omega))))))
        all_goals
          rename_i hH
          have hb := hb.trans (hH.mono hb.size)
          go_wp2
          go_ret
          exact ⟨rfl, HB1.out.trans (hb.mono HB1.out.size)⟩
      · have h1b : (er != 0) = true := by simpa using h1
        have h1c : (er == 0) = false := by simpa using h1
        have hn2 : (k : Int) < n := by omega
        have HB := Lib.hid (parse_is a0 rs n er HPB.out s0)
        have hq := HQ1.out
        rw [if_pos hn] at hq
        have HP2 := Lib.hid (parse_next tm rs n er hq (by omega))
        obtain ⟨c, n3, e3, hc⟩ : ∃ c n3 e3, parseL tk = (c, n3, e3) := ⟨_, _, _, rfl⟩
        have HP3 := Lib.hid (parse_is tk c n3 e3 hc (by omega))
        clear hq hc HPB HQ1 HQ5 HCASE
        go_wp2_with (first
          | (go_at_call 11; (with_reducible refine (HB.out _).mono ?_); rintro e w6 ⟨aa, capa, rfl, hRa, hb6, hsha, hla⟩; have hRM := hRM.later hb6; have hb := hb.trans (hb6.mono hb.size); clear HB hsha)
          | (go_at_call 29; (with_reducible refine (HJM.out _ _ hRM).mono ?_); rintro e w7 ⟨rfl, hb7⟩; have hRa := hRa.later hb7 (Nat.le_refl _); have hb := hb.trans (hb7.mono hb.size); clear HJM)
          | (go_at_call 11; (with_reducible refine (HP2.out _).mono ?_); rintro e w8 ⟨ab, capb, rfl, hRb, hb8, hshb, hlb⟩; have hRa := hRa.later hb8 (Nat.le_refl _); have hb := hb.trans (hb8.mono hb.size); clear HP2 hshb)
          | (go_at_call 27; (with_reducible refine (HTB.out _ _ hRb (by omega)).mono ?_); rintro e w9 ⟨vt, rfl, hRt, hb9⟩; have hRa := hRa.later hb9 (Nat.le_refl _); have hb := hb.trans (hb9.mono hb.size); clear HTB)
          | (go_at_call 13; (with_reducible refine (HSB.out _ _ _ hRa hRt (by omega)).mono ?_); rintro e w10 ⟨rfl, hb10⟩; have hRa := hRa.later hb10 (Nat.le_refl _); have hb := hb.trans (hb10.mono hb.size); clear HSB)
          | (go_at_call 29; (with_reducible refine (HJK.out _ _ (HX1.out.later hb)).mono ?_); rintro e w11 ⟨rfl, hb11⟩; have hRa := hRa.later hb11 (Nat.le_refl _); have hb := hb.trans (hb11.mono hb.size); clear HJK)
          | (go_at_call 11; (with_reducible refine (HP3.out _).mono ?_); rintro e w12 ⟨ac, capc, rfl, hRc, hb12, hshc, hlc⟩; have hRa := hRa.later hb12 (Nat.le_refl _); have hb := hb.trans (hb12.mono hb.size); clear HP3 hshc)
          | (go_at_call 14; (with_reducible refine (HW.out _).mono ?_); rintro e w13 ⟨rfl, hb13⟩; have hb := hb.trans (hb13.mono hb.size)))
        all_goals go_ret
        all_goals exact ⟨rfl, HB1.out.trans (hb.mono HB1.out.size)⟩
      · have h1b : (er != 0) = true := by simpa using h1
        have h1c : (er == 0) = false := by simpa using h1
        have hn2 : ¬ (k : Int) < n := by omega
        have HB := Lib.hid (parse_is a0 rs n er HPB.out s0)
        have hq := HQ1.out
        rw [if_neg hn] at hq
        have HP2 := Lib.hid (parse_is tm rs n er hq (by omega))
        obtain ⟨c, n3, e3, hc⟩ : ∃ c n3 e3, parseL tk = (c, n3, e3) := ⟨_, _, _, rfl⟩
        have HP3 := Lib.hid (parse_is tk c n3 e3 hc (by omega))
        clear hq hc HPB HQ1 HQ5 HCASE
        go_wp2_with (first
          | (go_at_call 11; (with_reducible refine (HB.out _).mono ?_); rintro e w6 ⟨aa, capa, rfl, hRa, hb6, hsha, hla⟩; have hRM := hRM.later hb6; have hb := hb.trans (hb6.mono hb.size); clear HB hsha)
          | (go_at_call 29; (with_reducible refine (HJM.out _ _ hRM).mono ?_); rintro e w7 ⟨rfl, hb7⟩; have hRa := hRa.later hb7 (Nat.le_refl _); have hb := hb.trans (hb7.mono hb.size); clear HJM)
          | (go_at_call 11; (with_reducible refine (HP2.out _).mono ?_); rintro e w8 ⟨ab, capb, rfl, hRb, hb8, hshb, hlb⟩; have hRa := hRa.later hb8 (Nat.le_refl _); have hb := hb.trans (hb8.mono hb.size); clear HP2 hshb)
          | (go_at_call 27; (with_reducible refine (HTB.out _ _ hRb (by omega)).mono ?_); rintro e w9 ⟨vt, rfl, hRt, hb9⟩; have hRa := hRa.later hb9 (Nat.le_refl _); have hb := hb.trans (hb9.mono hb.size); clear HTB)
          | (go_at_call 13; (with_reducible refine (HSB.out _ _ _ hRa hRt (by omega)).mono ?_); rintro e w10 ⟨rfl, hb10⟩; have hRa := hRa.later hb10 (Nat.le_refl _); have hb := hb.trans (hb10.mono hb.size); clear HSB)
          | (go_at_call 29; (with_reducible refine (HJK.out _ _ (HX1.out.later hb)).mono ?_); rintro e w11 ⟨rfl, hb11⟩; have hRa := hRa.later hb11 (Nat.le_refl _); have hb := hb.trans (hb11.mono hb.size); clear HJK)
          | (go_at_call 11; (with_reducible refine (HP3.out _).mono ?_); rintro e w12 ⟨ac, capc, rfl, hRc, hb12, hshc, hlc⟩; have hRa := hRa.later hb12 (Nat.le_refl _); have hb := hb.trans (hb12.mono hb.size); clear HP3 hshc)
          | (go_at_call 14; (with_reducible refine (HW.out _).mono ?_); rintro e w13 ⟨rfl, hb13⟩; have hb := hb.trans (hb13.mono hb.size)))
        all_goals go_ret
        all_goals exact ⟨rfl, HB1.out.trans (hb.mono HB1.out.size)⟩
  · obtain ⟨ex, hex, hsk, hexl, hexf⟩ : ∃ ex : List UInt8, ({ data := #[] } : ByteArray) = ba ex ∧ skips ex = true ∧ ex.length ≤ 5 ∧ (10 : UInt8) ∉ ex := ⟨[], rfl, rfl, by simp, by simp⟩
    obtain ⟨rs, n, er, hpb⟩ : ∃ rs n er, parseL a0 = (rs, n, er) := ⟨_, _, _, rfl⟩
    obtain ⟨hq1, hq2, hq3, hq4, hq5⟩ := lines_say hsk HM.out hkl HTL.out hlen hexl hexf HFREE.out HPL.out rs n er hpb
    have hsz2 := jn_le 10 (L.take k ++ [ex] ++ L.drop k)
    have hsz3 := jn_le 10 (L.take k)
    rw [← ba_size] at hsz2 hsz3
    have HJM := fun v W hR => joined_any v (L.take k ++ [ex] ++ L.drop k) W hR (by omega)
    have HJK := fun v W hR => joined_any v (L.take k) W hR (by omega)
    obtain ⟨tm, htm⟩ : ∃ tm, ba (jn 10 (L.take k ++ [ex] ++ L.drop k)) = tm := ⟨_, rfl⟩
    obtain ⟨tk, htk⟩ : ∃ tk, ba (jn 10 (L.take k)) = tk := ⟨_, rfl⟩
    rw [htm] at HJM hsz2 hq1
    rw [htk] at HJK hsz3 hq5
    replace HJM := Lib.hid HJM
    replace HJK := Lib.hid HJK
    have hsz4 : tm.size ≤ 6000 := by omega
    have hsz5 : tk.size ≤ 6000 := by omega
    have HTB := Lib.hid (fun v W hR hn => taken_is v rs W hR hn)
    have HSB := fun v1 v2 W hA hB hn => same_any v1 v2 rs rs W hA hB hn
    rw [decide_eq_true rfl] at HSB
    replace HSB := Lib.hid HSB
    have HW := Lib.hid works_any
    have hn5 : n ≤ 5001 := by omega
    have HCASE := Lib.hid (show (er = 0 ∧ n = 0) ∨ (er ≠ 0 ∧ k < n) ∨ (er ≠ 0 ∧ ¬ k < n) by
      by_cases h1 : er = 0
      · exact .inl ⟨h1, (hq5 h1).1⟩
      · by_cases h2 : k < n
        · exact .inr (.inl ⟨h1, h2⟩)
        · exact .inr (.inr ⟨h1, h2⟩))
    have HPB := Lib.hid hpb
    have HQ1 := Lib.hid hq1
    have HQ5 := Lib.hid hq5
    clear hpb hq1 hq2 hq3 hq4 hq5 htm htk hsz2 hsz3
    go_enter Tryd.func8, Tryd.ntmps8
    go_wp2_with (go_at_call 28; (with_reducible refine (HLI.out _).mono ?_); rintro e w1 ⟨v, rfl, hown1, hb1⟩; obtain ⟨g, cap, rfl, hg0, hg1, hcell⟩ := pc_cells hown1 (by have := HM.out; omega); rw [HM.out]; rw [HM.out] at hown1; clear hcell)
    rw [hex]
    have hR1 := own_reads hown1
    obtain ⟨x1, hs1, hx1⟩ := str_upto hR1 hkl
    obtain ⟨x2, hs2, hx2⟩ := str_on hR1 hkl
    have HR1 := Lib.hid hR1
    have HX1 := Lib.hid hx1
    have HX2 := Lib.hid hx2
    have HOWN1 := Lib.hid hown1
    have HB1 := Lib.hid hb1
    have HLEN := Lib.hid (show (L.take k).length = k ∧ (L.drop k).length = m - k from ⟨by rw [List.length_take, HM.out]; omega, by rw [List.length_drop, HM.out]⟩)
    have hb0 := Below.refl w1.heap.size w1
    clear hR1 hx1 hx2 hown1 hb1 hex
    go_region_held3 (fun w' => Below w1.heap.size w1 w')
      (((repeat (first
        | with_reducible exact hbC
        | with_reducible exact hbB
        | with_reducible exact hbA
        | with_reducible exact hb0
        | with_reducible apply below_dw
        | with_reducible apply below_al)); done))
      (first
        | (refine step_append_str _ (by rfl) _ _ (by rfl) w1.heap.size (.slice (some ⟨w1.heap.size, 0, none⟩) 0 0) 0 [] (by rfl) (by (repeat (first | with_reducible exact own_empty3 _ _ _ _ _ rfl (by simp) | with_reducible exact own_empty3 _ _ _ _ _ (by simp) (by simp) | with_reducible apply World.ownsRow.drew | with_reducible apply World.ownsRow.alloc))) x1 (L.take k) (by rfl) (HX1.out.later (by (repeat (first | with_reducible exact hb0 | with_reducible apply below_dw | with_reducible apply below_al)))) (by have := HLEN.out; omega) (by first | omega | (simp <;> omega)) ?_
           intro vA wA hownA hgA
           have hbA : Below w1.heap.size w1 wA := (Below.grown (by (repeat (first | with_reducible exact hb0 | with_reducible apply below_dw | with_reducible apply below_al))) hgA (by first | omega | (simp <;> omega)) (fun j hj => by simp [Value.ownBlock] at hj; omega))
           have hzA := hbA.size)
        | (refine step_append_str _ (by rfl) _ _ (by rfl) w1.heap.size (.slice (some ⟨w1.heap.size + 1, 0, none⟩) 0 0) 0 [] (by rfl) (by (repeat (first | with_reducible exact own_empty3 _ _ _ _ _ rfl (by simp) | with_reducible exact own_empty3 _ _ _ _ _ (by simp) (by simp) | with_reducible apply World.ownsRow.drew | with_reducible apply World.ownsRow.alloc))) x1 (L.take k) (by rfl) (HX1.out.later (by (repeat (first | with_reducible exact hb0 | with_reducible apply below_dw | with_reducible apply below_al)))) (by have := HLEN.out; omega) (by first | omega | (simp <;> omega)) ?_
           intro vA wA hownA hgA
           have hbA : Below w1.heap.size w1 wA := (Below.grown (by (repeat (first | with_reducible exact hb0 | with_reducible apply below_dw | with_reducible apply below_al))) hgA (by first | omega | (simp <;> omega)) (fun j hj => by simp [Value.ownBlock] at hj; omega))
           have hzA := hbA.size)
        | (refine step_append_str _ (by rfl) _ _ (by rfl) w1.heap.size vA _ _ (by rfl) (by (repeat (first | with_reducible exact hownA | with_reducible apply World.ownsRow.drew | with_reducible apply World.ownsRow.alloc))) (.slice (some ⟨wA.heap.size, 0, none⟩) 1 1) [ex] (by rfl) (reads_one (t := 9) (by (repeat (first | with_reducible exact heap_new_at _ _ _ (by simp) | with_reducible apply keeps_drew | with_reducible apply keeps_alloc | (refine grown_keeps hgA ?_ (by simp [Value.ownBlock])))))) (by have := HLEN.out; simp; omega) (by first | omega | (simp <;> omega)) ?_
           intro vB wB hownB hgB
           have hbB : Below w1.heap.size w1 wB := (below_own (base := w1.heap.size) (by (repeat (first | with_reducible exact hbA | with_reducible apply below_dw | with_reducible apply below_al))) (by (repeat (first | with_reducible exact hownA | with_reducible apply World.ownsRow.drew | with_reducible apply World.ownsRow.alloc))) (Nat.le_refl _) (by first | omega | (simp <;> omega)) hgB)
           have hzB := hbB.size)
        | (refine step_append_str _ (by rfl) _ _ (by rfl) w1.heap.size vA _ _ (by rfl) (by (repeat (first | with_reducible exact hownA | with_reducible apply World.ownsRow.drew | with_reducible apply World.ownsRow.alloc))) (.slice (some ⟨w1.heap.size + 1, 0, none⟩) 1 1) [ex] (by rfl) (reads_one (t := 9) (by (repeat (first | with_reducible exact heap_new_at _ _ _ (by simp) | with_reducible apply keeps_drew | with_reducible apply keeps_alloc | (refine grown_keeps hgA ?_ (by simp [Value.ownBlock])))))) (by have := HLEN.out; simp; omega) (by first | omega | (simp <;> omega)) ?_
           intro vB wB hownB hgB
           have hbB : Below w1.heap.size w1 wB := (below_own (base := w1.heap.size) (by (repeat (first | with_reducible exact hbA | with_reducible apply below_dw | with_reducible apply below_al))) (by (repeat (first | with_reducible exact hownA | with_reducible apply World.ownsRow.drew | with_reducible apply World.ownsRow.alloc))) (Nat.le_refl _) (by first | omega | (simp <;> omega)) hgB)
           have hzB := hbB.size)
        | (refine step_append_str _ (by rfl) _ _ (by rfl) w1.heap.size vA _ _ (by rfl) (by (repeat (first | with_reducible exact hownA | with_reducible apply World.ownsRow.drew | with_reducible apply World.ownsRow.alloc))) (.slice (some ⟨w1.heap.size, 0, none⟩) 1 1) [ex] (by rfl) (reads_one (t := 9) (by (repeat (first | with_reducible exact heap_new_at _ _ _ (by simp) | with_reducible apply keeps_drew | with_reducible apply keeps_alloc | (refine grown_keeps hgA ?_ (by simp [Value.ownBlock])))))) (by have := HLEN.out; simp; omega) (by first | omega | (simp <;> omega)) ?_
           intro vB wB hownB hgB
           have hbB : Below w1.heap.size w1 wB := (below_own (base := w1.heap.size) (by (repeat (first | with_reducible exact hbA | with_reducible apply below_dw | with_reducible apply below_al))) (by (repeat (first | with_reducible exact hownA | with_reducible apply World.ownsRow.drew | with_reducible apply World.ownsRow.alloc))) (Nat.le_refl _) (by first | omega | (simp <;> omega)) hgB)
           have hzB := hbB.size)
        | (refine step_append_str _ (by rfl) _ _ (by rfl) w1.heap.size vB _ _ (by rfl) (by (repeat (first | with_reducible exact hownB | with_reducible apply World.ownsRow.drew | with_reducible apply World.ownsRow.alloc))) x2 (L.drop k) (by rfl) (HX2.out.later (by (repeat (first | with_reducible exact hbB | with_reducible apply below_dw | with_reducible apply below_al)))) (by have := HLEN.out; simp at *; omega) (by first | omega | (simp <;> omega)) ?_
           intro vC wC hownC hgC
           have hbC : Below w1.heap.size w1 wC := (below_own (base := w1.heap.size) (by (repeat (first | with_reducible exact hbB | with_reducible apply below_dw | with_reducible apply below_al))) (by (repeat (first | with_reducible exact hownB | with_reducible apply World.ownsRow.drew | with_reducible apply World.ownsRow.alloc))) (Nat.le_refl _) (by first | omega | (simp <;> omega)) hgC)))
    all_goals
      rename_i hH
      clear hH hgA hgB hgC hownA hownB hbA hbB
      have hRM : Reads wC vC (pcells (L.take k ++ [ex] ++ L.drop k)) := by
        have := own_reads hownC
        rw [show pcells (L.take k ++ [ex] ++ L.drop k) = [] ++ pcells (L.take k) ++ pcells [ex] ++ pcells (L.drop k) by simp [pcells]]
        exact this
      have hb := hbC
      clear hownC hbC hb0
      rcases HCASE.out with ⟨h1, hn⟩ | ⟨h1, hn⟩ | ⟨h1, hn⟩
      · subst h1 hn
        have HB := Lib.hid (parse_ok0 a0 rs HPB.out s0)
        obtain ⟨_, c, t, hc, hct⟩ := HQ5.out rfl
        have hq := HQ1.out
        rw [if_neg (by omega)] at hq
        have HP2 := Lib.hid (parse_ok0 tm rs hq (by omega))
        have HP3 := Lib.hid (parse_ok0 tk c hc (by omega))
        have hcl : c.length ≤ rs.length := by rw [hct, List.length_append]; omega
        have HCT := Lib.hid (show rs.take c.length = c by rw [hct, List.take_left])
        clear hq hc hct HPB HQ1 HQ5 HCASE
        go_wp2_with (first
          | (go_at_call 11; (with_reducible refine (HB.out _).mono ?_); rintro e w6 ⟨aa, capa, rfl, hRa, hb6, hsha, hla⟩; have hRM := hRM.later hb6; have hb := hb.trans (hb6.mono hb.size); clear HB hsha)
          | (go_at_call 29; (with_reducible refine (HJM.out _ _ hRM).mono ?_); rintro e w7 ⟨rfl, hb7⟩; have hRa := hRa.later hb7 (Nat.le_refl _); have hb := hb.trans (hb7.mono hb.size); clear HJM)
          | (go_at_call 11; (with_reducible refine (HP2.out _).mono ?_); rintro e w8 ⟨ab, capb, rfl, hRb, hb8, hshb, hlb⟩; have hRa := hRa.later hb8 (Nat.le_refl _); have hb := hb.trans (hb8.mono hb.size); clear HP2 hshb)
          | (go_at_call 27; (with_reducible refine (HTB.out _ _ hRb (by omega)).mono ?_); rintro e w9 ⟨vt, rfl, hRt, hb9⟩; have hRa := hRa.later hb9 (Nat.le_refl _); have hb := hb.trans (hb9.mono hb.size); clear HTB)
          | (go_at_call 13; (with_reducible refine (HSB.out _ _ _ hRa hRt (by omega)).mono ?_); rintro e w10 ⟨rfl, hb10⟩; have hRa := hRa.later hb10 (Nat.le_refl _); have hb := hb.trans (hb10.mono hb.size); clear HSB)
          | (go_at_call 29; (with_reducible refine (HJK.out _ _ (HX1.out.later hb)).mono ?_); rintro e w11 ⟨rfl, hb11⟩; have hRa := hRa.later hb11 (Nat.le_refl _); have hb := hb.trans (hb11.mono hb.size); clear HJK)
          | (go_at_call 11; (with_reducible refine (HP3.out _).mono ?_); rintro e w12 ⟨ac, capc, rfl, hRc, hb12, hshc, hlc⟩; have hRa := hRa.later hb12 (Nat.le_refl _); have hb := hb.trans (hb12.mono hb.size); clear HP3 hshc)
          | (go_at_call 14; (with_reducible refine (HW.out _).mono ?_); rintro e w13 ⟨rfl, hb13⟩; have hb := hb.trans (hb13.mono hb.size)))
        obtain ⟨bs1, hsl, hRs⟩ := slice_upto_r hRa hcl
        rw [HCT.out] at hRs
        have hclI : (c.length : Int) ≤ rs.length := by omega
        have hclD : decide ((c.length : Int) ≤ rs.length) = true := decide_eq_true hclI
        have HTC := Lib.hid (fun v W hR hn => taken_is v c W hR hn)
        have HSC := fun v1 v2 W hA hB hn => same_any v1 v2 c c W hA hB hn
        rw [decide_eq_true rfl] at HSC
        replace HSC := Lib.hid HSC
        have hz := Below.refl w12.heap.size w12
        go_region_held3 (fun w' => Below w12.heap.size w12 w')
          (((repeat (first
            | with_reducible exact hc16
            | with_reducible exact hc15
            | with_reducible exact hc14
            | with_reducible exact hz
            | with_reducible apply below_dw
            | with_reducible apply below_al)); done))
          ((first
            | (go_at_call 27
               (with_reducible refine (HTC.out _ _ (hRc.later (B := w12.heap.size) (by (repeat (first | with_reducible exact hz | with_reducible apply below_dw | with_reducible apply below_al))) (Nat.le_refl _)) (by omega)).mono ?_)
               rintro e w14 ⟨vt2, rfl, hRt2, hb14⟩
               have hc14 : Below w12.heap.size w12 w14 := Below.trans (by (repeat (first | with_reducible exact hz | with_reducible apply below_dw | with_reducible apply below_al))) (hb14.mono (by first | exact Nat.le_refl _ | simp)))
            | (go_at_call 13
               (with_reducible refine (HSC.out _ _ _ (hRs.later (B := w12.heap.size) (by (repeat (first | with_reducible exact hc14 | with_reducible apply below_dw | with_reducible apply below_al))) (Nat.le_refl _)) (hRt2.later (B := w14.heap.size) (by (repeat (first | with_reducible exact Below.refl _ _ | with_reducible apply below_dw))) (Nat.le_refl _)) (by omega)).mono ?_)
               rintro e w15 ⟨rfl, hb15⟩
               have hc15 : Below w12.heap.size w12 w15 := Below.trans (by (repeat (first | with_reducible exact hc14 | with_reducible apply below_dw | with_reducible apply below_al))) (hb15.mono (by have := hc14.size; first | omega | (simp; omega))))
            | (go_at_call 14
               (with_reducible refine (HW.out _).mono ?_)
               rintro e w16 ⟨rfl, hb16⟩
               have hc16 : Below w12.heap.size w12 w16 := Below.trans (by (repeat (first | with_reducible exact hc15 | with_reducible apply below_dw | with_reducible apply below_al))) (hb16.mono (by have := hc15.size; first | omega | (simp; omega))))))
        all_goals
          rename_i hH
          have hb := hb.trans (hH.mono hb.size)
          go_wp2
          go_ret
          exact ⟨rfl, HB1.out.trans (hb.mono HB1.out.size)⟩
      · have h1b : (er != 0) = true := by simpa using h1
        have h1c : (er == 0) = false := by simpa using h1
        have hn2 : (k : Int) < n := by omega
        have HB := Lib.hid (parse_is a0 rs n er HPB.out s0)
        have hq := HQ1.out
        rw [if_pos hn] at hq
        have HP2 := Lib.hid (parse_next tm rs n er hq (by omega))
        obtain ⟨c, n3, e3, hc⟩ : ∃ c n3 e3, parseL tk = (c, n3, e3) := ⟨_, _, _, rfl⟩
        have HP3 := Lib.hid (parse_is tk c n3 e3 hc (by omega))
        clear hq hc HPB HQ1 HQ5 HCASE
        go_wp2_with (first
          | (go_at_call 11; (with_reducible refine (HB.out _).mono ?_); rintro e w6 ⟨aa, capa, rfl, hRa, hb6, hsha, hla⟩; have hRM := hRM.later hb6; have hb := hb.trans (hb6.mono hb.size); clear HB hsha)
          | (go_at_call 29; (with_reducible refine (HJM.out _ _ hRM).mono ?_); rintro e w7 ⟨rfl, hb7⟩; have hRa := hRa.later hb7 (Nat.le_refl _); have hb := hb.trans (hb7.mono hb.size); clear HJM)
          | (go_at_call 11; (with_reducible refine (HP2.out _).mono ?_); rintro e w8 ⟨ab, capb, rfl, hRb, hb8, hshb, hlb⟩; have hRa := hRa.later hb8 (Nat.le_refl _); have hb := hb.trans (hb8.mono hb.size); clear HP2 hshb)
          | (go_at_call 27; (with_reducible refine (HTB.out _ _ hRb (by omega)).mono ?_); rintro e w9 ⟨vt, rfl, hRt, hb9⟩; have hRa := hRa.later hb9 (Nat.le_refl _); have hb := hb.trans (hb9.mono hb.size); clear HTB)
          | (go_at_call 13; (with_reducible refine (HSB.out _ _ _ hRa hRt (by omega)).mono ?_); rintro e w10 ⟨rfl, hb10⟩; have hRa := hRa.later hb10 (Nat.le_refl _); have hb := hb.trans (hb10.mono hb.size); clear HSB)
          | (go_at_call 29; (with_reducible refine (HJK.out _ _ (HX1.out.later hb)).mono ?_); rintro e w11 ⟨rfl, hb11⟩; have hRa := hRa.later hb11 (Nat.le_refl _); have hb := hb.trans (hb11.mono hb.size); clear HJK)
          | (go_at_call 11; (with_reducible refine (HP3.out _).mono ?_); rintro e w12 ⟨ac, capc, rfl, hRc, hb12, hshc, hlc⟩; have hRa := hRa.later hb12 (Nat.le_refl _); have hb := hb.trans (hb12.mono hb.size); clear HP3 hshc)
          | (go_at_call 14; (with_reducible refine (HW.out _).mono ?_); rintro e w13 ⟨rfl, hb13⟩; have hb := hb.trans (hb13.mono hb.size)))
        all_goals go_ret
        all_goals exact ⟨rfl, HB1.out.trans (hb.mono HB1.out.size)⟩
      · have h1b : (er != 0) = true := by simpa using h1
        have h1c : (er == 0) = false := by simpa using h1
        have hn2 : ¬ (k : Int) < n := by omega
        have HB := Lib.hid (parse_is a0 rs n er HPB.out s0)
        have hq := HQ1.out
        rw [if_neg hn] at hq
        have HP2 := Lib.hid (parse_is tm rs n er hq (by omega))
        obtain ⟨c, n3, e3, hc⟩ : ∃ c n3 e3, parseL tk = (c, n3, e3) := ⟨_, _, _, rfl⟩
        have HP3 := Lib.hid (parse_is tk c n3 e3 hc (by omega))
        clear hq hc HPB HQ1 HQ5 HCASE
        go_wp2_with (first
          | (go_at_call 11; (with_reducible refine (HB.out _).mono ?_); rintro e w6 ⟨aa, capa, rfl, hRa, hb6, hsha, hla⟩; have hRM := hRM.later hb6; have hb := hb.trans (hb6.mono hb.size); clear HB hsha)
          | (go_at_call 29; (with_reducible refine (HJM.out _ _ hRM).mono ?_); rintro e w7 ⟨rfl, hb7⟩; have hRa := hRa.later hb7 (Nat.le_refl _); have hb := hb.trans (hb7.mono hb.size); clear HJM)
          | (go_at_call 11; (with_reducible refine (HP2.out _).mono ?_); rintro e w8 ⟨ab, capb, rfl, hRb, hb8, hshb, hlb⟩; have hRa := hRa.later hb8 (Nat.le_refl _); have hb := hb.trans (hb8.mono hb.size); clear HP2 hshb)
          | (go_at_call 27; (with_reducible refine (HTB.out _ _ hRb (by omega)).mono ?_); rintro e w9 ⟨vt, rfl, hRt, hb9⟩; have hRa := hRa.later hb9 (Nat.le_refl _); have hb := hb.trans (hb9.mono hb.size); clear HTB)
          | (go_at_call 13; (with_reducible refine (HSB.out _ _ _ hRa hRt (by omega)).mono ?_); rintro e w10 ⟨rfl, hb10⟩; have hRa := hRa.later hb10 (Nat.le_refl _); have hb := hb.trans (hb10.mono hb.size); clear HSB)
          | (go_at_call 29; (with_reducible refine (HJK.out _ _ (HX1.out.later hb)).mono ?_); rintro e w11 ⟨rfl, hb11⟩; have hRa := hRa.later hb11 (Nat.le_refl _); have hb := hb.trans (hb11.mono hb.size); clear HJK)
          | (go_at_call 11; (with_reducible refine (HP3.out _).mono ?_); rintro e w12 ⟨ac, capc, rfl, hRc, hb12, hshc, hlc⟩; have hRa := hRa.later hb12 (Nat.le_refl _); have hb := hb.trans (hb12.mono hb.size); clear HP3 hshc)
          | (go_at_call 14; (with_reducible refine (HW.out _).mono ?_); rintro e w13 ⟨rfl, hb13⟩; have hb := hb.trans (hb13.mono hb.size)))
        all_goals go_ret
        all_goals exact ⟨rfl, HB1.out.trans (hb.mono HB1.out.size)⟩
theorem own : ownKnob Tryd.prog.godebug = none := by kernel_rfl
theorem laidOut : laidOutB Tryd.prog = true := by kernel_rfl

set_option maxRecDepth 100000 in
theorem lifted (os : Os) (started : os.Started) (H : Type) (enc : TypeId × Value → H) :
    ReturnsInHanded {} Tryd.checked os 8 .any (fun w args => (Rows.romanLinesSpec.pre enc Tryd.prog Tryd.f8 Rows.romanLinesRow.domain false w args ∧ laidMetH Tryd.prog Rows.romanLinesRow.laid w) ∧ sizedMet enc Tryd.prog Tryd.f8 (OpenSpec.ofChange Rows.romanLinesSpec) false w args)
      (Rows.romanLinesSpec.post enc Tryd.prog Tryd.f8 false true false false) := by
  refine returnsInHanded_of_change_and (C := Tryd.checked) (X := fun w _ => laidMetH Tryd.prog Rows.romanLinesRow.laid w) (fun _ _ _ hh h => h.of_heap hh) own started (by kernel_rfl) Tryd.func8
    (ChangeSpec.witness_shaped (enc := enc) (C := Tryd.checked) (os := os) (X := fun w _ => laidMetH Tryd.prog Rows.romanLinesRow.laid w) false (World.laidAll Tryd.prog os Rows.romanLinesRow.laid) #[.string ByteArray.empty, .int .u16 0, .bool false] 8 (World.laidAll_os _ _ _)
      (World.shaped_of_ZipB (by kernel_rfl) (by kernel_rfl)) (by kernel_rfl) (by kernel_rfl) (by kernel_rfl)
      (by rw [MakeChecks.laidMetH_plain _ _ _ (by kernel_rfl)]; exact laidMet_laidAll _ (by kernel_rfl) (by kernel_rfl))) ?_
  intro W base args ds gs before hval0 hW hcnd hsz0 hL _
  have hval : ∀ (j : Nat) t v, Tryd.f8.params[j]? = some t → args[j]? = some v → Value.okWide Tryd.prog W .any base t v := hval0
  have hW' := hW
  obtain ⟨p, q, hA0, hV, rfl, hfz, hnd⟩ := hW
  have hA : DataW.TrodAll enc Tryd.prog W 0 (fun _ => true) true Tryd.f8.params.toList args.toList ds p := hA0
  rw [Tryd.params8] at hA hval
  obtain ⟨v0, vs0, d0, ds0, p0, q0, hargs, rfl, rfl, h0, r0⟩ := trodAll_cons hA
  obtain ⟨v1, vs1, d1, ds1, p1, q1, rfl, rfl, rfl, h1, r1⟩ := trodAll_cons r0
  obtain ⟨v2, vs2, d2, ds2, p2, q2, rfl, rfl, rfl, h2, r2⟩ := trodAll_cons r1
  obtain ⟨rfl, rfl, rfl⟩ := trodAll_nil r2
  obtain rfl : args = #[v0, v1, v2] := by cases args; simp_all
  obtain ⟨rfl, rfl⟩ := trodVars_none hV
  obtain ⟨a0, rfl, rfl, rfl, w0⟩ := open_string Tryd.underlying9 (hval 0 9 v0 rfl rfl) h0
  obtain ⟨a1, rfl, rfl, rfl, w1⟩ := open_int Tryd.underlying51 (hval 1 51 v1 rfl rfl) h1
  obtain ⟨a2, rfl, rfl, rfl⟩ := open_bool Tryd.underlying4 (hval 2 4 v2 rfl rfl) h2
  have hsz : (DataW.weightsEach Tryd.prog (Tryd.f8.params.toList ++ Rows.romanLinesSpec.plain.varTypes Tryd.prog) (_ ++ _)).all (· ≤ reachBytes) = true := hsz0
  rw [Tryd.params8] at hsz
  have sz0 := sized_string hsz (j := 0) (t := 9) rfl rfl
  skip
  clear hA0 hval0
  refine (walk a0 a1 a2 W w0 w1 (by have := sz0; simp only [reachBytes, Array.length_toList] at this; exact this)).mono fun e W' ⟨he, bel⟩ => ?_
  subst he
  exact ⟨_, rfl, _, _, _, [], _, [], hW', trodAll_mk1 (shut_bool Tryd.underlying4 _), (trodAll_cons_mk (shut_string Tryd.underlying9 w0) (trodAll_cons_mk (shut_int Tryd.underlying51 w1) (trodAll_cons_mk (shut_bool Tryd.underlying4 a2) trodAll_mk0))), rfl, bel.frame _, fun h => by cases h⟩

theorem over : Rows.romanLinesRow.holds Tryd.pinned (OpenSpec.ofChange Rows.romanLinesSpec) :=
  OpenClaim.holds_of_wide 8 Tryd.f8 rfl rfl rfl rfl rfl rfl rfl ⟨rfl, rfl, rfl, rfl, rfl⟩ rfl rfl rfl rfl rfl (by kernel_rfl) Tryd.func8 (by kernel_rfl)
    (of_decide_eq_true (by kernel_rfl)) (by unfold Func.isWrapper; first | (rw [if_pos (by decide +kernel)]; kernel_rfl) | (rw [if_neg (by decide +kernel)]; exact ⟨rfl, rfl⟩))
    (fun os started H enc _ => lifted os started H enc)

theorem proved : Rows.RomanLinesCardSaid :=
  Claim7.holds_tied_plain_at .later [] Rows.romanLinesCard.laidKinds true Rows.romanLinesCard.stood.harness false over (fun _ h => by cases h) (by kernel_rfl) (fun _ h => by cases h) romanLines_row_tie rfl ⟨rfl, rfl⟩ (by kernel_rfl) rfl
    (fun f fn hf hfn => by
      obtain rfl : f = 8 := Option.some.inj ((show Tryd.prog.funcNamed "henkan/henkanlaw05.RomanLines" = some 8 by kernel_rfl).symm.trans hf) |>.symm
      obtain rfl : fn = Tryd.f8 := (Option.some.inj (Tryd.func8.symm.trans hfn)).symm
      exact ⟨by kernel_rfl, fun j t ht => by
        rw [Tryd.params8] at ht
        have hm : t ∈ ([9, 51, 4] : List TypeId) := by simpa using Array.mem_of_getElem? ht
        have hall : (([9, 51, 4] : List TypeId).all fun u => !Tryd.prog.wantsStandIn u) = true := by kernel_rfl
        exact (show Tryd.prog.wantsStandIn t = false by simpa using List.all_eq_true.1 hall t hm)⟩)
    (by kernel_rfl)
end Go.Proofs.YtpaeppklkicngaaDoor.romanLines
