/-
  Contract of caldate.Forms.
-/
import Derived.Test.YteelmjmiankflaaDoorCalT
set_option linter.unusedVariables false
set_option linter.unusedSimpArgs false
namespace Go.Proofs.YteelmjmiankflaaDoor.Cal
open Go Go.RowKit Go.Proofs.YteelmjmiankflaaDoor.Kit Go.Proofs.YteelmjmiankflaaDoor.Utf
open Go.Proofs.YteelmjmiankflaaDoor.Num

def lastForms (m d : Nat) : List (List Int) := [joinC decC [(m, 1, [26376]), (d, 1, [26085])], joinC decC [(m, 1, [47]), (d, 1, [])]]
def allForms (day : Int) (y m d : Nat) : List (List Int) := yearForms day y m d ++ lastForms m d

theorem forms_at (day : Int) (y m d : Nat) (h : IsDate day y m d) (w : World) (hL : FLaid w) :
    Calls Tryd.prog 17 #[.int .i64 day] w fun e w' => ∃ v, e = .returned v ∧ w'.ownsRow w.heap.size 9 1 v (allForms day y m d).length (strs (allForms day y m d)) ∧ Below w.heap.size w w' := by
  have hv := h.1
  obtain ⟨v1, v2, v3, v4, v5, v6⟩ := hv
  have v7 := (len_bounds y m).2
  have bm1 : m ≤ 9999 := by omega
  have bd1 : d ≤ 9999 := by omega
  have HD := Lib.hid (fun W hW => date_is day y m d h W hW)
  have HY := Lib.hid (fun W hW => formsY_at day y m d h W hW)
  have u1 : tx [26376] = { data := #[230, 156, 136] } := by decide +kernel
  have u2 : tx [26085] = { data := #[230, 151, 165] } := by decide +kernel
  have u3 : tx [47] = { data := #[47] } := by decide +kernel
  have u4 : tx [] = { data := #[] } := rfl
  have HJ1 := Lib.hid (fun (g : Nat) (W : World) (t : TypeId) (fz : Nat × Nat) hg (hW : FLaid W) => join2_at decimal_fn (fun _ _ => by kernel_rfl) dec_len m 1 [26376] d 1 [26085] ⟨bm1, by show 1 ≤ 4; decide, by show [26376] ∈ unitL; decide⟩ ⟨bd1, by show 1 ≤ 4; decide, by show [26085] ∈ unitL; decide⟩ m d 1 1 _ _ rfl rfl rfl rfl u1.symm u2.symm g W t fz hg hW trivial (fun _ _ _ _ _ => trivial))
  have HJ2 := Lib.hid (fun (g : Nat) (W : World) (t : TypeId) (fz : Nat × Nat) hg (hW : FLaid W) => join2_at decimal_fn (fun _ _ => by kernel_rfl) dec_len m 1 [47] d 1 [] ⟨bm1, by show 1 ≤ 4; decide, by show [47] ∈ unitL; decide⟩ ⟨bd1, by show 1 ≤ 4; decide, by show ([] : List Int) ∈ unitL; decide⟩ m d 1 1 _ _ rfl rfl rfl rfl u3.symm u4.symm g W t fz hg hW trivial (fun _ _ _ _ _ => trivial))
  have HA := Lib.hid (show strs (allForms day y m d) = strs (yearForms day y m d) ++ [.string (tx (joinC decC [(m, 1, [26376]), (d, 1, [26085])])), .string (tx (joinC decC [(m, 1, [47]), (d, 1, [])]))] by unfold allForms strs; rw [List.map_append]; rfl)
  have HLn := Lib.hid (show (allForms day y m d).length = (yearForms day y m d).length + 2 by unfold allForms; rw [List.length_append]; rfl)
  have hsm : (yearForms day y m d).length ≤ 6 := by
    unfold yearForms
    rcases cur day 5 with _ | k
    · show 4 ≤ 6; decide
    · show 6 ≤ 6; decide
  obtain ⟨x7, hx7⟩ : ∃ x, joinC decC [(m, 1, [26376]), (d, 1, [26085])] = x := ⟨_, rfl⟩
  obtain ⟨x8, hx8⟩ : ∃ x, joinC decC [(m, 1, [47]), (d, 1, [])] = x := ⟨_, rfl⟩
  rw [hx7] at HJ1 HA
  rw [hx8] at HJ2 HA
  obtain ⟨n, hn⟩ : ∃ n, (yearForms day y m d).length = n := ⟨_, rfl⟩
  rw [hn] at HLn hsm HY
  obtain ⟨xs, hxs⟩ : ∃ xs, strs (yearForms day y m d) = xs := ⟨_, rfl⟩
  rw [hxs] at HY HA
  obtain ⟨i0, hi, hz0, hz1, hz2⟩ := info_parts string_info
  clear u1 u2 u3 u4 v6 v7 hx7 hx8 hn hxs
  go_enter Tryd.func17, Tryd.ntmps17
  go_wp2_with (first
    | (go_at_call 9; (with_reducible refine (HD.out _ hL.era.base).mono ?_); rintro e w1 ⟨rfl, hb1⟩
       have HL1 := Lib.hid (hL.next hb1))
    | (go_at_call 25; (with_reducible refine (HY.out _ HL1.out).mono ?_); rintro e w2 ⟨v, rfl, ho2, hb2⟩
       obtain ⟨a, cap, hv⟩ := own_shape ho2
       subst hv
       have hb12 := hb1.trans (hb2.mono hb1.size)
       have ho3 := (own_base ho2 hb1.size).alloc (.cells #[.int .i64 m, .int .i64 1, .string { data := #[230, 156, 136] }, .int .i64 d, .int .i64 1, .string { data := #[230, 151, 165] }] 47)
       have hb3 := hb12.alloc hb12.size (.cells #[.int .i64 m, .int .i64 1, .string { data := #[230, 156, 136] }, .int .i64 d, .int .i64 1, .string { data := #[230, 151, 165] }] 47)
       have HG3 := Lib.hid (heap_alloc_new w2 (.cells #[.int .i64 m, .int .i64 1, .string { data := #[230, 156, 136] }, .int .i64 d, .int .i64 1, .string { data := #[230, 151, 165] }] 47))
       have HO3 := Lib.hid ho3
       have HB3 := Lib.hid hb3
       clear ho2 ho3 hb3 hb12 hb2 hb1)
    | (go_at_call 26; refine (HJ1.out _ _ _ _ HG3.out (hL.next HB3.out)).mono ?_; rintro e w4 ⟨rfl, hb4⟩
       have ho4 := (own_later HO3.out hb4).alloc (.cells #[.int .i64 m, .int .i64 1, .string { data := #[47] }, .int .i64 d, .int .i64 1, .string { data := #[] }] 47)
       have hb14 := HB3.out.trans (hb4.mono HB3.out.size)
       have hb5 := hb14.alloc hb14.size (.cells #[.int .i64 m, .int .i64 1, .string { data := #[47] }, .int .i64 d, .int .i64 1, .string { data := #[] }] 47)
       have HG5 := Lib.hid (heap_alloc_new w4 (.cells #[.int .i64 m, .int .i64 1, .string { data := #[47] }, .int .i64 d, .int .i64 1, .string { data := #[] }] 47))
       have HO5 := Lib.hid ho4
       have HB5 := Lib.hid hb5
       clear ho4 hb5 hb14 hb4 HG3 HO3 HB3)
    | (go_at_call 26; refine (HJ2.out _ _ _ _ HG5.out (hL.next HB5.out)).mono ?_; rintro e w6 ⟨rfl, hb6⟩
       have ho6 := own_later HO5.out hb6
       have hb7 := HB5.out.trans (hb6.mono HB5.out.size)
       have hs7 := hb7.size
       clear hb6 HG5 HO5 HB5)
    | (at_builtin; refine wpList_append_own _ rfl _ _ _ rfl w.heap.size 9 i0 (.string { data := #[] }) 1 16 Tryd.underlying34 hi hz0 hz1 hz2 rfl (by decide) _ n xs rfl (ho6.alloc _) ⟨w6.heap.size, 0, none⟩ 2 2 [.string (tx x7), .string (tx x8)] rfl rfl (World.news_of_block (heap_alloc_new _ _)) ?c2 ?c3 ?c4 ?c5 ?_))
  case c2 => simp [Value.oneCell']
  case c3 => unfold maxLen; omega
  case c4 => omega
  case c5 => rw [size_alloc]; omega
  intro v' w7 hown7 hg7 hiff
  clear hiff
  have hb8 := below_own (hb7.alloc hb7.size (.cells #[.string (tx x7), .string (tx x8)] 9)) (ho6.alloc _) (Nat.le_refl _) (by rw [size_alloc]; omega) hg7
  go_wp2
  go_ret
  exact ⟨_, rfl, by rw [HLn.out, HA.out]; exact hown7, hb8⟩

theorem forms_not (day : Int) (h : ¬ inR day) (w : World) :
    Calls Tryd.prog 17 #[.int .i64 day] w fun e w' => e = .returned (.slice none 0 0) ∧ Below w.heap.size w w' := by
  have HD := Lib.hid (date_not day h w)
  clear h
  go_enter Tryd.func17, Tryd.ntmps17
  go_wp2_with (go_at_call 9; (with_reducible refine HD.out.mono ?_); rintro e w1 ⟨rfl, hb1⟩)
  go_ret
  exact ⟨rfl, hb1⟩

end Go.Proofs.YteelmjmiankflaaDoor.Cal
