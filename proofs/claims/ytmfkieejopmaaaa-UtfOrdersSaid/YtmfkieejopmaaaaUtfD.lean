/-
  Contract of utf.Text: the codes of those numbers that are characters.
-/
import Derived.Test.YtmfkieejopmaaaaUtfC
set_option linter.unusedVariables false
set_option linter.unusedSimpArgs false
namespace Go.Proofs.Ytmfkieejopmaaaa.Utf
open Go Go.RowKit Go.Proofs.Ytmfkieejopmaaaa.Kit

theorem foldl_bytes (ns : List Int) : ∀ r : ByteArray, (ns.foldl (fun r n => r ++ Utf8.encode n) r).data.toList = r.data.toList ++ encs ns := by
  induction ns with
  | nil => intro r; simp [encs]
  | cons n ns ih =>
    intro r
    rw [List.foldl_cons, ih, encs_cons, ← List.append_assoc, ByteArray.data_append, Array.toList_append]; rfl
theorem runesBytes_bytes (ns : List Int) : (runesBytes ns).data.toList = encs ns := by
  unfold runesBytes; rw [foldl_bytes]; simp

/-- The string of the characters among some numbers. -/
def textB (l : List Int) : ByteArray := runesBytes (l.filter validRune)
theorem textB_bytes (l : List Int) : bs (textB l) = encs (l.filter validRune) := runesBytes_bytes _
theorem conv_own {w : World} {base : Nat} {v : Value} {n : Nat} {cs : List Int} (h : w.ownsRow base 21 1 v n (ints cs)) :
    (convert 22 9 v).run Try.prog w = .ok (.string (runesBytes cs)) w := by
  have hn := own_lt h
  rw [List.length_map] at hn
  rcases h.2 with ⟨rfl, h0⟩ | ⟨g, cap, cur, rfl, hb, hg, hnc, hcm, hcs, htake⟩
  · have : cs = [] := List.eq_nil_of_length_eq_zero (by omega)
    subst this
    exact run_convert_runes_nil w _ _ _ 0 0 Try.underlying22 Try.underlying21 Try.underlying9
  · have := run_convert_runes (P := Try.prog) w 22 9 21 ⟨g, 0, none⟩ n cap cs (by omega) Try.underlying22 Try.underlying21 Try.underlying9 (fun j hj => by
      have := h.cells (g := g) rfl j (.int .i32 (cs.getD j 0)) (by rw [List.getElem?_map, List.getElem?_eq_getElem hj]; simp [List.getElem?_eq_getElem hj])
      exact this)
    rw [this, List.take_of_length_le (by omega)]

theorem filter_take (l : List Int) (k : Nat) (h : k < l.length) : (l.take (k + 1)).filter validRune = (l.take k).filter validRune ++ (if validRune l[k] then [l[k]] else []) := by
  rw [List.take_succ_eq_append_getElem h, List.filter_append]
  congr 1
  by_cases hv : validRune l[k] <;> simp [hv]

theorem filter_le (l : List Int) (k : Nat) : ((l.take k).filter validRune).length ≤ k := by
  have h1 := List.length_filter_le validRune (l.take k)
  have h2 := List.length_take_le k l
  omega

theorem text_any (l : List Int) (v : Value) (w : World) (hl : l.length ≤ 274877906944) (hv : Reads w v (ints l)) :
    Calls Try.prog 18 #[v] w fun e w' => e = .returned (.string (textB l)) ∧ Below w.heap.size w w' := by
  obtain ⟨i0, hi, hz0, hz1, hz2⟩ := info_parts info_i32
  obtain ⟨a, len, cap, rfl, hlen, hlc, hcm, hr⟩ := hv
  rw [List.length_map] at hlen
  subst hlen
  go_enter Try.func18, Try.ntmps18
  go_wp2_with (at_make; refine wpList_make_own _ rfl _ _ _ rfl w.heap.size 21 i0 (.int .i32 0) 1 Try.underlying22 hi hz0 hz1 _ _ _ l.length rfl rfl rfl (by rw [hz2]; omega) (by unfold maxLen; omega) (Nat.le_refl _) ?_; intro w2 hown2 hg2)
  have hb2 := (Below.refl w.heap.size w).grown hg2 (Nat.le_refl _) (fun k hk => by cases hk)
  go_loopw [3, 5, 11] (fun kv _ i wr => ∃ k : Nat, k ≤ l.length ∧ i = .int .i64 k ∧ wr.ownsRow w.heap.size 21 1 kv ((l.take k).filter validRune).length (ints ((l.take k).filter validRune)) ∧ Below w.heap.size w wr) (fun _ _ i _ => l.length - (intOf i).toNat)
  case atStart => exact ⟨0, Nat.zero_le _, rfl, by simpa using hown2, hb2⟩
  case round =>
    obtain ⟨k, hk, rfl, hown, hb⟩ := hrel
    by_cases hlt : k < l.length
    · rcases hr with ⟨_, h0, _⟩ | ⟨_, _, h0⟩ | ⟨b, off, rfl, hbl, hcell⟩
      · omega
      · omega
      have hkl : k < l.length := hlt
      have hc1 : wr.cell? ⟨b, off + k, none⟩ = some (.int .i32 l[k]) := by
        rw [hb.cell (p := ⟨b, off + k, none⟩) hbl]
        exact hcell k _ (by rw [List.getElem?_map, List.getElem?_eq_getElem hkl]; rfl)
      have hft := Lib.hid (filter_take l k hkl)
      have hfl := filter_le l k
      obtain ⟨c, hc⟩ : ∃ c, l[k] = c := ⟨_, rfl⟩
      rw [hc] at hc1 hft
      clear hcell hc
      cases hvc : validRune c with
      | true =>
        rw [hvc] at hft
        go_wp2_with (first
          | (go_at_call 25; refine (isCharacter_any _ _).mono ?_; rintro e w' ⟨rfl, rfl⟩)
          | (at_builtin; refine wpList_append_own _ rfl _ _ _ rfl w.heap.size 21 i0 (.int .i32 0) 1 4 Try.underlying22 hi hz0 hz1 hz2 rfl (by decide) _ _ (ints ((l.take k).filter validRune)) rfl (hown.alloc _) ⟨wr.heap.size, 0, none⟩ 1 1 [.int .i32 c] rfl rfl (cell_one_new _ _ _) ?c2 ?c3 ?c4 ?c5 ?_))
        case c2 => simp [Value.oneCell']
        case c3 => unfold maxLen; omega
        case c4 => omega
        case c5 => have := hb.size; simp; omega
        intro v' w5 hown5 hg5 _
        have hb5 := below_own (hb.alloc hb.size _) (hown.alloc _) (Nat.le_refl _) (by have := hb.size; simp; omega) hg5
        have hown6 : w5.ownsRow w.heap.size 21 1 v' ((l.take (k + 1)).filter validRune).length (ints ((l.take (k + 1)).filter validRune)) := by rw [hft.out]; simpa using hown5
        clear hown5 hg5 hown hb hc1 hvc
        go_wp2
        go_roundw
        case rel => exact ⟨k + 1, by omega, by go_num, hown6, hb5⟩
        case measure => simp [intOf]; omega
      | false =>
        rw [hvc] at hft
        go_wp2_with (go_at_call 25; refine (isCharacter_any _ _).mono ?_; rintro e w' ⟨rfl, rfl⟩)
        go_roundw
        case rel => exact ⟨k + 1, by omega, by go_num, by rw [hft.out]; simpa using hown, hb⟩
        case measure => simp [intOf]; omega
    · have hcv := conv_own hown
      have e1 : l.take k = l := List.take_of_length_le (by omega)
      rw [e1] at hcv
      go_wp2
      go_ret
      exact ⟨rfl, hb⟩

end Go.Proofs.Ytmfkieejopmaaaa.Utf
