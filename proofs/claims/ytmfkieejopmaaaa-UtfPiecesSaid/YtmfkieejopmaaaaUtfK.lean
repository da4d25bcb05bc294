/-
  Contracts of the reference's Code, Text and Cut.
-/
import Derived.Test.YtmfkieejopmaaaaUtfJ
set_option linter.unusedVariables false
set_option linter.unusedSimpArgs false
namespace Go.Proofs.Ytmfkieejopmaaaa.Utf
open Go Go.RowKit Go.Proofs.Ytmfkieejopmaaaa.Kit

theorem code_any (c : Int) (w : World) (hv : validRune c = true) :
    Calls Try.prog 27 #[.int .i32 c] w fun e w' => e = .returned (.string (Utf8.encode c)) ∧ Below w.heap.size w w' := by
  have h := (valid_iff c).1 hv
  by_cases h1 : c < 128
  · exact code_1 c w (by omega) h1
  · by_cases h2 : c < 2048
    · exact code_2 c w (by omega) (by omega)
    · by_cases h3 : c < 65536
      · exact code_3 c w hv (by omega) (by omega)
      · exact code_4 c w hv (by omega) (by omega)

theorem encode_bytes (c : Int) : Lib.strCells (Utf8.encode c) = u8s (enc c) := rfl
theorem encode_size (c : Int) : (Utf8.encode c).size = (enc c).length := by unfold enc; rw [Array.length_toList]; rfl

theorem encs_filter_take (l : List Int) (k : Nat) (h : k < l.length) : encs ((l.take (k + 1)).filter validRune) = encs ((l.take k).filter validRune) ++ (if validRune l[k] then enc l[k] else []) := by
  rw [filter_take l k h, encs_append]
  by_cases hv : validRune l[k] <;> simp [hv, encs]

theorem encs_filter_le (l : List Int) (k : Nat) : (encs ((l.take k).filter validRune)).length ≤ 4 * k := by
  have h1 := encs_length_le (cs := (l.take k).filter validRune) (fun c hc => (List.mem_filter.1 hc).2)
  have h2 := filter_le l k
  omega

theorem rtext_any (l : List Int) (v : Value) (w : World) (hl : l.length ≤ 274877906944) (hv : Reads w v (ints l)) :
    Calls Try.prog 19 #[v] w fun e w' => e = .returned (.string (textB l)) ∧ Below w.heap.size w w' := by
  obtain ⟨i0, hi, hz0, hz1, hz2⟩ := info_parts info_u8
  obtain ⟨a, len, cap, rfl, hlen, hlc, hcm, hr⟩ := hv
  rw [List.length_map] at hlen
  subst hlen
  go_enter Try.func19, Try.ntmps19
  go_wp2
  go_loopw [3, 4] (fun b i wr => ∃ k : Nat, k ≤ l.length ∧ i = .int .i64 k ∧ wr.ownsRow w.heap.size 5 1 b (encs ((l.take k).filter validRune)).length (u8s (encs ((l.take k).filter validRune))) ∧ Below w.heap.size w wr) (fun _ i _ => l.length - (intOf i).toNat)
  case atStart => exact ⟨0, Nat.zero_le _, rfl, by simpa [encs, u8s] using World.ownsRow_nil w _ _ _, Below.refl _ _⟩
  case round =>
    obtain ⟨k, hk, rfl, hown, hb⟩ := hrel
    by_cases hlt : k < l.length
    · rcases hr with ⟨_, h0, _⟩ | ⟨_, _, h0⟩ | ⟨b, off, rfl, hbl, hcell⟩
      · omega
      · omega
      have hc0 : w.cell? ⟨b, off + k, none⟩ = some (.int .i32 l[k]) := hcell k _ (by rw [List.getElem?_map, List.getElem?_eq_getElem hlt]; rfl)
      have hft := Lib.hid (encs_filter_take l k hlt)
      have hfl := encs_filter_le l k
      obtain ⟨c, hc⟩ : ∃ c, l[k] = c := ⟨_, rfl⟩
      rw [hc] at hc0 hft
      clear hcell hc
      have hc1 : wr.cell? ⟨b, off + k, none⟩ = some (.int .i32 c) := by rw [hb.cell (p := ⟨b, off + k, none⟩) hbl]; exact hc0
      cases hvc : validRune c with
      | true =>
        have hch := Lib.hid (fun w => character_is c w hvc)
        have hcd := Lib.hid (fun w => code_any c w hvc)
        have hel := enc_len c hvc
        rw [hvc] at hft
        have HB := Lib.hid hb; clear hb hvc
        have HC0 := Lib.hid hc0; clear hc0
        go_wp2_with (first
          | (go_at_call 26; (with_reducible refine (hch.out _).mono ?_); rintro e w' ⟨rfl, rfl⟩)
          | (go_at_call 27; (with_reducible refine (hcd.out _).mono ?_); rintro e w4 ⟨rfl, hb4⟩; have hown4 := own_later hown hb4; have hb5 := HB.out.trans (hb4.mono HB.out.size); clear hown hb4)
          | (at_builtin; refine Lib.wpList_append_own_string _ rfl _ _ _ _ rfl w.heap.size 5 i0 Try.underlying41 Try.underlying9 hi hz0 hz1 hz2 _ _ _ rfl hown4 (Utf8.encode c) rfl ?c3 ?c4 ?c5 ?_))
        case c3 => rw [encode_size]; unfold maxLen; omega
        case c4 => rw [encode_size]; omega
        case c5 => exact hb5.size
        intro v' w5 hown5 hg5 _
        have hb6 := below_own hb5 hown4 (Nat.le_refl _) hb5.size hg5
        have hown6 : w5.ownsRow w.heap.size 5 1 v' (encs ((l.take (k + 1)).filter validRune)).length (u8s (encs ((l.take (k + 1)).filter validRune))) := by
          rw [hft.out]
          rw [encode_bytes, ← u8s_append, encode_size] at hown5
          simpa using hown5
        clear hown5 hg5 hown4 hb5 hc1
        go_wp2
        go_roundw
        case rel => exact ⟨k + 1, by omega, by go_num, hown6, hb6⟩
        case measure => simp [intOf]; omega
      | false =>
        have hch := Lib.hid (fun w => character_is c w hvc)
        rw [hvc] at hft
        clear hc0 hvc
        go_wp2_with (go_at_call 26; (with_reducible refine (hch.out _).mono ?_); rintro e w' ⟨rfl, rfl⟩)
        go_roundw
        case rel => exact ⟨k + 1, by omega, by go_num, by rw [hft.out]; simpa using hown, hb⟩
        case measure => simp [intOf]; omega
    · have hcv := conv_bytes (P := Try.prog) hown Try.underlying41 Try.underlying5 Try.underlying9
      have e1 : l.take k = l := List.take_of_length_le (by omega)
      rw [e1] at hcv
      go_wp2
      go_ret
      exact ⟨ret_string (ba_ext (textB_bytes l).symm), hb⟩

end Go.Proofs.Ytmfkieejopmaaaa.Utf
