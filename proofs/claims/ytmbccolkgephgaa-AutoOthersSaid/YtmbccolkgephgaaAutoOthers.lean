/-
  Keys in no rule are written as they stand: AutoOthers, for every input.
-/
import Derived.Test.YtmbccolkgephgaaAutQ
import Derived.BigQuiet
import Derived.OpenShut
import Derived.ShutString
import Derived.ChangeOld
import Derived.HandedShaped
import Derived.LaidMore
import Derived.Lay
import Derived.SizedLaws
import Derived.Deep.DeepHandedRow
import Derived.Test.YtmbccolkgephgaaAutFr
set_option linter.unusedVariables false
set_option linter.unusedSimpArgs false
namespace Go.Proofs.Ytmbccolkgephgaa.autoOthers
open Go Go.RowKit Go.ChangeShapes Go.WideShapes Go.ChangeAt Go.Proofs.Ytmbccolkgephgaa Go.Proofs.Ytmbccolkgephgaa.Kit Go.Proofs.Ytmbccolkgephgaa.Utf Go.Proofs.Ytmbccolkgephgaa.Rom Go.Proofs.Ytmbccolkgephgaa.Aut
open Go.ChangeMaps (open_string shut_string)
set_option maxRecDepth 100000

/-- Does a byte occur in a rule's keys? -/
def knownIn (rs : List Rule) (c : UInt8) : Bool := rs.any fun r => (bs r.k).any (· == c)
/-- The keys among them that occur in no rule's keys. -/
def oth (rs : List Rule) (l : By) : By := l.filter fun c => isKb c && !knownIn rs c
theorem oth_all (rs : List Rule) (l : By) : AllK (oth rs l) := fun b hb => by
  have := (List.mem_filter.1 hb).2
  rw [Bool.and_eq_true] at this
  exact this.1
theorem oth_other (rs : List Rule) (l : By) : ∀ c ∈ oth rs l, Other rs c := by
  intro c hc r hr hin
  have := (List.mem_filter.1 hc).2
  rw [Bool.and_eq_true] at this
  have h2 : knownIn rs c = true := List.any_eq_true.2 ⟨r, hr, List.any_eq_true.2 ⟨c, hin, by simp⟩⟩
  rw [h2] at this
  exact absurd this.2 (by simp)
theorem oth_le (rs : List Rule) (l : By) : (oth rs l).length ≤ l.length := List.length_filter_le ..
theorem oth_succ (rs : List Rule) (s : ByteArray) (i : Nat) (h : i < s.size) : oth rs ((bs s).take (i + 1)) = oth rs ((bs s).take i) ++ (if (!(!isKb (bt8 s i) || knownIn rs (bt8 s i))) = true then [bt8 s i] else []) := by
  rw [bs_at s i h]
  unfold oth
  rw [List.filter_append]
  congr 1
  rw [List.filter_cons]
  cases isKb (bt8 s i) <;> cases knownIn rs (bt8 s i) <;> rfl
theorem known_succ {rs : List Rule} {j : Nat} {c : UInt8} (h : j < rs.length) : knownIn (rs.take (j + 1)) c = (knownIn (rs.take j) c || (bs (ri rs j).k).any (· == c)) := by
  unfold knownIn
  rw [take_succ_ri rs j h, List.any_append]
  simp
theorem any_succ {s : ByteArray} {m : Nat} {c : UInt8} (h : m < s.size) : ((bs s).take (m + 1)).any (· == c) = (((bs s).take m).any (· == c) || (bt8 s m == c)) := by
  rw [bs_at s m h, List.any_append]
  simp
theorem ext_at (s : ByteArray) (i : Nat) (h : i < s.size) : s.extract i (i + 1) = ba [bt8 s i] := by
  rw [← ba_bs (s.extract i (i + 1))]
  congr 1
  have h1 : bs (s.extract i (i + 1)) = ((bs s).drop i).take 1 := by
    unfold bs
    rw [ByteArray.data_extract, Array.toList_extract]
    rw [List.extract_eq_take_drop, show i + 1 - i = 1 by omega]
  rw [h1]
  unfold bt8
  rw [List.drop_eq_getElem_cons (by rw [bs_len]; exact h), List.getD_eq_getElem?_getD, List.getElem?_eq_getElem (by rw [bs_len]; exact h)]
  rfl

set_option maxHeartbeats 8000000 in
theorem walk (a0 : Option Addr) (len0 cap0 : Nat) (z0 : List Rule) (a1 : ByteArray) (a2 : ByteArray) (w : World) (w0 : RowR w (.slice a0 len0 cap0) z0) (w1 : a1.size ≤ maxLen) (w2 : a2.size ≤ maxLen) (s1 : a1.size ≤ 140737488351232) (s2 : a2.size ≤ 140737488351232) (hm : MaxL w) (hG : 0 < w.heap.size) :
    Calls Try.prog 9 #[.slice a0 len0 cap0, .string a1, .string a2] w fun e w' => e = .returned (.bool true) ∧ Below w.heap.size w w' := by
  have HL := Lib.hid (light_any (.slice a0 len0 cap0) z0 a1 w w0 s1)
  have HR := Lib.hid w0
  have HWK := Lib.hid works_any
  have HML := Lib.hid hm
  by_cases hlt : Lt z0 a1
  rotate_left
  · have HLT := Lib.hid hlt
    clear w0 w1 w2 s1 s2 hm hlt
    go_enter Try.func9, Try.ntmps9
    go_wp2_with (go_at_call 14; (with_reducible refine HL.out.mono ?_); rintro e w1 ⟨x, rfl, hw1, hx⟩; obtain rfl := hw1.symm; obtain rfl : x = false := Bool.eq_false_iff.2 (fun h => HLT.out (hx.1 h)); clear hx)
    go_ret
    exact ⟨rfl, Below.refl _ _⟩
  have hsh := hlt.short
  have h200 := hlt.2.1
  have HLT := Lib.hid hlt
  by_cases h20 : 200 < a2.size
  · have h20' : (200 : Int) < a2.size := by omega
    clear w0 w1 w2 s1 s2 hm hlt hsh
    go_enter Try.func9, Try.ntmps9
    go_wp2_with (go_at_call 14; (with_reducible refine HL.out.mono ?_); rintro e w1 ⟨x, rfl, hw1, hx⟩; obtain rfl := hw1.symm; obtain rfl : x = true := hx.2 HLT.out; clear hx)
    go_ret
    exact ⟨rfl, Below.refl _ _⟩
  have h20' : (a2.size : Int) ≤ 200 := by omega
  by_cases hc : checkL z0 = 0
  rotate_left
  · have HN := Lib.hid (new_no w0 hsh hc)
    have hne : (checkL z0 != 0) = true := by simpa using hc
    generalize checkL z0 = E at HN hne
    clear w0 w1 w2 s1 s2 hm hlt hc hsh
    go_enter Try.func9, Try.ntmps9
    go_wp2_with (first
      | (go_at_call 14; (with_reducible refine HL.out.mono ?_); rintro e w1 ⟨x, rfl, hw1, hx⟩; obtain rfl := hw1.symm; obtain rfl : x = true := hx.2 HLT.out; clear hx)
      | (go_at_call 15; (with_reducible refine HN.out.mono ?_); rintro e w2 ⟨rfl, hb2⟩)
      | (go_at_call 18; (with_reducible refine (HWK.out _ (HML.out.later hb2 hG) (Nat.lt_of_lt_of_le hG hb2.size)).mono ?_); rintro e w3 ⟨rfl, hb3⟩))
    go_ret
    exact ⟨rfl, hb2.trans (hb3.mono hb2.size)⟩
  obtain ⟨_, hok⟩ := ok_of_check hc
  have HN := Lib.hid (new_yes w0 hsh hc)
  have hrl : len0 = z0.length := w0.len.1
  subst hrl
  have hlz := hlt.1
  have hk1 := keysOf_le (bs a1)
  rw [bs_len] at hk1
  obtain ⟨o1, q1, hf1⟩ := feeds_ex hok [] (keysOf (bs a1))
  have hl1 := hf1.len hok
  rw [List.length_nil] at hl1
  have hq1 := hf1.keys hok AllK.nil (keysOf_all _)
  obtain ⟨F, hF, hFl0⟩ := flushes_total hok _ q1 (Nat.le_refl _)
  obtain ⟨cs, hcs⟩ : ∃ cs, oth z0 (bs a2) = cs := ⟨_, rfl⟩
  have hcl := oth_le z0 (bs a2)
  rw [bs_len, hcs] at hcl
  have hck := oth_all z0 (bs a2)
  rw [hcs] at hck
  have hco := oth_other z0 (bs a2)
  rw [hcs] at hco
  have hRun : Hid (∀ (B a : Nat) (W : World), AutoAt B W a z0 → B ≤ W.heap.size → Calls Try.prog 19 #[.pointer (some ⟨a, 0, none⟩), .string a1] W fun e w' => e = .returned (.tuple #[.string (ba o1), .string (ba q1)]) ∧ Below W.heap.size W w') := Lib.hid fun B a W hA hB => by
    have h := run_any hok B a a1 W hA hB (by omega)
    rw [hf1.fd] at h
    exact h
  have hRun2 : Hid (cs ≠ [] → ∀ (B a : Nat) (W : World), AutoAt B W a z0 → B ≤ W.heap.size → Calls Try.prog 19 #[.pointer (some ⟨a, 0, none⟩), .string (a1 ++ ba cs)] W fun e w' => e = .returned (.tuple #[.string (ba o1 ++ ba F ++ ba cs), .string { data := #[] }]) ∧ Below W.heap.size W w') := Lib.hid fun h0 B a W hA hB => by
    have h := run_any hok B a (a1 ++ ba cs) W hA hB (by rw [ByteArray.size_append, ba_size]; omega)
    rw [bs_app2, bs_ba, keysOf_append, keysOf_id hck, (feeds_after hok hf1 hF hco h0).fd, ba_app, ba_app] at h
    exact h
  have hFl : Hid (∀ (B a : Nat) (W : World), AutoAt B W a z0 → B ≤ W.heap.size → Calls Try.prog 23 #[.pointer (some ⟨a, 0, none⟩), .string (ba q1)] W fun e w' => e = .returned (.string (ba F)) ∧ Below W.heap.size W w') := Lib.hid fun B a W hA hB => by
    refine (flush_any hok B a (ba q1) W hA hB (by rw [ba_size]; omega)).mono ?_
    rintro e w' ⟨F', rfl, hF', hb⟩
    rw [bs_ba, keysOf_id hq1] at hF'
    rw [hF'.det hF]
    exact ⟨rfl, hb⟩
  have z1 : (ba o1).size ≤ 100000 := by rw [ba_size]; omega
  have z2 : (ba F).size ≤ 100000 := by rw [ba_size]; omega
  have z3 : (ba cs).size ≤ 200 := by rw [ba_size]; omega
  have z4 : (ba o1 ++ ba F).size ≤ 200000 := by rw [ByteArray.size_append]; omega
  have HCS := Lib.hid hcs
  clear w0 w1 w2 s1 s2 hm hlt hc hsh hf1 hl1 hk1 hq1 hF hFl0 hcs hck hco hcl hlz hok
  generalize ba o1 = O1 at *
  generalize ba F = F1 at *
  generalize ba q1 = Q1 at *
  have hs1 : ¬ 9223372036854775807 < O1.size + F1.size := by omega
  have hs2 : ¬ 9223372036854775807 < (O1 ++ F1).size + (ba cs).size := by omega
  have hs3 : ¬ 9223372036854775807 < a1.size + (ba cs).size := by omega
  go_enter Try.func9, Try.ntmps9
  go_wp2_with (first
    | (go_at_call 14; (with_reducible refine HL.out.mono ?_); rintro e w1 ⟨x, rfl, hw1, hx⟩; obtain rfl := hw1.symm; obtain rfl : x = true := hx.2 HLT.out; clear hx)
    | (go_at_call 15; (with_reducible refine HN.out.mono ?_); rintro e w2 ⟨a, rfl, hA2, hbw2⟩; have hB2 := Nat.le_refl w2.heap.size))
  go_loopw [9, 10] (fun s i wr => ∃ k : Nat, i = .int .i64 k ∧ k ≤ a2.size ∧ s = .string (ba (oth z0 ((bs a2).take k))) ∧ Below w2.heap.size w2 wr) (fun _ i _ => a2.size - (intOf i).toNat)
  case atStart => exact ⟨0, rfl, Nat.zero_le _, rfl, Below.refl _ _⟩
  case round =>
    obtain ⟨k, rfl, hk, rfl, hbr⟩ := hrel
    have hbwr := hbw2.trans (hbr.mono hbw2.size)
    by_cases hkl : k < a2.size
    · have hrun := run_byte a2 k hkl
      have hbz := bz_bound a2 k
      have hbt := Lib.hid (bz_bt8 a2 k)
      have hsu := Lib.hid (oth_succ z0 a2 k hkl)
      have hln := oth_le z0 ((bs a2).take k)
      rw [List.length_take, bs_len] at hln
      have hex := Lib.hid (ext_at a2 k hkl)
      have k0 : (0 : Int) ≤ k := by omega
      have k1 : (k : Int) < a2.size := by omega
      have k2 : (k : Int) + 1 ≤ a2.size := by omega
      generalize oth z0 ((bs a2).take k) = xs at hsu hln
      generalize bz a2 k = x at hrun hbz hbt
      generalize bt8 a2 k = c at hbt hsu hex
      obtain ⟨hb0, hb1⟩ := hbz
      obtain ⟨f0, hcase⟩ : ∃ f0 : Bool, (x < 33 ∧ f0 = true) ∨ (33 ≤ x ∧ 126 < x ∧ f0 = true) ∨ (33 ≤ x ∧ x ≤ 126 ∧ f0 = false) := by
        by_cases h1 : x < 33
        · exact ⟨true, .inl ⟨h1, rfl⟩⟩
        · by_cases h2 : x ≤ 126
          · exact ⟨false, .inr (.inr ⟨by omega, h2, rfl⟩)⟩
          · exact ⟨true, .inr (.inl ⟨by omega, by omega, rfl⟩)⟩
      have hf0 : f0 = !isKb c := by
        have := hbt.out
        unfold isKb
        rcases hcase with ⟨h1, rfl⟩ | ⟨h1, h2, rfl⟩ | ⟨h1, h2, rfl⟩
        · rw [decide_eq_false (by omega)]; rfl
        · rw [decide_eq_false (by omega)]; rfl
        · rw [decide_eq_true (by omega)]; rfl
      have HF0 := Lib.hid hf0
      clear hf0
      rcases hcase with ⟨h1, rfl⟩ | ⟨h1, h2, rfl⟩ | ⟨h1, h2, rfl⟩
      all_goals
        go_wp2
        go_loopw [11, 12] (fun f i wr2 => ∃ (j : Nat) (fb : Bool), f = .bool fb ∧ i = .int .i64 j ∧ j ≤ z0.length ∧ Hid (fb = (!isKb c || knownIn (z0.take j) c)) ∧ Below w2.heap.size w2 wr2) (fun _ i _ => z0.length - (intOf i).toNat)
        case atStart => exact ⟨0, _, rfl, rfl, Nat.zero_le _, Lib.hid (by rw [← HF0.out]; simp [knownIn] <;> omega), hbr⟩
        case round =>
          obtain ⟨j, fb, rfl, rfl, hj, hfb, hbr2⟩ := hrel
          have hbwr2 := hbw2.trans (hbr2.mono hbw2.size)
          by_cases hjl : j < z0.length
          · obtain ⟨b, off, rfl, hb, hx⟩ := HR.out.at (by omega)
            obtain ⟨x0, _, _⟩ := hx j hjl
            have HX0 := Lib.hid x0
            have j0 : (0 : Int) ≤ j := by omega
            have j1 : (j : Int) < z0.length := by omega
            have hks := Lib.hid (known_succ (c := c) hjl)
            have hr40 := (HLT.out.2.2 _ (ri_mem hjl)).1
            generalize ri z0 j = r at HX0 hks hr40
            clear hx x0
            go_wp2
            go_loopw [11, 13] (fun f i wr3 => ∃ (m : Nat) (fc : Bool), f = .bool fc ∧ i = .int .i64 m ∧ m ≤ r.k.size ∧ Hid (fc = (fb || ((bs r.k).take m).any (· == c))) ∧ Below w2.heap.size w2 wr3) (fun _ i _ => r.k.size - (intOf i).toNat)
            case atStart => exact ⟨0, fb, rfl, rfl, Nat.zero_le _, Lib.hid (by simp), hbr2⟩
            case round =>
              obtain ⟨m, fc, rfl, rfl, hmk, hfc, hbr3⟩ := hrel
              have hbwr3 := hbw2.trans (hbr3.mono hbw2.size)
              have x3 := HX0.out
              rw [← hbwr3.cell (p := ⟨b, _, none⟩) hb] at x3
              have m0 : (0 : Int) ≤ m := by omega
              by_cases hml : m < r.k.size
              · have m1 : (m : Int) < r.k.size := by omega
                have hrun2 := run_byte r.k m hml
                have hyt := Lib.hid (bz_bt8 r.k m)
                have hny := Lib.hid (any_succ (c := c) hml)
                generalize bz r.k m = y at hrun2 hyt
                generalize bt8 r.k m = d at hyt hny
                have hdc : (d == c) = decide (y = x) := by
                  rw [Bool.eq_iff_iff, beq_iff_eq, decide_eq_true_eq, hyt.out, hbt.out]
                  constructor
                  · rintro rfl; rfl
                  · intro h; exact UInt8.toNat.inj (by omega)
                have HDC := Lib.hid hdc
                clear hdc
                cases fc
                · by_cases he : y = x
                  · subst he
                    go_wp2
                    go_quiet (fail)
                    go_wp2
                    go_roundw
                    case rel => exact ⟨m + 1, true, rfl, by go_num, by omega, Lib.hid (by rw [hny.out, HDC.out]; simp), below_drews hbr3 _⟩
                    case measure => simp [intOf]; omega
                  · have he2 : (decide (y = x)) = false := decide_eq_false he
                    go_wp2
                    go_quiet (fail)
                    go_wp2
                    go_roundw
                    case rel => exact ⟨m + 1, (y == x), rfl, by go_num, by omega, Lib.hid (by rw [hny.out, HDC.out, ← Bool.or_assoc, ← hfc.out, Bool.false_or]; rfl), below_drews hbr3 _⟩
                    case measure => simp [intOf]; omega
                · go_wp2
                  go_quiet (fail)
                  go_wp2
                  go_roundw
                  case rel => exact ⟨m + 1, true, rfl, by go_num, by omega, Lib.hid (by rw [hny.out, ← Bool.or_assoc, ← hfc.out]; rfl), below_drews hbr3 _⟩
                  case measure => simp [intOf]; omega
              · have hfin := Lib.hid (show fc = (!isKb c || knownIn (z0.take (j + 1)) c) by
                  rw [hks.out, ← Bool.or_assoc, ← hfb.out, hfc.out, List.take_of_length_le (by rw [bs_len]; omega)])
                go_wp2
                go_roundw
                case rel => exact ⟨j + 1, fc, rfl, by go_num, by omega, hfin, hbr3⟩
                case measure => simp [intOf]; omega
          · have hfin := hfb.out
            rw [List.take_of_length_le (by omega)] at hfin
            have hsu2 := hsu.out
            rw [← hfin] at hsu2
            have HSU := Lib.hid hsu2
            clear hfin hsu2 hsu
            have hxz : (ba xs).size = xs.length := ba_size _
            have hez : (a2.extract k (k + 1)).size = 1 := by rw [hex.out, ba_size]; rfl
            have hsum : ¬ 9223372036854775807 < (ba xs).size + (a2.extract k (k + 1)).size := by omega
            cases fb
            · go_wp2
              go_roundw
              case rel => exact ⟨k + 1, by go_num, by omega, by rw [HSU.out, hex.out]; exact congrArg Value.string (ba_app _ _).symm, hbr2⟩
              case measure => simp [intOf]; omega
            · go_wp2
              go_roundw
              case rel => exact ⟨k + 1, by go_num, by omega, by rw [HSU.out]; simp, hbr2⟩
              case measure => simp [intOf]; omega
    · obtain rfl : k = a2.size := by omega
      have hcs2 := HCS.out
      rw [List.take_of_length_le (by rw [bs_len]; omega), hcs2]
      have hA3 := hA2.later hbr hB2
      have hB3 := hbr.size
      by_cases hn : cs = []
      · have hem : (ba cs).toList.isEmpty = true := by rw [hn, Lib.toList_data]; rfl
        clear hRun hRun2 hFl hn hcs2
        generalize ba cs = S at *
        go_wp2_with (go_at_call 18; (with_reducible refine (HWK.out _ (HML.out.later hbwr hG) (Nat.lt_of_lt_of_le hG hbwr.size)).mono ?_); rintro e w5 ⟨rfl, hb5⟩)
        go_ret
        exact ⟨rfl, hbwr.trans (hb5.mono hbwr.size)⟩
      · have hem : (ba cs).toList.isEmpty = false := by
          rw [Lib.toList_data]
          cases cs with
          | nil => exact absurd rfl hn
          | cons c l => rfl
        have HR2 := Lib.hid (hRun2.out hn)
        have HA3 := Lib.hid hA3
        clear hRun2 hn hcs2 hA3
        generalize ba cs = S at *
        go_wp2_with (first
          | (go_at_call 19; (with_reducible refine (hRun.out _ _ _ HA3.out hB3).mono ?_); rintro e w4 ⟨rfl, hb4⟩; have hA4 := HA3.out.later hb4 hB3; have hB4 := Nat.le_trans hB3 hb4.size; have hbw4 := hbwr.trans (hb4.mono hbwr.size); clear hRun)
          | (go_at_call 19; (with_reducible refine (HR2.out _ _ _ hA4 hB4).mono ?_); rintro e w5 ⟨rfl, hb5⟩; have hA5 := hA4.later hb5 hB4; have hB5 := Nat.le_trans hB4 hb5.size; have hbw5 := hbw4.trans (hb5.mono hbw4.size))
          | (go_at_call 23; (with_reducible refine (hFl.out _ _ _ hA5 hB5).mono ?_); rintro e w6 ⟨rfl, hb6⟩; have hbw6 := hbw5.trans (hb6.mono hbw5.size))
          | (go_at_call 18; (with_reducible refine (HWK.out _ (HML.out.later hbw6 hG) (Nat.lt_of_lt_of_le hG hbw6.size)).mono ?_); rintro e w7 ⟨rfl, hb7⟩))
        go_ret
        exact ⟨rfl, hbw6.trans (hb7.mono hbw6.size)⟩
theorem own : ownKnob Try.prog.godebug = none := by kernel_rfl
theorem laidOut : laidOutB Try.prog = true := by kernel_rfl

set_option maxRecDepth 100000 in
theorem lifted (os : Os) (started : os.Started) (H : Type) (enc : TypeId × Value → H) :
    ReturnsInHanded {} Try.checked os 9 .any (Rows.autoOthersSpec.pre6 enc Try.prog Try.f9 Rows.autoOthersRow.domain false) (Rows.autoOthersSpec.post enc Try.prog Try.f9 false true false false) := by
  refine returnsInHanded_of_change_shaped (C := Try.checked) own started (by kernel_rfl) Try.func9
    (ChangeSpec.witness6 (enc := enc) (C := Try.checked) false ⟨#[], #[.slice none 0 0, .string ByteArray.empty, .string ByteArray.empty], []⟩ 8 (by kernel_rfl) (by kernel_rfl) (by kernel_rfl) (by kernel_rfl)) ?_
  intro W base args ds gs before hval0 hW hcnd hsz0 hsh _
  have hval : ∀ (j : Nat) t v, Try.f9.params[j]? = some t → args[j]? = some v → Value.okWide Try.prog W .any base t v := hval0
  have hW' := hW
  obtain ⟨p, q, hA0, hV, rfl, hfz, hnd⟩ := hW
  have hA : DataW.TrodAll enc Try.prog W 0 (fun _ => true) true Try.f9.params.toList args.toList ds p := hA0
  rw [Try.params9] at hA hval
  obtain ⟨v0, vs0, d0, ds0, p0, q0, hargs, rfl, rfl, h0, r0⟩ := trodAll_cons hA
  obtain ⟨v1, vs1, d1, ds1, p1, q1, rfl, rfl, rfl, h1, r1⟩ := trodAll_cons r0
  obtain ⟨v2, vs2, d2, ds2, p2, q2, rfl, rfl, rfl, h2, r2⟩ := trodAll_cons r1
  obtain ⟨rfl, rfl, rfl⟩ := trodAll_nil r2
  obtain rfl : args = #[v0, v1, v2] := by cases args; simp_all
  obtain ⟨rfl, rfl⟩ := trodVars_none hV
  obtain ⟨a0, len0, cap0, rfl⟩ := okWide_slice Try.underlying22 (hval 0 22 v0 rfl rfl)
  have k0 := h0
  have lt0 : ∀ x ∈ p0, x.block < W.heap.size := by obtain ⟨m, hm⟩ := k0; exact DataW.trod_lt m _ _ _ hm
  obtain ⟨z0, w0⟩ : ∃ rs, RowR W (.slice a0 len0 cap0) rs := by
    obtain ⟨fuel, hf⟩ := h0
    exact rules_open hf
  obtain ⟨a1, rfl, rfl, rfl, w1⟩ := open_string Try.underlying9 (hval 1 9 v1 rfl rfl) h1
  obtain ⟨a2, rfl, rfl, rfl, w2⟩ := open_string Try.underlying9 (hval 2 9 v2 rfl rfl) h2
  clear hA0 hval0
  have hsz : (DataW.weightsEach Try.prog (Try.f9.params.toList ++ Rows.autoOthersSpec.plain.varTypes Try.prog) (_ ++ _)).all (· ≤ reachBytes) = true := hsz0
  rw [Try.params9] at hsz
  have sz1 := sized_string hsz (j := 1) (t := 9) rfl rfl
  have sz2 := sized_string hsz (j := 2) (t := 9) rfl rfl
  refine (walk a0 len0 cap0 z0 a1 a2 W w0 w1 w2 (by have := sz1; simp only [reachBytes, Array.length_toList] at this; exact this) (by have := sz2; simp only [reachBytes, Array.length_toList] at this; exact this) (maxL_of hsh).1 (maxL_of hsh).2).mono fun e W' ⟨he, bel⟩ => ?_
  subst he
  exact ⟨_, rfl, _, _, _, [], _, [], hW', trodAll_mk1 (shut_bool Try.underlying4 _), (trodAll_cons_mk (Below.trod laidOut (by kernel_rfl) (of_decide_eq_true (by kernel_rfl)) k0 bel lt0) (trodAll_cons_mk (shut_string Try.underlying9 w1) (trodAll_cons_mk (shut_string Try.underlying9 w2) trodAll_mk0))), rfl, bel.frame _, fun h => by cases h⟩

theorem over : Rows.autoOthersRow.holds Try.pinned (OpenSpec.ofChange Rows.autoOthersSpec) :=
  OpenClaim.holds_of_wide 9 Try.f9 rfl rfl rfl rfl rfl rfl rfl ⟨rfl, rfl, rfl, rfl, rfl⟩ rfl rfl rfl rfl rfl (by kernel_rfl) Try.func9 (by kernel_rfl)
    (of_decide_eq_true (by kernel_rfl)) (by unfold Func.isWrapper; first | (rw [if_pos (by decide +kernel)]; kernel_rfl) | (rw [if_neg (by decide +kernel)]; exact ⟨rfl, rfl⟩))
    (fun os started H enc _ => lifted os started H enc)

theorem proved : Rows.AutoOthersSaid := over
end Go.Proofs.Ytmbccolkgephgaa.autoOthers
