/-
  Contract of along's iterator.
-/
import Derived.Test.YtffljcfpofhkgaaLoG
set_option linter.unusedVariables false
set_option linter.unusedSimpArgs false
set_option maxRecDepth 100000
namespace Go.Proofs.Ytffljcfpofhkgaa.Lo
open Go Go.RowKit Go.Shelf Go.Proofs.Ytffljcfpofhkgaa.Kit Go.Proofs.Ytffljcfpofhkgaa.Bv Go.Proofs.Ytffljcfpofhkgaa.Pk
attribute [local go_sem] Oper.semAt_some

theorem ba_byte (s : Str) (i : Nat) (h : i < s.length) (w : World) : (Instr.index 9 (.string (ba s)) (.int .i64 (i : Int))).run Try.prog w = .ok (.int .u8 ((s.getD i 0).toNat : Int)) w := by
  have hs := ba_size s
  rw [run_index_string w 9 (ba s) .i64 i Try.underlying9, dif_pos ⟨by omega, by omega⟩]
  congr 2
  have e : s.getD i 0 = (ba s)[i]'(by omega) := by
    rw [List.getD_eq_getElem?_getD, List.getElem?_eq_getElem h]
    show s[i] = (ba s).data[i]'(by simp [ba]; omega)
    simp [ba]
  rw [e]; simp

/-- What along hands over: how many bytes of the string, the node that they are. -/
abbrev Step (L : List Str) := { x : Nat × Nat // x.2 < (Gs L).length }
def stepV (L : List Str) (x : Step L) : Array Value := #[.int .i64 (x.val.1 : Int), .int .i64 (x.val.2 : Int)]
/-- A beginning of what comes for the string s. -/
def Pre (L : List Str) (s : Str) (xs : List (Step L)) : Prop := ∀ j x, xs[j]? = some x → x.val.1 = j ∧ nodeOf L (s.take j) = some x.val.2 ∧ j ≤ s.length
/-- All that comes for it. -/
def All (L : List Str) (s : Str) (xs : List (Step L)) : Prop := Pre L s xs ∧ 0 < xs.length ∧ (xs.length = s.length + 1 ∨ nodeOf L (s.take xs.length) = none)
theorem Pre.snoc {L : List Str} {s : Str} {xs : List (Step L)} (h : Pre L s xs) (x : Step L) (h1 : x.val.1 = xs.length) (h2 : nodeOf L (s.take xs.length) = some x.val.2) (h3 : xs.length ≤ s.length) : Pre L s (xs ++ [x]) := by
  intro j y hy
  by_cases hj : j < xs.length
  · rw [List.getElem?_append_left hj] at hy; exact h j y hy
  · rw [List.getElem?_append_right (by omega)] at hy
    have e : j - xs.length = 0 := by
      rcases Nat.eq_zero_or_pos (j - xs.length) with e | e
      · exact e
      · rw [List.getElem?_eq_none (by simp; omega)] at hy; cases hy
    rw [e] at hy
    obtain rfl : x = y := by simpa using hy
    obtain rfl : j = xs.length := by omega
    exact ⟨h1, h2, h3⟩

set_option maxHeartbeats 4000000 in
theorem along_stops (n : Nat) (hn : 1 ≤ n) {B0 B1 : Nat} {L : List Str} {p : Nat} (hL : Ok L) (hN : (Gs L).length ≤ 524287) (s : Str) (hsl : s.length ≤ 281474976710656) (Bt Bs n₀ : Nat) (w : World) (h : TrieAt B0 B1 w p L) (hB : B1 ≤ n₀) (h0 : n₀ ≤ w.heap.size) (hBt : Bt < w.heap.size) (hBs : Bs < w.heap.size)
    (ct : w.cell? ⟨Bt, 0, none⟩ = some (.pointer (some ⟨p, 0, none⟩))) (cn : w.cell? ⟨Bs, 0, none⟩ = some (.string (ba s))) :
    SeqStopsK Fence.wide n Try.prog 70 #[.pointer (some ⟨Bt, 0, none⟩), .pointer (some ⟨Bs, 0, none⟩)] (stepV L) (KpB n₀ Bt Bs) (All L s) (Pre L s) 257 w := fun l J Jx W hW hJ hJx hY hJ0 => by
  have hWs := hW.size
  have ct1 := (hW.cell (p := ⟨Bt, 0, none⟩) hBt).trans ct
  have HC := Lib.hid (fun V (hV : KpB n₀ Bt Bs w V) (hVs : w.heap.size ≤ V.heap.size) k (hk : k < (Gs L).length) c => child_any (h.below hV.1 hB) hL hN (by omega) hk c)
  have HX := Lib.hid (fun V (hV : KpB n₀ Bt Bs w V) => show V.cell? ⟨Bt, 0, none⟩ = some (.pointer (some ⟨p, 0, none⟩)) ∧ V.cell? ⟨Bs, 0, none⟩ = some (.string (ba s)) from ⟨(hV.cell (.inl rfl) 0).trans ct, (hV.cell (.inr rfl) 0).trans cn⟩)
  have HI := Lib.hid (fun i hi W => ba_byte s i hi W)
  have hY' := Lib.hid hY
  have hkv := Lib.hid (fun x => show stepV L x = #[.int .i64 (x.val.1 : Int), .int .i64 (x.val.2 : Int)] from rfl)
  have HNIL := Lib.hid (nodeOf_nil hL)
  have HSZ := Lib.hid (ba_size s)
  have HNS := Lib.hid (fun t k => @nodeOf_some L hL t k)
  have HTK := Lib.hid (fun j hj => take_snoc s j hj)
  obtain ⟨S, hS⟩ : ∃ S, ba s = S := ⟨_, rfl⟩
  rw [hS] at HX HI HSZ
  have hSz : S.size ≤ 281474976710656 := by rw [HSZ.out]; exact hsl
  have HW := Lib.hid (KpB.of hW h0 hBt hBs)
  have HWB := Lib.hid (fun A V (hV : Below A.heap.size A V) (hA : w.heap.size ≤ A.heap.size) => show KpB n₀ Bt Bs A V from KpB.of hV (by omega) (by omega) (by omega))
  have HGP := Lib.hid (gs_pos hL)
  have hmx : Try.prog.follows .mixedOrders = true := by kernel_rfl
  clear hS hY cn ct h hW
  refine callsIn_of_wp Try.func70 rfl trivial ?_ rfl
  simp only [Try.ntmps70, List.size_toArray, List.length_cons, List.length_nil, Nat.reduceAdd, Nat.reduceSub, Array.replicate_succ, Array.replicate_zero, List.push_toArray, List.append_toArray, List.nil_append, List.cons_append]
  gi_wp2
  gi_loopw [4, 5, 6] (fun x y z wr => ∃ (xs : List (Step L)) (k : Nat) (ok : Bool), x = .int .i64 (k : Int) ∧ y = .bool ok ∧ z = .int .i64 ((xs.length : Nat) : Int) ∧ Hid (Pre L s xs) ∧ xs.length ≤ S.size + 1 ∧ (ok = true → xs.length ≤ S.size) ∧ Hid (ok = true → nodeOf L (s.take xs.length) = some k) ∧ Hid (ok = false → All L s xs) ∧ Hid (KpB n₀ Bt Bs w wr) ∧ w.heap.size ≤ wr.heap.size ∧ Hid (J xs wr)) (fun _ _ z _ => S.size + 2 - (intOf z).toNat)
  case atStart => exact ⟨[], 0, true, rfl, rfl, rfl, Lib.hid (fun j x hx => by simp at hx), by simp, by simp, Lib.hid (fun _ => by simpa using HNIL.out), Lib.hid (fun h => by cases h), HW, hWs, Lib.hid hJ0⟩
  case round =>
    obtain ⟨xs, k, ok, rfl, rfl, rfl, hpre, hlen, hlen2, hno, hall, hb, hws, hJt⟩ := hrel
    obtain ⟨e1, e2⟩ := HX.out _ hb.out
    cases ok with
    | false =>
      have HALL := Lib.hid (hall.out rfl)
      obtain ⟨z, hz⟩ : ∃ z, xs.length = z := ⟨_, rfl⟩
      rw [hz] at hlen ⊢
      clear hz hlen2 hno hall
      gi_wp2
      refine ⟨fun _ h => (by cases h), ?_⟩
      gi_wp2
      go_end0
      exact ⟨⟨_, rfl⟩, .inl ⟨xs, HALL.out, hJt.out⟩⟩
    | true =>
      have hno1 := hno.out rfl
      have hl1 := hlen2 rfl
      obtain ⟨hk, hpk⟩ := (HNS.out _ _).1 hno1
      have hsz := HSZ.out
      obtain ⟨x, hx⟩ : ∃ x : Step L, x = ⟨(xs.length, k), hk⟩ := ⟨_, rfl⟩
      have HPR : Hid (Pre L s (xs ++ [x])) := Lib.hid (hpre.out.snoc x (by rw [hx]) (by rw [hx]; exact hno1) (by omega))
      have h257 : xs.length < 257 := by
        have q1 := pre_len hL hk
        have q2 := (node_at hL hk).n256
        rw [hpk, List.length_take] at q1
        omega
      obtain ⟨fn, tmps, assign, body, hy, hR1⟩ := hY'.out xs x wr hJt.out h257
      clear h257
      rw [hkv.out, hx] at hy
      have HR1 := Lib.hid hR1
      have HL1 : Hid ((xs ++ [x]).length = xs.length + 1) := Lib.hid (by simp)
      have HTK1 : xs.length < S.size → Hid (pre L k ++ [s.getD xs.length 0] = s.take (xs.length + 1)) := fun hl => Lib.hid (by rw [hpk]; exact (HTK.out _ (by omega)).symm)
      have HI1 := fun hl => HI.out xs.length hl
      have HIS : Hid (xs.length < S.size → xs.length < s.length) := Lib.hid (fun h => by omega)
      have HEQ : Hid (¬ xs.length < S.size → xs.length = s.length) := Lib.hid (fun h => by omega)
      clear hx hR1 hno1 hno hall hpre hpk hsz hlen2
      obtain ⟨z, hz⟩ : ∃ z, xs.length = z := ⟨_, rfl⟩
      have HZ := Lib.hid hz
      simp only [hz] at hlen hl1 hy HL1 HTK1 HI1 HIS HEQ ⊢
      clear hz
      have hzs := hl1
      gi_wp2
      refine HR1.out.mono ?_
      rintro e W3 (⟨rfl, hJ3, hk3⟩ | ⟨rfl, hJx3⟩)
      · have hb3 := hb.out.trans hk3
        have hs3 : w.heap.size ≤ W3.heap.size := Nat.le_trans hws hk3.1.size
        obtain ⟨e3, e4⟩ := HX.out _ hb3
        have HB3 := Lib.hid hb3
        have HJ3 := Lib.hid hJ3
        by_cases hlt : z < S.size
        · have hidx := HI1 (HIS.out hlt)
          have HTK2 := HTK1 hlt
          have HC1 := Lib.hid (fun V (hV : Below W3.heap.size W3 V) => HC.out V (HB3.out.trans (HWB.out W3 V hV hs3)) (Nat.le_trans hs3 hV.size) k hk (s.getD z 0))
          have hzl : (z : Int) < (S.size : Int) := by omega
          obtain ⟨c, hc⟩ : ∃ c, s.getD z 0 = c := ⟨_, rfl⟩
          rw [hc] at hidx HTK2 HC1
          obtain ⟨c8, hc8⟩ : ∃ c8, c.toNat = c8 := ⟨_, rfl⟩
          rw [hc8] at hidx HC1
          clear hc hc8 HTK1 HI1 HIS HEQ hJ3 hk3 hb3 hlen hl1
          unfold chV at HC1
          rw [HTK2.out] at HC1
          cases hr : nodeOf L (s.take (z + 1)) with
          | none =>
            rw [hr] at HC1
            have HR2 := Lib.hid hr
            simp only [Option.getD_none, Option.isSome_none] at HC1
            clear hr
            gi_wp2
            gi_region_with_o (refine ⟨trivial, ?_⟩; gi_at_call 71; refine (callsIn_wide.2 (HC1.out _ (by first | exact Below.refl _ _ | exact (Below.refl _ _).drew))).mono ?_; rintro e w6 ⟨rfl, hb6⟩; have HB6 : Hid (Below W3.heap.size W3 w6) := Lib.hid (by first | exact hb6 | exact (Below.refl _ _).drew.trans hb6); clear hb6)
            all_goals gi_wp2
            all_goals
              go_roundw
              case rel => exact ⟨xs ++ [x], 0, false, rfl, rfl, by rw [HL1.out]; go_num, HPR, by rw [HL1.out]; omega, (fun h => by cases h), Lib.hid (fun h => by cases h), Lib.hid (fun _ => ⟨HPR.out, by rw [HL1.out]; omega, .inr (by rw [HL1.out]; exact HR2.out)⟩), Lib.hid (HB3.out.trans (HWB.out W3 _ (by first | exact HB6.out | exact HB6.out.drew) hs3)), Nat.le_trans hs3 HB6.out.size, Lib.hid (abides_below hJ HJ3.out (by first | exact HB6.out | exact HB6.out.drew))⟩
              case measure => simp [intOf]; omega
          | some k' =>
            rw [hr] at HC1
            have HR2 := Lib.hid hr
            simp only [Option.getD_some, Option.isSome_some] at HC1
            clear hr
            gi_wp2
            gi_region_with_o (refine ⟨trivial, ?_⟩; gi_at_call 71; refine (callsIn_wide.2 (HC1.out _ (by first | exact Below.refl _ _ | exact (Below.refl _ _).drew))).mono ?_; rintro e w6 ⟨rfl, hb6⟩; have HB6 : Hid (Below W3.heap.size W3 w6) := Lib.hid (by first | exact hb6 | exact (Below.refl _ _).drew.trans hb6); clear hb6)
            all_goals gi_wp2
            all_goals
              go_roundw
              case rel => exact ⟨xs ++ [x], k', true, rfl, rfl, by rw [HL1.out]; go_num, HPR, by rw [HL1.out]; omega, (fun _ => by rw [HL1.out]; omega), Lib.hid (fun _ => by rw [HL1.out]; exact HR2.out), Lib.hid (fun h => by cases h), Lib.hid (HB3.out.trans (HWB.out W3 _ (by first | exact HB6.out | exact HB6.out.drew) hs3)), Nat.le_trans hs3 HB6.out.size, Lib.hid (abides_below hJ HJ3.out (by first | exact HB6.out | exact HB6.out.drew))⟩
              case measure => simp [intOf]; omega
        · have HEQ1 := HEQ.out hlt
          have HALL : Hid (All L s (xs ++ [x])) := Lib.hid ⟨HPR.out, by rw [HL1.out]; omega, .inl (by rw [HL1.out]; omega)⟩
          have hzl : ¬ (z : Int) < (S.size : Int) := by omega
          clear HTK1 HI1 HIS HEQ HEQ1 hJ3 hk3 hb3 hlen hl1 hlt
          gi_wp2
          go_end0
          exact ⟨⟨_, rfl⟩, .inl ⟨_, HALL.out, HJ3.out⟩⟩
      · have HJX := Lib.hid hJx3
        clear HTK1 HI1 HIS HEQ hlen hl1
        gi_wp2
        go_end0
        exact ⟨⟨_, rfl⟩, .inr ⟨_, HPR.out, HJX.out⟩⟩
end Go.Proofs.Ytffljcfpofhkgaa.Lo
