/-
  Contract of the reference's Print; Few in a form that the laws use.
-/
import Derived.Test.YtpaeppklkicngaaDoorRomU
import Derived.Test.YtpaeppklkicngaaDoorRomV
import Derived.Test.YtpaeppklkicngaaDoorRomE
set_option linter.unusedVariables false
set_option linter.unusedSimpArgs false
set_option maxRecDepth 100000
namespace Go.Proofs.YtpaeppklkicngaaDoor.Rom
open Go Go.RowKit Go.Proofs.YtpaeppklkicngaaDoor.Kit Go.Proofs.YtpaeppklkicngaaDoor.Utf

/-- What Few's yes tells. -/
def FewOK (x : Bool) (rs : List Rule) : Prop := x = true → rs.length ≤ 200 ∧ ∀ r ∈ rs, r.k.size ≤ 100 ∧ r.o.size ≤ 100 ∧ r.n.size ≤ 100
theorem FewOK.len {rs : List Rule} (h : FewOK true rs) : rs.length ≤ 200 := (h rfl).1
theorem FewOK.short {rs : List Rule} (h : FewOK true rs) : ∀ r ∈ rs, Short r := fun r hr => by
  have := (h rfl).2 r hr
  exact ⟨by omega, by omega, by omega⟩
theorem few_ok (v : Value) (rs : List Rule) (w : World) (hR : RowR w v rs) :
    Calls Tryd.prog 15 #[v] w fun e w' => ∃ x, e = .returned (.bool x) ∧ FewOK x rs ∧ w' = w :=
  (few_any v rs w hR).mono fun e w' ⟨x, h1, h2, h3⟩ => ⟨x, h1, h3, h2⟩
theorem given_ok (v : Value) (rs : List Rule) (w : World) (h : FewOK true rs) (hR : RowR w v rs) :
    Calls Tryd.prog 16 #[v] w fun e w' => ∃ v', e = .returned v' ∧ RowR w' v' rs ∧ Below w.heap.size w w' :=
  (given_any v rs w hR (by have := h.len; omega)).mono fun e w' ⟨v', he, hown, hb⟩ => ⟨v', he, (row_of_own hown).1, hb⟩

theorem ba_app (a b : List UInt8) : ba a ++ ba b = ba (a ++ b) := by apply ba_ext; simp [ba]
theorem ba_lit (b : UInt8) : ({ data := #[b] } : ByteArray) = ba [b] := rfl

set_option maxHeartbeats 4000000 in
theorem rprint_any (v : Value) (rs : List Rule) (w : World) (hR : RowR w v rs) (hs : ∀ r ∈ rs, Short r) :
    Calls Tryd.prog 18 #[v] w fun e w' => e = .returned (.tuple #[.string (printL rs).1, .int .i64 (printL rs).2]) ∧ Below w.heap.size w w' := by
  obtain ⟨a, len, cap, rfl, hlen, hcap, hmax, _⟩ := id hR
  subst hlen
  have HCK := Lib.hid (fun w hR => rcheck_any (.slice a rs.length cap) rs w hR hs)
  have HR := Lib.hid hR
  unfold printL
  obtain ⟨E, hE⟩ : ∃ E, checkL rs = E := ⟨_, rfl⟩
  rw [hE] at HCK ⊢
  by_cases h0 : E = 0
  rotate_left
  · rw [if_neg h0]
    have hne : (E != 0) = true := by simpa using h0
    have e0 : ba [] = { data := #[] } := rfl
    rw [e0]
    clear hE hR hs e0
    go_enter Tryd.func18, Tryd.ntmps18
    go_wp2_with (go_at_call 20; (refine (HCK.out _ HR.out).mono ?_); rintro e w1 ⟨rfl, hb1⟩)
    go_ret2
    exact ⟨rfl, hb1⟩
  subst h0
  rw [if_pos rfl]
  have h500 : rs.length ≤ 500 := by
    unfold checkL at hE
    split at hE
    · cases hE
    · omega
  have HPL : ∀ k, k ≤ rs.length → (ba (printB (rs.take k))).size ≤ 2100000000 := fun k hk => by
    have := printB_len (rs := rs.take k) (fun r hr => hs r (List.mem_of_mem_take hr))
    rw [List.length_take] at this
    have : min k rs.length ≤ 500 := by omega
    rw [ba_size]
    omega
  have HPL := Lib.hid HPL
  have HS := Lib.hid hs
  clear hE hR hs
  go_enter Tryd.func18, Tryd.ntmps18
  go_wp2_with (go_at_call 20; (refine (HCK.out _ HR.out).mono ?_); rintro e w1 ⟨rfl, hb1⟩)
  go_loopw [6, 5] (fun i sv wr => ∃ k : Nat, i = .int .i64 k ∧ k ≤ rs.length ∧ sv = .string (ba (printB (rs.take k))) ∧ Below w.heap.size w wr) (fun i _ _ => rs.length - (intOf i).toNat)
  case atStart => exact ⟨0, rfl, Nat.zero_le _, rfl, hb1⟩
  case round =>
    obtain ⟨k, rfl, hk, rfl, hbw⟩ := hrel
    by_cases hkl : k < rs.length
    · obtain ⟨b, off, rfl, hb, hx⟩ := HR.out.at (by omega)
      obtain ⟨x0, x1, x2⟩ := hx k hkl
      rw [← hbw.cell (p := ⟨b, _, none⟩) hb] at x0 x1 x2
      have HSU := Lib.hid (printB_succ hkl)
      have hpl := HPL.out k hk
      obtain ⟨s1, s2, s3⟩ := HS.out _ (ri_mem hkl)
      clear hx
      generalize ri rs k = r at *
      generalize printB (rs.take k) = acc at *
      have k0 : (0 : Int) ≤ k := by omega
      have k1 : (k : Int) < rs.length := by omega
      by_cases hn : r.n.size = 0
      · have hne : r.n.toList.isEmpty = true := by rw [empty_str, decide_eq_true hn]
        have HL := Lib.hid (show ba acc ++ r.k ++ { data := #[9] } ++ r.o ++ { data := #[10] } = ba (printB (rs.take (k + 1))) by
          rw [HSU.out]; unfold lineT; rw [if_pos hn]
          rw [← ba_bs r.k, ← ba_bs r.o, ba_lit, ba_lit]
          simp only [ba_app, bs_ba]
          simp)
        clear hn
        go_wp2
        go_quiet (fail)
        have hb4 := below_drews hbw nq
        obtain ⟨W2, hW2⟩ : ∃ W2, wr.drewN nq = W2 := ⟨_, rfl⟩
        have y2 : W2.cell? ⟨b, off + k * 3 + 2, none⟩ = some (.string r.n) := by rw [← hW2]; exact x2
        rw [hW2] at hb4 ⊢
        clear hW2
        go_wp2
        go_roundw
        case rel => exact ⟨k + 1, by go_num, by omega, by rw [← HL.out], hb4⟩
        case measure => simp [intOf]; omega
      · have hne : r.n.toList.isEmpty = false := by rw [empty_str, decide_eq_false hn]
        have HL := Lib.hid (show ba acc ++ r.k ++ { data := #[9] } ++ r.o ++ { data := #[9] } ++ r.n ++ { data := #[10] } = ba (printB (rs.take (k + 1))) by
          rw [HSU.out]; unfold lineT; rw [if_neg hn]
          rw [← ba_bs r.k, ← ba_bs r.o, ← ba_bs r.n, ba_lit, ba_lit]
          simp only [ba_app, bs_ba]
          simp)
        clear hn
        go_wp2
        go_quiet (fail)
        have hb4 := below_drews hbw nq
        obtain ⟨W2, hW2⟩ : ∃ W2, wr.drewN nq = W2 := ⟨_, rfl⟩
        have y2 : W2.cell? ⟨b, off + k * 3 + 2, none⟩ = some (.string r.n) := by rw [← hW2]; exact x2
        rw [hW2] at hb4 ⊢
        clear hW2
        go_wp2
        go_roundw
        case rel => exact ⟨k + 1, by go_num, by omega, by rw [← HL.out], hb4⟩
        case measure => simp [intOf]; omega
    · rw [List.take_of_length_le (by omega)]
      go_wp2
      go_ret2
      exact ⟨rfl, hbw⟩

end Go.Proofs.YtpaeppklkicngaaDoor.Rom
