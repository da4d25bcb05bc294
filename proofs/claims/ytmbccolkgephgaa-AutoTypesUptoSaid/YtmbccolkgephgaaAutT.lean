/-
  Contract of the automaton's moves; rows of structs.
-/
import Derived.Test.YtmbccolkgephgaaAutN
import Derived.Deep.AppendLies
set_option linter.unusedVariables false
set_option linter.unusedSimpArgs false
set_option maxRecDepth 100000
namespace Go.Proofs.Ytmbccolkgephgaa.Aut
open Go Go.RowKit Go.Proofs.Ytmbccolkgephgaa.Kit Go.Proofs.Ytmbccolkgephgaa.Utf Go.Proofs.Ytmbccolkgephgaa.Rom

/-- The slice v has n elements of sz cells each: xs. -/
def RowG (w : World) (v : Value) (sz n : Nat) (xs : List Value) : Prop :=
  ∃ a cap, v = .slice a n cap ∧ n ≤ cap ∧ cap ≤ maxLen ∧ xs.length = n * sz ∧ (n = 0 ∨ ∃ b off, a = some ⟨b, off, none⟩ ∧ b < w.heap.size ∧ ∀ i x, xs[i]? = some x → w.cell? ⟨b, off + i, none⟩ = some x)
theorem RowG.later {w w' : World} {v : Value} {sz n : Nat} {xs : List Value} (h : RowG w v sz n xs) {B : Nat} (hb : Below B w w') (hB : w.heap.size ≤ B) : RowG w' v sz n xs := by
  obtain ⟨a, cap, rfl, h1, h2, h3, h4⟩ := h
  refine ⟨a, cap, rfl, h1, h2, h3, h4.imp id ?_⟩
  rintro ⟨b, off, rfl, hlt, hx⟩
  exact ⟨b, off, rfl, Nat.lt_of_lt_of_le hlt hb.size, fun i x hi => by rw [hb.cell (p := ⟨b, _, none⟩) (by show b < B; omega)]; exact hx i x hi⟩
theorem RowG.of_own {w : World} {base : Nat} {e : TypeId} {sz n : Nat} {v : Value} {xs : List Value} (h : w.ownsRow base e sz v n xs) : RowG w v sz n xs := by
  rcases h.2 with ⟨rfl, h0⟩ | ⟨g, cap, cur, rfl, hb, hg, hnc, hcm, hcs, htake⟩
  · subst h0; exact ⟨none, 0, rfl, Nat.le_refl _, Nat.zero_le _, h.1, .inl rfl⟩
  · refine ⟨_, cap, rfl, hnc, hcm, h.1, .inr ⟨g, 0, rfl, (Array.getElem?_eq_some_iff.1 hg).1, fun j x hx => ?_⟩⟩
    rw [Nat.zero_add, cell_of_row w g j cur e (0, 0) hg]
    rw [← htake, List.getElem?_take] at hx
    split at hx
    · simpa using hx
    · cases hx
/-- Where there is an element, there is a block. -/
theorem RowG.at {w : World} {a : Option Addr} {sz n cap : Nat} {xs : List Value} (h : RowG w (.slice a n cap) sz n xs) (h0 : 0 < n) : ∃ b off, a = some ⟨b, off, none⟩ ∧ b < w.heap.size ∧ ∀ i x, xs[i]? = some x → w.cell? ⟨b, off + i, none⟩ = some x := by
  obtain ⟨a, cap, e, h1, h2, h3, h4⟩ := h
  cases e
  rcases h4 with h4 | h4
  · omega
  · exact h4

/-! ### moves -/
def mcells (m : Mv) : List Value := [.int .u8 m.c.toNat, .string (ba m.o), .string (ba m.q)]
def mc (ms : List Mv) : List Value := ms.flatMap mcells
theorem mc_append (a b : List Mv) : mc (a ++ b) = mc a ++ mc b := by simp [mc]
theorem mc_len (ms : List Mv) : (mc ms).length = ms.length * 3 := by
  induction ms with
  | nil => rfl
  | cons m ms ih => show (mcells m ++ mc ms).length = _; rw [List.length_append, ih]; simp [mcells]; omega
theorem mc_at : ∀ (ms : List Mv) (i : Nat) (m : Mv), ms[i]? = some m → (mc ms)[i * 3]? = some (.int .u8 m.c.toNat) ∧ (mc ms)[i * 3 + 1]? = some (.string (ba m.o)) ∧ (mc ms)[i * 3 + 2]? = some (.string (ba m.q))
  | [], i, m, h => by simp at h
  | x :: ms, 0, m, h => by
    simp only [List.getElem?_cons_zero, Option.some.injEq] at h
    subst h
    exact ⟨rfl, rfl, rfl⟩
  | x :: ms, i + 1, m, h => by
    have := mc_at ms i m (by simpa using h)
    show (mcells x ++ mc ms)[(i + 1) * 3]? = _ ∧ (mcells x ++ mc ms)[(i + 1) * 3 + 1]? = _ ∧ (mcells x ++ mc ms)[(i + 1) * 3 + 2]? = _
    rw [show (i + 1) * 3 = i * 3 + 3 by omega]
    exact this

theorem info_move : (Try.prog.info? 81).map (fun i => (i.zero, i.size, i.bytes)) = some (some (.agg #[.int .u8 0, .string { data := #[] }, .string { data := #[] }]), 3, 40) := by kernel_rfl

/-- The library's variable holds some number. -/
def MaxL (w : World) : Prop := ∃ m, w.cell? ⟨0, 0, none⟩ = some (.int .i64 m)
theorem MaxL.later {w w' : World} {B : Nat} (h : MaxL w) (hb : Below B w w') (hB : 0 < B) : MaxL w' := by
  obtain ⟨m, h⟩ := h
  exact ⟨m, by rw [hb.cell (by exact hB)]; exact h⟩

set_option maxHeartbeats 2000000 in
theorem moves_any {rs : List Rule} (hok : okL rs = true) (B a : Nat) (s p : ByteArray) (w : World) (hA : AutoAt B w a rs) (hB : B ≤ w.heap.size) (hm : MaxL w) (hG : 0 < w.heap.size) (hs : s.size ≤ 1000000) (hp : p.size ≤ 1000) (hk : AllK (bs p)) :
    Calls Try.prog 59 #[.pointer (some ⟨a, 0, none⟩), .string s, .string p] w fun e w' => ∃ v, e = .returned v ∧ w'.ownsRow w.heap.size 81 3 v (mvs rs (bs s) (bs p) 94).length (mc (mvs rs (bs s) (bs p) 94)) ∧ Below w.heap.size w w' := by
  obtain ⟨i0, hi0, hz0, hz1, hz2⟩ := info_parts info_move
  have HST : Hid (∀ (i : Nat), i < 94 → ∀ W : World, Below w.heap.size w W → Calls Try.prog 21 #[.pointer (some ⟨a, 0, none⟩), .string p, .int .u8 ((33 : Int) + i)] W fun e w' => e = .returned (.tuple #[.string (ba (fd rs (bs p) [keyB i]).1), .string (ba (fd rs (bs p) [keyB i]).2)]) ∧ Below W.heap.size W w') := Lib.hid fun i hi W hW => by
    have h := step_any hok B a p (keyB i) W (hA.later hW hB) (Nat.le_trans hB hW.size) (by omega)
    rw [(keyB_is hi).1, keysOf_id hk, keysOf_id (AllK.one (keyB_is hi).2)] at h
    have e : ((33 + i : Nat) : Int) = (33 : Int) + i := by omega
    rw [e] at h
    exact h
  have HCT : Hid (∀ (W : World) (o : By), Below w.heap.size w W → Calls Try.prog 66 #[.string s, .string (ba o)] W fun e w' => e = .returned (.bool (Lib.contains (bs s) o)) ∧ w' = W) := Lib.hid fun W o hW => by
    obtain ⟨m, hm'⟩ := hm.later hW hG
    exact Try.strings_Contains s (ba o) m W (by omega) hm'
  clear hA hm hk
  go_enter Try.func59, Try.ntmps59
  go_wp2
  go_loopw [8, 7] (fun c v wr => ∃ i : Nat, c = .int .u8 ((33 : Int) + i) ∧ i ≤ 94 ∧ wr.ownsRow w.heap.size 81 3 v (mvs rs (bs s) (bs p) i).length (mc (mvs rs (bs s) (bs p) i)) ∧ Below w.heap.size w wr) (fun c _ _ => 127 - (intOf c).toNat)
  case atStart => exact ⟨0, rfl, by omega, World.ownsRow_nil _ _ _ _, Below.refl _ _⟩
  case round =>
    obtain ⟨i, rfl, hi, hown, hbw⟩ := hrel
    have hws := hbw.size
    by_cases hil : i < 94
    · have HS := Lib.hid (HST.out i hil wr hbw)
      have hsu := mvs_succ rs (bs s) (bs p) i
      obtain ⟨o, ho⟩ : ∃ o, (fd rs (bs p) [keyB i]).1 = o := ⟨_, rfl⟩
      obtain ⟨q, hq⟩ : ∃ q, (fd rs (bs p) [keyB i]).2 = q := ⟨_, rfl⟩
      have hkb := (keyB_is hil).1
      rw [ho, hq] at HS hsu
      obtain ⟨ct, hct⟩ : ∃ ct, Lib.contains (bs s) o = ct := ⟨_, rfl⟩
      have HC : Hid (∀ (W : World), Below w.heap.size w W → Calls Try.prog 66 #[.string s, .string (ba o)] W fun e w' => e = .returned (.bool ct) ∧ w' = W) := Lib.hid fun W hW => hct ▸ HCT.out W o hW
      rw [hct] at hsu
      have hln := mvs_len rs (bs s) (bs p) i
      generalize mvs rs (bs s) (bs p) i = ms at hown hsu hln
      have hxl : (mc ms).length = ms.length * 3 := mc_len ms
      obtain ⟨L, hL⟩ : ∃ L, ms.length = L := ⟨_, rfl⟩
      rw [hL] at hown hln hxl
      have HL := Lib.hid hL
      have HSU := Lib.hid hsu
      have HKB := Lib.hid hkb
      clear hL hsu ho hq hct hkb
      have hmcs : mc [⟨keyB i, o, q⟩] = [.int .u8 ((33 : Int) + i), .string (ba o), .string (ba q)] := by
        show mcells _ ++ [] = _
        unfold mcells
        rw [HKB.out, List.append_nil]
        congr 2
      have HMC := Lib.hid hmcs
      clear hmcs
      cases ct
      · have e1 : mvs rs (bs s) (bs p) (i + 1) = ms := by rw [HSU.out]; simp
        have E1 := Lib.hid e1
        clear e1
        go_wp2_with (first
          | (go_at_call 21; (with_reducible refine HS.out.mono ?_); rintro e w2 ⟨rfl, hb2⟩; have hbw2 := hbw.trans (hb2.mono hws); have hown2 := own_later hown hb2)
          | (go_at_call 66; (with_reducible refine (HC.out _ hbw2).mono ?_); rintro e w3 ⟨rfl, hw3⟩; obtain rfl := hw3.symm))
        go_roundw
        case rel => exact ⟨i + 1, by go_num, by omega, by rw [E1.out, HL.out]; exact hown2, hbw2⟩
        case measure => simp [intOf]; omega
      · have e1 : mvs rs (bs s) (bs p) (i + 1) = ms ++ [⟨keyB i, o, q⟩] := by rw [HSU.out]; rfl
        have E1 := Lib.hid e1
        clear e1
        go_wp2_with (first
          | (go_at_call 21; (with_reducible refine HS.out.mono ?_); rintro e w2 ⟨rfl, hb2⟩; have hbw2 := hbw.trans (hb2.mono hws); have hown2 := own_later hown hb2; have hws2 := hbw2.size)
          | (go_at_call 66; (with_reducible refine (HC.out _ hbw2).mono ?_); rintro e w3 ⟨rfl, hw3⟩; obtain rfl := hw3.symm)
          | (at_builtin; refine wpList_append_own _ rfl _ _ _ rfl w.heap.size 81 i0 (.agg #[.int .u8 0, .string { data := #[] }, .string { data := #[] }]) 3 40 Try.underlying79 hi0 hz0 hz1 hz2 rfl (by decide) _ L (mc ms) rfl (hown2.alloc _) ⟨w2.heap.size, 0, none⟩ 1 1 [.int .u8 ((33 : Int) + i), .string (ba o), .string (ba q)] rfl rfl (World.news_of_block (heap_alloc_new _ _)) ?c2 ?c3 ?c4 ?c5 ?_))
        case c2 => intro u hu; simp only [List.mem_cons, List.not_mem_nil, or_false] at hu; rcases hu with rfl | rfl | rfl <;> rfl
        case c3 => unfold maxLen; omega
        case c4 => omega
        case c5 => simp; omega
        intro v' w5 hown5 hg5 _
        have hb5 : Below w.heap.size w w5 := (hbw2.alloc hws2 _).grown hg5 (by simp; omega) (fun j hj => by have := hown2.lt j hj; omega)
        go_wp2
        go_roundw
        case rel => exact ⟨i + 1, by go_num, by omega, by rw [E1.out, List.length_append, List.length_singleton, HL.out, mc_append, HMC.out]; exact hown5, hb5⟩
        case measure => simp [intOf]; omega
    · obtain rfl : i = 94 := by omega
      have HRG := Lib.hid hown
      generalize hms : mvs rs (bs s) (bs p) 94 = ms at hown HRG
      clear hown
      go_wp2
      go_ret
      exact ⟨_, rfl, by rw [hms]; exact HRG.out, hbw⟩

end Go.Proofs.Ytmbccolkgephgaa.Aut
