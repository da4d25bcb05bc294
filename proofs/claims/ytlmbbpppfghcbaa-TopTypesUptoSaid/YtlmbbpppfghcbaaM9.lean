/-
  Joined texts: CmpP, AutF, AutS.
-/
import Derived.Test.YtlmbbpppfghcbaaM8
import Derived.Test.YtlmbbpppfghcbaaM2
import Derived.Laws.ResultCell
import Derived.Deep.RegionHeld3
import Derived.Deep.RegionLaw
set_option linter.unusedVariables false
set_option linter.unusedSimpArgs false
set_option maxRecDepth 100000
namespace Go.Proofs.Ytlmbbpppfghcbaa.Cmp
open Go Go.RowKit Go.Proofs.Ytlmbbpppfghcbaa.Kit Go.Proofs.Ytlmbbpppfghcbaa.Utf Go.Proofs.Ytlmbbpppfghcbaa.Rom Go.Proofs.Ytlmbbpppfghcbaa.Aut

structure St (w W : World) (s : Value) (c : Int) (p : ByteArray) : Prop where
  box : W.heap[w.heap.size]? = some (Obj.cells #[s, .int .i64 c, .string p] 24)
  res : W.heap[w.heap.size + 1]? = some zeroBuf
  bel : Below w.heap.size w W
  siz : w.heap.size + 2 ≤ W.heap.size
theorem St.start {w W : World} {s : Value} {c : Int} {p : ByteArray} (hW : (w.alloc (Obj.cells #[s, .int .i64 c, .string p] 24)).alloc zeroBuf = W) : St w W s c p :=
  have ⟨h1, h2, h3, h4⟩ := start_work hW
  ⟨h1, h2, h3, by omega⟩
theorem St.later {w W W' : World} {s : Value} {c : Int} {p : ByteArray} (h : St w W s c p) {B : Nat} (hb : Below B W W') (hB : w.heap.size + 2 ≤ B) : St w W' s c p :=
  have hs := h.siz
  ⟨by rw [hb.block _ (by omega)]; exact h.box, by rw [hb.block _ (by omega)]; exact h.res, h.bel.trans (hb.mono (by omega)), Nat.le_trans hs hb.size⟩
theorem St.facts {w W : World} {s : Value} {c : Int} {p : ByteArray} (h : St w W s c p) :
    W.cell? ⟨w.heap.size, 0, none⟩ = some s ∧ W.cell? ⟨w.heap.size, 1, none⟩ = some (.int .i64 c) ∧ W.cell? ⟨w.heap.size, 2, none⟩ = some (.string p) ∧ (∀ j, W.frozen? ⟨w.heap.size, j, none⟩ = false) ∧
    W.cell? ⟨w.heap.size + 1, 0, none⟩ = some (.slice none 0 0) ∧ W.cell? ⟨w.heap.size + 1, 1, none⟩ = some (.int .i64 0) ∧ W.cell? ⟨w.heap.size + 1, 2, none⟩ = some (.string { data := #[] }) ∧ (∀ j, W.frozen? ⟨w.heap.size + 1, j, none⟩ = false) := by
  obtain ⟨a, b, c, d⟩ := box_facts h.box
  obtain ⟨a', b', c', d'⟩ := box_facts h.res
  exact ⟨a, b, c, d, a', b', c', d'⟩
theorem St.pend {w W : World} {s : Value} {c : Int} {p : ByteArray} (h : St w W s c p) (q : ByteArray) : St w (W.setCell ⟨w.heap.size, 2, none⟩ (.string q)) s c q :=
  have hs := h.siz
  ⟨(box_set (y0 := .int .i64 0) (y1 := .int .i64 0) h.box).2.2, by rw [heap_setCell_other _ _ _ _ (by show w.heap.size + 1 ≠ w.heap.size; omega)]; exact h.res, Below.setCell h.bel (Nat.le_refl _) _, by simp; exact hs⟩
theorem St.fin {w W : World} {s : Value} {c : Int} {p : ByteArray} (h : St w W s c p) (a : Option Addr) (m k : Nat) (c' : Int) (p' : ByteArray) :
    ∃ W', W' = (((W.setCell ⟨w.heap.size + 1, 0, none⟩ (.slice a m k)).setCell ⟨w.heap.size + 1, 1, none⟩ (.int .i64 c')).setCell ⟨w.heap.size + 1, 2, none⟩ (.string p')) ∧ (loadVar 24 ⟨w.heap.size + 1, 0, none⟩).run Try.prog W' = .ok (.agg #[.slice a m k, .int .i64 c', .string p']) W' ∧
      (∀ B n xs, w.heap.size + 2 ≤ B → W.ownsRow B 65 2 (.slice a m k) n xs → W'.ownsRow w.heap.size 65 2 (.slice a m k) n xs) ∧ Below w.heap.size w W' := by
  obtain ⟨e0, e1, e2, ef, r0, r1, r2, rf⟩ := h.facts
  obtain ⟨q0, q1, q2⟩ := three_set (w := W) (g := w.heap.size + 1) (x := .slice a m k) (y := .int .i64 c') (z := .string p') (by rw [r0]; rfl) (by rw [r1]; rfl) (by rw [r2]; rfl)
  refine ⟨_, rfl, load_buf q0 q1 q2, fun B n xs hB ho => ?_, ?_⟩
  · exact own_base (ownsRow_setCell_below (ownsRow_setCell_below (ownsRow_setCell_below ho (by show w.heap.size + 1 < _; omega) _) (by show w.heap.size + 1 < _; omega) _) (by show w.heap.size + 1 < _; omega) _) (by omega)
  · exact Below.setCell (Below.setCell (Below.setCell h.bel (by show _ ≤ w.heap.size + 1; omega) _) (by show _ ≤ w.heap.size + 1; omega) _) (by show _ ≤ w.heap.size + 1; omega) _

def NewBE (r : Bf × Int) (w : World) (e : Ending) (w' : World) : Prop :=
  ∃ a m k, e = .returned (.tuple #[.agg #[.slice a m k, .int .i64 r.1.c, .string r.1.p], .int .i64 r.2]) ∧ w'.ownsRow w.heap.size 65 2 (.slice a m k) r.1.is.length (ic r.1.is) ∧ Below w.heap.size w w'
theorem newBE_read {r : Bf × Int} {w : World} {e : Ending} {w' : World} (h : NewBE r w e w') : ∃ a m k, e = .returned (.tuple #[.agg #[.slice a m k, .int .i64 r.1.c, .string r.1.p], .int .i64 r.2]) ∧ ItR w' (.slice a m k) r.1.is ∧ Below w.heap.size w w' := by
  obtain ⟨a, m, k, rfl, ho, hb⟩ := h
  exact ⟨a, m, k, rfl, (items_of_own ho).1, hb⟩
theorem insert_new (b : Bf) (l : List It) (s v : Value) (w : World) (hR : ItR w s b.is) (hL : ItR w v l) (hc : 0 ≤ b.c ∧ b.c ≤ b.is.length) (hsh : Sh (insB b l)) :
    Calls Try.prog 44 #[.agg #[s, .int .i64 b.c, .string b.p], v] w (NewB (insB b l) w) := by
  refine (insert_any b l s v w hR hL hc hsh).mono ?_
  rintro e w' ⟨v', rfl, ho, hb⟩
  obtain ⟨a, m, k, rfl⟩ := slice_of_own ho
  exact ⟨a, m, k, rfl, ho, hb⟩

theorem runes_uni (s : ByteArray) (w : World) (hs : s.size ≤ 274877906944) :
    Calls Try.prog 42 #[.string s] w fun e w' => ∃ a k, e = .returned (.tuple #[.slice a (chs (bs s)).length k, .bool (chars (bs s)).isSome]) ∧ Reads w' (.slice a (chs (bs s)).length k) (ints (chs (bs s))) ∧ (∀ b, (Value.slice a (chs (bs s)).length k).ownBlock = some b → w.heap.size ≤ b) ∧ Below w.heap.size w w' := by
  cases hc : chars (bs s) with
  | none =>
    have e : chs (bs s) = [] := by unfold chs; rw [hc]; rfl
    rw [e]
    refine (runes_bad s w (by omega) hc).mono ?_
    rintro e w' ⟨rfl, hb⟩
    exact ⟨none, 0, rfl, ⟨none, 0, 0, rfl, rfl, Nat.le_refl _, Nat.zero_le _, .inl ⟨rfl, rfl, rfl⟩⟩, (fun b h => by cases h), hb⟩
  | some cs =>
    rw [chs_some hc]
    refine (runes_slice s w hs cs hc).mono ?_
    rintro e w' ⟨a, k, rfl, ho, _, hb⟩
    exact ⟨a, k, rfl, own_reads ho, fun b h => (ho.lt b h).1, hb⟩
theorem count_chs (l : By) : decide (1 ≤ count l) = decide ((chs l).length ≠ 0) := by
  unfold count chs
  cases chars l with
  | none => rfl
  | some cs =>
    show decide (1 ≤ ((cs.length : Nat) : Int)) = decide (cs.length ≠ 0)
    congr 1
    exact propext ⟨fun h => by omega, fun h => by omega⟩
theorem isSome_chs {l : By} (h : (chs l).length ≠ 0) : (chars l).isSome = true := by
  unfold chs at h
  cases hc : chars l with
  | none => rw [hc] at h; exact absurd rfl h
  | some cs => rfl
theorem chs_valid (l : By) : ∀ c ∈ chs l, validRune c = true := by
  unfold chs
  cases hc : chars l with
  | none => intro c h; cases h
  | some cs => exact (chars_some hc).1
theorem enc_size (c : Int) (h : validRune c = true) : (Utf8.encode c).size ≤ 4 := by
  have := (enc_len c h).2
  unfold enc at this
  rw [Array.length_toList] at this
  exact this
theorem itemsL_short {raw : ByteArray} {cs : List Int} (hr : raw.size ≤ 1048576) (hc : ∀ c ∈ cs, validRune c = true) : ∀ i ∈ itemsL raw cs, i.r.size ≤ 1048576 ∧ i.o.size ≤ 1048576 := by
  cases cs with
  | nil => intro i hi; cases hi
  | cons c cs =>
    intro i hi
    rcases List.mem_cons.1 hi with rfl | hi
    · exact ⟨hr, by have := enc_size c (hc c (by simp)); show (Utf8.encode c).size ≤ _; omega⟩
    · obtain ⟨d, hd, rfl⟩ := List.mem_map.1 hi
      exact ⟨by show (⟨#[]⟩ : ByteArray).size ≤ _; exact Nat.zero_le _, by have := enc_size d (hc d (by simp [hd])); show (Utf8.encode d).size ≤ _; omega⟩
theorem insB_sh {b : Bf} {l : List It} {p : ByteArray} (h : Sh b) (hl : ∀ i ∈ l, i.r.size ≤ 1048576 ∧ i.o.size ≤ 1048576) (hn : b.is.length + l.length ≤ 1048576) (hp : p.size ≤ 1048576) : Sh (insB { b with p := p } l) := by
  refine ⟨?_, hp, ?_⟩
  · intro i hi
    unfold insB at hi
    simp only [List.mem_append] at hi
    rcases hi with (hi | hi) | hi
    · exact h.1 i (List.mem_of_mem_take hi)
    · exact hl i hi
    · exact h.1 i (List.mem_of_mem_drop hi)
  · unfold insB
    have := take_drop_len b.is b.c.toNat
    simp only [List.length_append]
    omega

set_option maxHeartbeats 8000000 in
theorem put_any (b : Bf) (raw out : ByteArray) (v : Value) (w : World) (hR : BfR w v b) (hsh : Sh b) (hr : raw.size ≤ 1048576) (ho : out.size ≤ 1048576) :
    Calls Try.prog 23 #[v, .string raw, .string out] w (NewBE (putB b raw out) w) := by
  obtain ⟨a, len, cap, rfl, hI⟩ := hR.open
  have HV := Lib.hid (fun s W (hI : ItR W s b.is) => valid_any b s W hI hsh)
  have HI := Lib.hid (fun (W : World) (h : Below w.heap.size w W) => hI.later h (Nat.le_refl _))
  have HRU := Lib.hid (fun W => runes_uni out W (by omega))
  have HF := Lib.hid (fun W => from_any 32 raw W (by omega) (by omega) (by omega))
  have hvp := @val_parts b
  have hlen := hI.len.1
  have hcv := chs_valid (bs out)
  unfold putB
  rw [count_chs]
  have hsc := @isSome_chs (bs out)
  have hcl : (chs (bs out)).length ≤ 1048576 := by
    have h1 := encs_length_ge hcv
    unfold chs at h1 ⊢
    cases hc : chars (bs out) with
    | none => simp
    | some cs =>
      have h2 := chars_some hc
      have h3 := encs_length_ge h2.1
      rw [← h2.2, bs_len] at h3
      simp
      omega
  generalize chs (bs out) = cs at *
  generalize (chars (bs out)).isSome = ok at *
  clear hR hI
  obtain ⟨is, c, p⟩ := b
  simp only at *
  subst hlen
  cases hv : val ⟨is, c, p⟩
  · rw [hv] at HV
    clear hv hvp
    simp only [Bool.false_and, Bool.false_eq_true, if_false]
    go_enter Try.func23, Try.ntmps23
    go_wp2_with (first
      | (go_at_call 42; obtain ⟨W, hW⟩ : ∃ W, (w.alloc (Obj.cells #[.slice a is.length cap, .int .i64 c, .string p] 24)).alloc zeroBuf = W := ⟨_, rfl⟩; rw [hW]; have st0 := St.start hW; clear hW; (with_reducible refine (HRU.out W).mono ?_); rintro e w5 ⟨a5, k5, rfl, hr5, _, hb5⟩; have st5 := st0.later hb5 st0.siz; obtain ⟨g0, g1, g2, g3, s0, s1, s2, s3⟩ := st5.facts; have HI5 := Lib.hid (HI.out w5 st5.bel); have HST5 := Lib.hid st5; have HR5 := Lib.hid hr5; clear st0 st5 hr5 hb5)
      | (go_at_call 32; (with_reducible refine (HV.out _ w5 HI5.out).mono ?_); rintro e w7 ⟨rfl, hb7⟩; have st7 := HST5.out.later hb7 HST5.out.siz; clear g0 g1 g2 g3 s0 s1 s2 s3; obtain ⟨c0, c1, c2, cf, r0, r1, r2, rf⟩ := st7.facts; have HST7 := Lib.hid st7; have HI7 := Lib.hid (HI.out w7 st7.bel); have HR7 := Lib.hid (Kit.Reads.later HR5.out hb7); clear st7)
      | (go_at_call 41; (with_reducible refine (HF.out _).mono ?_); rintro e w8 ⟨rfl, hw8⟩; obtain rfl := hw8.symm))
    obtain ⟨W9, hW9, hld, how, hbw⟩ := HST7.out.fin none 0 0 0 { data := #[] }
    rw [← hW9]
    refine bodyPost_ret (v := .tuple #[.agg #[.slice none 0 0, .int .i64 0, .string { data := #[] }], .int .i64 1]) ?_ rfl ⟨none, 0, 0, rfl, World.ownsRow_nil _ _ _ _, hbw⟩
    rw [results_cell_tmp rfl]
    show ((loadVar 24 ⟨w.heap.size + 1, 0, none⟩).run Try.prog _).andThen _ = _
    rw [hld]
    rfl
  obtain ⟨v1, v2, v3, _, v5, _⟩ := hvp hv
  rw [hv] at HV
  cases hf : fromB 32 (bs raw)
  · rw [hf] at HF
    clear hv hvp hf
    simp only [Bool.and_false, Bool.false_and, Bool.false_eq_true, if_false]
    go_enter Try.func23, Try.ntmps23
    go_wp2_with (first
      | (go_at_call 42; obtain ⟨W, hW⟩ : ∃ W, (w.alloc (Obj.cells #[.slice a is.length cap, .int .i64 c, .string p] 24)).alloc zeroBuf = W := ⟨_, rfl⟩; rw [hW]; have st0 := St.start hW; clear hW; (with_reducible refine (HRU.out W).mono ?_); rintro e w5 ⟨a5, k5, rfl, hr5, _, hb5⟩; have st5 := st0.later hb5 st0.siz; obtain ⟨g0, g1, g2, g3, s0, s1, s2, s3⟩ := st5.facts; have HI5 := Lib.hid (HI.out w5 st5.bel); have HST5 := Lib.hid st5; have HR5 := Lib.hid hr5; clear st0 st5 hr5 hb5)
      | (go_at_call 32; (with_reducible refine (HV.out _ w5 HI5.out).mono ?_); rintro e w7 ⟨rfl, hb7⟩; have st7 := HST5.out.later hb7 HST5.out.siz; clear g0 g1 g2 g3 s0 s1 s2 s3; obtain ⟨c0, c1, c2, cf, r0, r1, r2, rf⟩ := st7.facts; have HST7 := Lib.hid st7; have HI7 := Lib.hid (HI.out w7 st7.bel); have HR7 := Lib.hid (Kit.Reads.later HR5.out hb7); clear st7)
      | (go_at_call 41; (with_reducible refine (HF.out _).mono ?_); rintro e w8 ⟨rfl, hw8⟩; obtain rfl := hw8.symm))
    obtain ⟨W9, hW9, hld, how, hbw⟩ := HST7.out.fin none 0 0 0 { data := #[] }
    rw [← hW9]
    refine bodyPost_ret (v := .tuple #[.agg #[.slice none 0 0, .int .i64 0, .string { data := #[] }], .int .i64 1]) ?_ rfl ⟨none, 0, 0, rfl, World.ownsRow_nil _ _ _ _, hbw⟩
    rw [results_cell_tmp rfl]
    show ((loadVar 24 ⟨w.heap.size + 1, 0, none⟩).run Try.prog _).andThen _ = _
    rw [hld]
    rfl
  rw [hf] at HF
  by_cases hn : cs.length = 0
  · have e0 : cs = [] := List.eq_nil_of_length_eq_zero hn
    subst e0
    clear hv hvp hf
    simp only [List.length_nil, ne_eq, not_true_eq_false, decide_false, Bool.and_false, Bool.false_eq_true, if_false]
    go_enter Try.func23, Try.ntmps23
    go_wp2_with (first
      | (go_at_call 42; obtain ⟨W, hW⟩ : ∃ W, (w.alloc (Obj.cells #[.slice a is.length cap, .int .i64 c, .string p] 24)).alloc zeroBuf = W := ⟨_, rfl⟩; rw [hW]; have st0 := St.start hW; clear hW; (with_reducible refine (HRU.out W).mono ?_); rintro e w5 ⟨a5, k5, rfl, hr5, _, hb5⟩; have st5 := st0.later hb5 st0.siz; obtain ⟨g0, g1, g2, g3, s0, s1, s2, s3⟩ := st5.facts; have HI5 := Lib.hid (HI.out w5 st5.bel); have HST5 := Lib.hid st5; have HR5 := Lib.hid hr5; clear st0 st5 hr5 hb5)
      | (go_at_call 32; (with_reducible refine (HV.out _ w5 HI5.out).mono ?_); rintro e w7 ⟨rfl, hb7⟩; have st7 := HST5.out.later hb7 HST5.out.siz; clear g0 g1 g2 g3 s0 s1 s2 s3; obtain ⟨c0, c1, c2, cf, r0, r1, r2, rf⟩ := st7.facts; have HST7 := Lib.hid st7; have HI7 := Lib.hid (HI.out w7 st7.bel); have HR7 := Lib.hid (Kit.Reads.later HR5.out hb7); clear st7)
      | (go_at_call 41; (with_reducible refine (HF.out _).mono ?_); rintro e w8 ⟨rfl, hw8⟩; obtain rfl := hw8.symm))
    obtain ⟨W9, hW9, hld, how, hbw⟩ := HST7.out.fin none 0 0 0 { data := #[] }
    rw [← hW9]
    refine bodyPost_ret (v := .tuple #[.agg #[.slice none 0 0, .int .i64 0, .string { data := #[] }], .int .i64 1]) ?_ rfl ⟨none, 0, 0, rfl, World.ownsRow_nil _ _ _ _, hbw⟩
    rw [results_cell_tmp rfl]
    show ((loadVar 24 ⟨w.heap.size + 1, 0, none⟩).run Try.prog _).andThen _ = _
    rw [hld]
    rfl
  have hok := hsc hn
  subst hok
  rw [decide_eq_true hn]
  have hn2 : ¬ (cs.length : Int) = 0 := by omega
  have hn3 : ((cs.length : Int) == 0) = false := by simpa using hn
  by_cases hp : p.size = 0
  rotate_left
  · have he := empty_str p
    rw [decide_eq_false hp] at he
    clear hv hvp hf
    simp only [Bool.and_true, if_true, ne_eq, hp, not_false_eq_true]
    go_enter Try.func23, Try.ntmps23
    go_wp2_with (first
      | (go_at_call 42; obtain ⟨W, hW⟩ : ∃ W, (w.alloc (Obj.cells #[.slice a is.length cap, .int .i64 c, .string p] 24)).alloc zeroBuf = W := ⟨_, rfl⟩; rw [hW]; have st0 := St.start hW; clear hW; (with_reducible refine (HRU.out W).mono ?_); rintro e w5 ⟨a5, k5, rfl, hr5, _, hb5⟩; have st5 := st0.later hb5 st0.siz; obtain ⟨g0, g1, g2, g3, s0, s1, s2, s3⟩ := st5.facts; have HI5 := Lib.hid (HI.out w5 st5.bel); have HST5 := Lib.hid st5; have HR5 := Lib.hid hr5; clear st0 st5 hr5 hb5)
      | (go_at_call 32; (with_reducible refine (HV.out _ w5 HI5.out).mono ?_); rintro e w7 ⟨rfl, hb7⟩; have st7 := HST5.out.later hb7 HST5.out.siz; clear g0 g1 g2 g3 s0 s1 s2 s3; obtain ⟨c0, c1, c2, cf, r0, r1, r2, rf⟩ := st7.facts; have HST7 := Lib.hid st7; have HI7 := Lib.hid (HI.out w7 st7.bel); have HR7 := Lib.hid (Kit.Reads.later HR5.out hb7); clear st7)
      | (go_at_call 41; (with_reducible refine (HF.out _).mono ?_); rintro e w8 ⟨rfl, hw8⟩; obtain rfl := hw8.symm))
    obtain ⟨W9, hW9, hld, how, hbw⟩ := HST7.out.fin none 0 0 0 { data := #[] }
    rw [← hW9]
    refine bodyPost_ret (v := .tuple #[.agg #[.slice none 0 0, .int .i64 0, .string { data := #[] }], .int .i64 8]) ?_ rfl ⟨none, 0, 0, rfl, World.ownsRow_nil _ _ _ _, hbw⟩
    rw [results_cell_tmp rfl]
    show ((loadVar 24 ⟨w.heap.size + 1, 0, none⟩).run Try.prog _).andThen _ = _
    rw [hld]
    rfl
  have he := empty_str p
  rw [decide_eq_true hp] at he
  by_cases hl : is.length + cs.length > 64
  · clear hv hvp hf
    simp only [Bool.and_true, if_true, ne_eq, hp, not_true_eq_false, if_false, if_pos hl]
    go_enter Try.func23, Try.ntmps23
    go_wp2_with (first
      | (go_at_call 42; obtain ⟨W, hW⟩ : ∃ W, (w.alloc (Obj.cells #[.slice a is.length cap, .int .i64 c, .string p] 24)).alloc zeroBuf = W := ⟨_, rfl⟩; rw [hW]; have st0 := St.start hW; clear hW; (with_reducible refine (HRU.out W).mono ?_); rintro e w5 ⟨a5, k5, rfl, hr5, _, hb5⟩; have st5 := st0.later hb5 st0.siz; obtain ⟨g0, g1, g2, g3, s0, s1, s2, s3⟩ := st5.facts; have HI5 := Lib.hid (HI.out w5 st5.bel); have HST5 := Lib.hid st5; have HR5 := Lib.hid hr5; clear st0 st5 hr5 hb5)
      | (go_at_call 32; (with_reducible refine (HV.out _ w5 HI5.out).mono ?_); rintro e w7 ⟨rfl, hb7⟩; have st7 := HST5.out.later hb7 HST5.out.siz; clear g0 g1 g2 g3 s0 s1 s2 s3; obtain ⟨c0, c1, c2, cf, r0, r1, r2, rf⟩ := st7.facts; have HST7 := Lib.hid st7; have HI7 := Lib.hid (HI.out w7 st7.bel); have HR7 := Lib.hid (Kit.Reads.later HR5.out hb7); clear st7)
      | (go_at_call 41; (with_reducible refine (HF.out _).mono ?_); rintro e w8 ⟨rfl, hw8⟩; obtain rfl := hw8.symm))
    obtain ⟨W9, hW9, hld, how, hbw⟩ := HST7.out.fin none 0 0 0 { data := #[] }
    rw [← hW9]
    refine bodyPost_ret (v := .tuple #[.agg #[.slice none 0 0, .int .i64 0, .string { data := #[] }], .int .i64 7]) ?_ rfl ⟨none, 0, 0, rfl, World.ownsRow_nil _ _ _ _, hbw⟩
    rw [results_cell_tmp rfl]
    show ((loadVar 24 ⟨w.heap.size + 1, 0, none⟩).run Try.prog _).andThen _ = _
    rw [hld]
    rfl
  clear hv hvp hf
  simp only [Bool.and_true, if_true, ne_eq, hp, not_true_eq_false, if_false, if_neg hl]
  have HIT := Lib.hid (fun v W (h : Reads W v (ints cs)) => items_any raw cs v W h (by omega))
  have HIN := Lib.hid (fun s v W (h1 : ItR W s is) (h2 : ItR W v (itemsL raw cs)) => insert_new ⟨is, c, p⟩ (itemsL raw cs) s v W h1 h2 ⟨v2, v3⟩ (insB_sh (b := ⟨is, c, p⟩) (p := p) hsh (itemsL_short hr hcv) (by rw [itemsL_len]; show is.length + _ ≤ _; omega) hsh.2.1))
  simp only at HIN
  generalize insB ⟨is, c, p⟩ (itemsL raw cs) = R at HIN ⊢
  generalize itemsL raw cs = L at HIN HIT
  clear hsh hcv hsc
  go_enter Try.func23, Try.ntmps23
  go_wp2_with (first
    | (go_at_call 42; obtain ⟨W, hW⟩ : ∃ W, (w.alloc (Obj.cells #[.slice a is.length cap, .int .i64 c, .string p] 24)).alloc zeroBuf = W := ⟨_, rfl⟩; rw [hW]; have st0 := St.start hW; clear hW; (with_reducible refine (HRU.out W).mono ?_); rintro e w5 ⟨a5, k5, rfl, hr5, _, hb5⟩; have st5 := st0.later hb5 st0.siz; obtain ⟨g0, g1, g2, g3, s0, s1, s2, s3⟩ := st5.facts; have HI5 := Lib.hid (HI.out w5 st5.bel); have HST5 := Lib.hid st5; have HR5 := Lib.hid hr5; clear st0 st5 hr5 hb5)
    | (go_at_call 32; (with_reducible refine (HV.out _ w5 HI5.out).mono ?_); rintro e w7 ⟨rfl, hb7⟩; have st7 := HST5.out.later hb7 HST5.out.siz; clear g0 g1 g2 g3 s0 s1 s2 s3; obtain ⟨c0, c1, c2, cf, r0, r1, r2, rf⟩ := st7.facts; have HST7 := Lib.hid st7; have HI7 := Lib.hid (HI.out w7 st7.bel); have HR7 := Lib.hid (Kit.Reads.later HR5.out hb7); clear st7)
    | (go_at_call 41; (with_reducible refine (HF.out _).mono ?_); rintro e w8 ⟨rfl, hw8⟩; obtain rfl := hw8.symm))
  have hrd : Reads w7.drew (.slice a5 cs.length k5) (ints cs) := HR7.out
  have HRD := Lib.hid hrd
  have hbel7 := HST7.out.bel
  have hsiz7 := HST7.out.siz
  have rf0 := rf 0
  have rf1 := rf 1
  have rf2 := rf 2
  clear hrd
  go_region_held3 (fun w' => w'.cell? ⟨w.heap.size, 0, none⟩ = some (.slice a is.length cap) ∧ w'.cell? ⟨w.heap.size, 1, none⟩ = some (.int .i64 c) ∧ w'.cell? ⟨w.heap.size, 2, none⟩ = some (.string p) ∧ w'.cell? ⟨w.heap.size + 1, 0, none⟩ = some (cellOr w' ⟨w.heap.size + 1, 0, none⟩) ∧ w'.cell? ⟨w.heap.size + 1, 1, none⟩ = some (cellOr w' ⟨w.heap.size + 1, 1, none⟩) ∧ w'.cell? ⟨w.heap.size + 1, 2, none⟩ = some (cellOr w' ⟨w.heap.size + 1, 2, none⟩) ∧ w'.frozen? ⟨w.heap.size + 1, 0, none⟩ = false ∧ w'.frozen? ⟨w.heap.size + 1, 1, none⟩ = false ∧ w'.frozen? ⟨w.heap.size + 1, 2, none⟩ = false ∧ Below w.heap.size w w' ∧ w.heap.size + 2 ≤ w'.heap.size)
    (first
      | exact ⟨c0, c1, c2, cellOr_of (by rw [World.cell?_drew, r0]; rfl), cellOr_of (by rw [World.cell?_drew, r1]; rfl), cellOr_of (by rw [World.cell?_drew, r2]; rfl), rf0, rf1, rf2, hbel7.drew, hsiz7⟩
      | (go_split_ands
         refine ⟨?_, ?_, ?_, ?_, ?_, ?_, ?_, ?_, ?_, ?_, ?_⟩
         · (rw [hb.cell (by simp; omega)]; assumption)
         · (rw [hb.cell (by simp; omega)]; assumption)
         · (rw [hb.cell (by simp; omega)]; assumption)
         · exact cellOr_later (by assumption) hb (by simp; omega)
         · exact cellOr_later (by assumption) hb (by simp; omega)
         · exact cellOr_later (by assumption) hb (by simp; omega)
         · (rw [hb.frozen (by simp; omega)]; assumption)
         · (rw [hb.frozen (by simp; omega)]; assumption)
         · (rw [hb.frozen (by simp; omega)]; assumption)
         · exact Below.trans (by assumption) (hb.mono (by omega))
         · exact Nat.le_trans (by assumption) hb.size)
      | (go_split_ands
         refine ⟨?_, ?_, ?_, ?_, ?_, ?_, ?_, ?_, ?_, ?_, ?_⟩
         · simp [*, World.cell?_setCell_far]
         · simp [*, World.cell?_setCell_far]
         · simp [*, World.cell?_setCell_far]
         · exact cellOr_of (isSome_set (isSome_set (isSome_set (isSome_of (by assumption)))))
         · exact cellOr_of (isSome_set (isSome_set (isSome_set (isSome_of (by assumption)))))
         · exact cellOr_of (isSome_set (isSome_set (isSome_set (isSome_of (by assumption)))))
         · simp [*]
         · simp [*]
         · simp [*]
         · exact Below.setCell (Below.setCell (Below.setCell (by assumption) (by simp) _) (by simp) _) (by simp) _
         · simp [*]))
    (first
      | (go_at_call 45; (with_reducible refine (HIT.out _ _ HRD.out).mono ?_); rintro e w9 ⟨v9, rfl, ho9, hb⟩; have hb9 := hb; have HL9 := Lib.hid (items_of_own ho9).1; obtain ⟨a9, m9, k9, rfl⟩ := slice_of_own ho9; clear ho9)
      | (go_at_call 44; go_split_ands; (with_reducible refine (HIN.out _ _ _ (HI.out _ (by assumption)) HL9.out).mono ?_); rintro e w10 ⟨a10, m10, k10, rfl, ho10, hb⟩; have hb10 := hb))
  all_goals go_wp2
  all_goals (try simp only [Exit.inBlock, Exit.then])
  all_goals
    have st9 := HST7.out.later ((Below.refl _ _).drew.trans hb9) hsiz7
    have st10 := st9.later hb10 st9.siz
    obtain ⟨W9, hW9, hld, how, hbw⟩ := st10.fin a10 m10 k10 R.c R.p
    rw [← hW9]
    refine bodyPost_ret (v := .tuple #[.agg #[.slice a10 m10 k10, .int .i64 R.c, .string R.p], .int .i64 0]) ?_ rfl ⟨a10, m10, k10, rfl, how _ _ _ st9.siz ho10, hbw⟩
    rw [results_cell_tmp rfl]
    show ((loadVar 24 ⟨w.heap.size + 1, 0, none⟩).run Try.prog _).andThen _ = _
    rw [hld]
    rfl

end Go.Proofs.Ytlmbbpppfghcbaa.Cmp

set_option linter.unusedVariables false
set_option linter.unusedSimpArgs false
set_option maxRecDepth 100000
namespace Go.Proofs.Ytlmbbpppfghcbaa.Aut
open Go Go.RowKit Go.Proofs.Ytlmbbpppfghcbaa.Kit Go.Proofs.Ytlmbbpppfghcbaa.Utf Go.Proofs.Ytlmbbpppfghcbaa.Rom

theorem ruleX_is {rs : List Rule} {s : ByteArray} (h0 : 0 < s.size) : bs (ruleX rs s s.size).o = appO rs (bs s) ∧ bs (ruleX rs s s.size).n ++ (bs s).drop (ruleX rs s s.size).k.size = appK rs (bs s) ∧ (ruleX rs s s.size).k.size ≤ s.size := by
  unfold ruleX appO appK best
  rw [bs_len]
  cases h : bestN rs (bs s) s.size with
  | some r =>
    have := best_some (rs := rs) (s := bs s) (r := r) (by unfold best; rw [bs_len]; exact h)
    rw [bs_len] at this
    exact ⟨rfl, rfl, this.2.2.1⟩
  | none =>
    refine ⟨?_, ?_, ?_⟩
    · show bs (s.extract 0 1) = _
      rw [ext_take, bs_ba]
    · show bs ⟨#[]⟩ ++ (bs s).drop (s.extract 0 1).size = _
      rw [show (s.extract 0 1).size = 1 by rw [ByteArray.size_extract]; omega]
      rfl
    · show (s.extract 0 1).size ≤ s.size
      rw [ByteArray.size_extract]; omega

/-- What feed does to keys of n bytes at most. -/
def FeedC (rs : List Rule) (n : Nat) : Prop := ∀ (B a b : Nat) (p ks : ByteArray) (acc : By) (w : World), AutoAt B w a rs → B ≤ b → b + 1 ≤ w.heap.size → Lib.IsBuilderF 119 5 b b (Lib.byteCells acc) w → p.size + ks.size ≤ n →
  acc.length + 16 * (p.size + ks.size) ≤ 35184372088832 →
  Calls Try.prog 68 #[.pointer (some ⟨a, 0, none⟩), .pointer (some ⟨b, 0, none⟩), .string p, .string ks] w fun e w' => ∃ o q : By, e = .returned (.string (ba q)) ∧ Feeds rs (bs p) (bs ks) o q ∧ Lib.IsBuilderF 119 5 b b (Lib.byteCells (acc ++ o)) w' ∧ Below b w w' ∧ Lib.OthersKept 5 (some b) w w' ∧ w.heap.size ≤ w'.heap.size
/-- What apply does to keys of n bytes at most. -/
def ApplyC (rs : List Rule) (n : Nat) : Prop := ∀ (B a b : Nat) (s : ByteArray) (acc : By) (w : World), AutoAt B w a rs → B ≤ b → b + 1 ≤ w.heap.size → Lib.IsBuilderF 119 5 b b (Lib.byteCells acc) w → 0 < s.size → s.size ≤ n →
  acc.length + 16 * s.size ≤ 35184372088832 →
  Calls Try.prog 74 #[.pointer (some ⟨a, 0, none⟩), .pointer (some ⟨b, 0, none⟩), .string s] w fun e w' => ∃ o q : By, e = .returned (.string (ba q)) ∧ Feeds rs [] (appK rs (bs s)) o q ∧ Lib.IsBuilderF 119 5 b b (Lib.byteCells (acc ++ (appO rs (bs s) ++ o))) w' ∧ Below b w w' ∧ Lib.OthersKept 5 (some b) w w' ∧ w.heap.size ≤ w'.heap.size

set_option maxHeartbeats 4000000 in
theorem apply_of {rs : List Rule} (hok : okL rs = true) (n : Nat) (HF : FeedC rs n) : ApplyC rs (n + 1) := by
  intro B a b s acc w hA hB hbs hBl h0 hs hacc
  obtain ⟨r1, r2, r3⟩ := ruleX_is (rs := rs) h0
  have HAW := Lib.hid (hA.mono hB)
  have HRL := Lib.hid (rule_any B a rs s w hA (by omega) h0 (by omega))
  obtain ⟨R, hR⟩ : ∃ R, ruleX rs s s.size = R := ⟨_, rfl⟩
  rw [hR] at r1 r2 r3 HRL
  have hro : R.o.size ≤ 16 := by rw [← bs_len, r1]; exact appO_len hok _
  have hkn : R.n.size + (s.size - R.k.size) + 1 ≤ s.size := by
    have h1 := congrArg List.length r2
    have h2 := appK_len hok (rs := rs) (s := bs s) (fun e => by have := congrArg List.length e; rw [bs_len, List.length_nil] at this; omega)
    rw [List.length_append, bs_len, List.length_drop, bs_len] at h1
    rw [bs_len] at h2
    omega
  have HBL := Lib.hid hBl
  have R1 := Lib.hid r1
  have R2 := Lib.hid r2
  unfold FeedC at HF
  have HFC := Lib.hid HF
  clear hA hR hBl r1 r2 HF
  have HW : Hid (∀ W : World, Below w.heap.size w W → Lib.IsBuilderF 119 5 b b (Lib.byteCells acc) W) := Lib.hid fun W h => builder_kept2 HBL.out (fun k _ hk => h.block k hk)
  clear HBL
  go_enter Try.func74, Try.ntmps74
  go_wp2_with (first
    | (go_at_call 97; (with_reducible refine HRL.out.mono ?_); rintro e w1 ⟨rfl, hb1⟩; unfold ragg; have hw1 := hb1.size; have hB1 := HW.out _ (hb1.alloc hw1 (Obj.cells #[.string R.k, .string R.o, .string R.n] 80 (0, 0))); have hbox := heap_alloc_new w1 (Obj.cells #[.string R.k, .string R.o, .string R.n] 80 (0, 0)))
    | (go_at_call 63; (with_reducible refine (Try.writeString b b (Lib.byteCells acc) _ _ hB1 (by rw [Lib.byteCells_length]; omega) (by simp; omega)).mono ?_); rintro e w2 ⟨rfl, hA2, hb2, ho2⟩))
  have hs2 : b + 1 ≤ w2.heap.size := by have := hb2.size; simp at this; omega
  have hw2 : w1.heap.size + 1 ≤ w2.heap.size := by have := hb2.size; simp at this; omega
  obtain ⟨g, hg⟩ : ∃ g, w1.heap.size = g := ⟨_, rfl⟩
  rw [hg] at hbox hw2 ⊢
  have hbx2 : w2.heap[g]? = some (Obj.cells #[.string R.k, .string R.o, .string R.n] 80 (0, 0)) := ho2 g _ hbox (by simp; omega) (fun c fz e => by cases e)
  have ho2w : Lib.OthersKept 5 (some b) w w2 := fun k o hk hkb hko => ho2 k o (((hb1.alloc hw1 _).block k (Array.getElem?_eq_some_iff.1 hk).1).trans hk) hkb hko
  have hb2w : Below b w w2 := ((hb1.alloc hw1 _).mono (by omega)).trans hb2
  have hA2' : Lib.IsBuilderF 119 5 b b (Lib.byteCells (acc ++ appO rs (bs s))) w2.drew := by
    rw [byteCells_app, ← R1.out]; exact isB hA2
  have hAu2 : AutoAt b w2.drew a rs := HAW.out.later hb2w.drew (Nat.le_refl _)
  have c0 : w2.cell? ⟨g, 0, none⟩ = some (.string R.k) := by rw [cell_of_row w2 _ 0 _ _ _ hbx2]; rfl
  have c2 : w2.cell? ⟨g, 2, none⟩ = some (.string R.n) := by rw [cell_of_row w2 _ 2 _ _ _ hbx2]; rfl
  have hl2 : (acc ++ appO rs (bs s)).length + 16 * (R.n.size + (s.size - R.k.size)) ≤ 35184372088832 := by
    have := appO_len hok (rs := rs) (bs s)
    rw [List.length_append]; omega
  have hgb : g ≠ b := by omega
  have HS2 := Lib.hid (show w.heap.size ≤ w2.heap.size from by omega)
  have HL2 := Lib.hid hl2
  have HA2 := Lib.hid hA2'
  have HAu := Lib.hid hAu2
  clear hA2 hA2' hAu2 hl2 hbox hb1 hb2 ho2 hB1 hg hw1
  have hbx2' : w2.drew.heap[g]? = some (Obj.cells #[.string R.k, .string R.o, .string R.n] 80 (0, 0)) := hbx2
  have n0 : (0 : Int) ≤ R.k.size := by omega
  have n1 : (R.k.size : Int) ≤ s.size := by omega
  have hex : (s.extract R.k.size s.size).size = s.size - R.k.size := by rw [ByteArray.size_extract]; omega
  have HF1 := Lib.hid (HFC.out b a b ⟨#[]⟩ R.n (acc ++ appO rs (bs s)) w2.drew HAu.out (Nat.le_refl _) (by show _ ≤ w2.heap.size; omega) HA2.out (by show 0 + R.n.size ≤ n; omega) (by have := HL2.out; show _ + 16 * (0 + R.n.size) ≤ _; omega))
  have HN : Hid (∀ (w3 : World) (o1 q1 : By), Feeds rs (bs ⟨#[]⟩) (bs R.n) o1 q1 → Lib.IsBuilderF 119 5 b b (Lib.byteCells ((acc ++ appO rs (bs s)) ++ o1)) w3 → Below b w2.drew w3 → Lib.OthersKept 5 (some b) w2.drew w3 → w2.drew.heap.size ≤ w3.heap.size →
      w3.cell? ⟨g, 0, none⟩ = some (.string R.k) ∧ Hid (Calls Try.prog 68 #[.pointer (some ⟨a, 0, none⟩), .pointer (some ⟨b, 0, none⟩), .string (ba q1), .string (s.extract R.k.size s.size)] w3 fun e w' => ∃ o q : By, e = .returned (.string (ba q)) ∧ Feeds rs (bs (ba q1)) (bs (s.extract R.k.size s.size)) o q ∧ Lib.IsBuilderF 119 5 b b (Lib.byteCells (((acc ++ appO rs (bs s)) ++ o1) ++ o)) w' ∧ Below b w3 w' ∧ Lib.OthersKept 5 (some b) w3 w' ∧ w3.heap.size ≤ w'.heap.size)) := Lib.hid fun w3 o1 q1 hf1 hBl3 hb3 ho3 hs3 => by
    have hbx3 := ho3 g _ hbx2' (by simp; omega) (fun c fz e => by cases e)
    have hq1 := hf1.len hok
    rw [bs_len, bs_len, show (⟨#[]⟩ : ByteArray).size = 0 from rfl] at hq1
    have hL := HL2.out
    have hs3' : w2.heap.size ≤ w3.heap.size := hs3
    refine ⟨by rw [cell_of_row w3 _ 0 _ _ _ hbx3]; rfl, Lib.hid (HFC.out b a b (ba q1) (s.extract R.k.size s.size) ((acc ++ appO rs (bs s)) ++ o1) w3 (HAu.out.later hb3 (Nat.le_refl _)) (Nat.le_refl _) (by omega) hBl3 (by rw [ba_size, hex]; omega) (by rw [ba_size, hex, List.length_append]; omega))⟩
  clear HFC HAu HA2 HL2 hbx2'
  go_region_law (first
    | (go_simp; go_at_call 68; (with_reducible refine HF1.out.mono ?_); rintro e w3 ⟨o1, q1, rfl, hf1, hBl3, hb3, ho3, hs3⟩; obtain ⟨c03, HF2⟩ := HN.out w3 o1 q1 hf1 hBl3 hb3 ho3 hs3; clear HF1)
    | (go_simp; go_at_call 68; (with_reducible refine HF2.out.mono ?_); rintro e w4 ⟨o2, q2, rfl, hf2, hBl4, hb4, ho4, hs4⟩))
  all_goals go_wp2
  all_goals go_ret
  all_goals
    have hf2' := hf2
    rw [bs_ba, ext_drop, bs_ba] at hf2'
    have hf := Feeds.comp (rs := rs) (p := []) hf1 hf2'
    rw [R2.out] at hf
    refine ⟨o1 ++ o2, q2, rfl, hf, ?_, (hb2w.trans ⟨hb3.os, hb3.tape, hb3.output, hb3.size, hb3.block⟩).trans hb4, (ho2w.trans ho3).trans ho4, ?_⟩
    · simpa only [List.append_assoc] using hBl4
    · have e1 : w2.drew.heap.size = w2.heap.size := rfl
      have := HS2.out
      omega

theorem one_more (q : By) (ks : ByteArray) (k : Nat) (h : k < ks.size) : ba q ++ ks.extract k (k + 1) = ba (q ++ [bt8 ks k]) := by
  apply ba_ext
  have e : (ks.extract k (k + 1)).data.toList = [bt8 ks k] := by
    have h1 := bs_at ks k h
    have h2 : (ks.extract k (k + 1)).data.toList = ((bs ks).take (k + 1)).drop k := by
      simp [bs, ByteArray.data_extract, List.extract_eq_take_drop, List.drop_take]
    rw [h2, h1, List.drop_left' (by rw [List.length_take, bs_len]; omega)]
  rw [ByteArray.data_append, Array.toList_append, e]
  simp [ba]

set_option maxHeartbeats 4000000 in
theorem feed_of {rs : List Rule} (hok : okL rs = true) (n : Nat) (HA : ApplyC rs n) : FeedC rs n := by
  intro B a b p ks acc w hA hB hbs hBl hn hacc
  unfold ApplyC at HA
  have HAU := Lib.hid (hA.mono hB)
  have HAP := Lib.hid HA
  clear hA HA
  go_enter Try.func68, Try.ntmps68
  go_wp2
  go_loopw [2, 12] (fun v i wr => ∃ (k : Nat) (o q : By), i = .int .i64 k ∧ v = .string (ba q) ∧ k ≤ ks.size ∧ Hid (Feeds rs (bs p) ((bs ks).take k) o q) ∧ Lib.IsBuilderF 119 5 b b (Lib.byteCells (acc ++ o)) wr ∧ Below b w wr ∧ Lib.OthersKept 5 (some b) w wr ∧ w.heap.size ≤ wr.heap.size) (fun _ i _ => ks.size - (intOf i).toNat)
  case atStart => exact ⟨0, [], bs p, rfl, by rw [ba_bs], Nat.zero_le _, Lib.hid (.nil _), by rw [List.append_nil]; exact hBl, Below.refl _ _, Lib.OthersKept.refl _ _ _, Nat.le_refl _⟩
  case round =>
    obtain ⟨k, o, q, rfl, rfl, hk, hf, hBk, hbw, how, hws⟩ := hrel
    by_cases hkl : k < ks.size
    · have hlen := hf.out.len hok
      rw [bs_len, List.length_take, bs_len] at hlen
      have hqs : (ba q).size = q.length := ba_size q
      have hes : (ks.extract k (k + 1)).size = 1 := by rw [ByteArray.size_extract]; omega
      have hS := one_more q ks k hkl
      have hT := bs_at ks k hkl
      generalize bt8 ks k = c at hS hT
      have hSz : (ba q ++ ks.extract k (k + 1)).size = q.length + 1 := by rw [hS, ba_size]; simp
      have hSb : bs (ba q ++ ks.extract k (k + 1)) = q ++ [c] := by rw [hS, bs_ba]
      have hAw := HAU.out.later hbw (Nat.le_refl _)
      obtain ⟨br, bl, ca0, ca1, haB, hq1, hq2⟩ := hAw.use
      have hq := hq2.out (ba q ++ ks.extract k (k + 1)) (by unfold maxLen; omega) (by omega) wr (Below.refl _ _)
      obtain ⟨lg, hlg⟩ : ∃ lg, longL rs (ba q ++ ks.extract k (k + 1)) = lg := ⟨_, rfl⟩
      rw [hlg] at hq
      have hlg2 : longL rs (ba (q ++ [c])) = lg := by rw [← hS]; exact hlg
      have k0 : (0 : Int) ≤ k := by omega
      have k1 : (k : Int) + 1 ≤ ks.size := by omega
      have k2 : ¬ 9223372036854775807 < (ba q).size + (ks.extract k (k + 1)).size := by omega
      have HS := Lib.hid hS
      have HT := Lib.hid hT
      have HSb := Lib.hid hSb
      have HLG := Lib.hid hlg2
      have HAW := Lib.hid hAw
      have HBK := Lib.hid hBk
      have HLN := Lib.hid hlen
      have HSZ := Lib.hid hSz
      clear hS hT hSb hlg hlg2 hq1 hq2 ca0 hAw hBk hlen hSz
      cases lg
      · have HC := Lib.hid (HAP.out b a b (ba q ++ ks.extract k (k + 1)) (acc ++ o) wr HAW.out (Nat.le_refl _) (by omega) HBK.out (by have := HSZ.out; omega) (by have := HSZ.out; have := HLN.out; omega) (by have := HSZ.out; have := HLN.out; rw [List.length_append]; omega))
        clear HAW HSZ
        go_wp2_with (go_at_call 74; (with_reducible refine HC.out.mono ?_); rintro e w4 ⟨o2, q2, rfl, hf2, hBl4, hb4, ho4, hs4⟩)
        go_roundw
        case rel =>
          refine ⟨k + 1, o ++ (appO rs (q ++ [c]) ++ o2), q2, by go_num, rfl, by omega, ?_, ?_, hbw.trans hb4, how.trans ho4, Nat.le_trans hws hs4⟩
          · refine Lib.hid ?_
            rw [HT.out]
            refine hf.out.comp ?_
            rw [HSb.out] at hf2
            exact .app HLG.out (by rw [List.append_nil]; exact hf2)
          · rw [HSb.out] at hBl4
            simpa only [List.append_assoc] using hBl4
        case measure => simp [intOf]; omega
      · clear HAW HSZ
        go_wp2
        go_roundw
        case rel =>
          refine ⟨k + 1, o, q ++ [c], by go_num, by rw [HS.out], by omega, ?_, HBK.out, hbw, how, hws⟩
          refine Lib.hid ?_
          rw [HT.out]
          have := hf.out.comp (Feeds.wait (rs := rs) (p := q) (k := c) (ks := []) HLG.out (.nil _))
          rwa [List.append_nil] at this
        case measure => simp [intOf]; omega
    · have e1 : (bs ks).take k = bs ks := List.take_of_length_le (by rw [bs_len]; omega)
      rw [e1] at hf
      clear e1
      go_wp2
      go_ret
      exact ⟨o, q, rfl, hf.out, hBk, hbw, how, hws⟩

theorem feed_all {rs : List Rule} (hok : okL rs = true) : ∀ n, FeedC rs n ∧ ApplyC rs (n + 1)
  | 0 => by
    have h0 : ApplyC rs 0 := fun B a b s acc w hA hB hbs hBl h0 hs => by omega
    have h1 := feed_of hok 0 h0
    exact ⟨h1, apply_of hok 0 h1⟩
  | n + 1 => by
    have h1 := feed_of hok (n + 1) (feed_all hok n).2
    exact ⟨h1, apply_of hok (n + 1) h1⟩

end Go.Proofs.Ytlmbbpppfghcbaa.Aut

set_option linter.unusedVariables false
set_option linter.unusedSimpArgs false
set_option maxRecDepth 100000
namespace Go.Proofs.Ytlmbbpppfghcbaa.Aut
open Go Go.RowKit Go.Proofs.Ytlmbbpppfghcbaa.Kit Go.Proofs.Ytlmbbpppfghcbaa.Utf Go.Proofs.Ytlmbbpppfghcbaa.Rom

theorem bs_emp : bs ⟨#[]⟩ = [] := rfl
theorem feed_any {rs : List Rule} (hok : okL rs = true) (B a b : Nat) (p ks : ByteArray) (acc : By) (w : World) (hA : AutoAt B w a rs) (hB : B ≤ b) (hb : b + 1 ≤ w.heap.size) (hBl : Lib.IsBuilderF 119 5 b b (Lib.byteCells acc) w) (hs : acc.length + 16 * (p.size + ks.size) ≤ 35184372088832) :
    Calls Try.prog 68 #[.pointer (some ⟨a, 0, none⟩), .pointer (some ⟨b, 0, none⟩), .string p, .string ks] w fun e w' => e = .returned (.string (ba (fd rs (bs p) (bs ks)).2)) ∧ Lib.IsBuilderF 119 5 b b (Lib.byteCells (acc ++ (fd rs (bs p) (bs ks)).1)) w' ∧ Below b w w' ∧ w.heap.size ≤ w'.heap.size := by
  refine ((feed_all hok (p.size + ks.size)).1 B a b p ks acc w hA hB hb hBl (Nat.le_refl _) hs).mono ?_
  rintro e w' ⟨o, q, rfl, hf, hBl, hb, _, hsz⟩
  rw [hf.fd]
  exact ⟨rfl, hBl, hb, hsz⟩

set_option maxHeartbeats 2000000 in
theorem write_any {rs : List Rule} (hok : okL rs = true) (B a : Nat) (p ks : ByteArray) (w : World) (hA : AutoAt B w a rs) (hB : B ≤ w.heap.size) (hs : p.size + ks.size ≤ 1099511627776) :
    Calls Try.prog 40 #[.pointer (some ⟨a, 0, none⟩), .string p, .string ks] w fun e w' => e = .returned (.tuple #[.string (ba (fd rs (bs p) (keysOf (bs ks))).1), .string (ba (fd rs (bs p) (keysOf (bs ks))).2)]) ∧ Below w.heap.size w w' := by
  have hfs := (fd_spec hok (bs p) (keysOf (bs ks))).len hok
  have hkl := keysOf_le (bs ks)
  rw [bs_len] at hfs hkl
  have hk2 : (ba (keysOf (bs ks))).size = (keysOf (bs ks)).length := ba_size _
  have hF : Hid (∀ (w1 : World), Below w.heap.size (w.alloc (.cells #[.pointer none, .slice none 0 0] 119)) w1 → Lib.IsBuilderF 119 5 w.heap.size w.heap.size [] w1 → w.heap.size + 1 ≤ w1.heap.size → Calls Try.prog 68 #[.pointer (some ⟨a, 0, none⟩), .pointer (some ⟨w.heap.size, 0, none⟩), .string p, .string (ba (keysOf (bs ks)))] w1 fun e w' => e = .returned (.string (ba (fd rs (bs p) (keysOf (bs ks))).2)) ∧ Lib.IsBuilderF 119 5 w.heap.size w.heap.size (Lib.byteCells (fd rs (bs p) (keysOf (bs ks))).1) w' ∧ Below w.heap.size w1 w' ∧ w1.heap.size ≤ w'.heap.size) := Lib.hid fun w1 h1 h2 h3 => by
    have := feed_any hok w.heap.size a w.heap.size p (ba (keysOf (bs ks))) [] w1 ((hA.mono hB).later (((Below.refl _ _).alloc (Nat.le_refl _) _).trans h1) (Nat.le_refl _)) (Nat.le_refl _) h3 h2 (by rw [hk2, List.length_nil]; omega)
    rw [bs_ba] at this
    simpa only [List.nil_append] using this
  have HO := Lib.hid (fun W => only_any ks W (by omega))
  have HB0 := Lib.hid (builder_new2 119 5 w w.heap.size rfl)
  obtain ⟨o, ho⟩ : ∃ o, (fd rs (bs p) (keysOf (bs ks))).1 = o := ⟨_, rfl⟩
  obtain ⟨q, hq⟩ : ∃ q, (fd rs (bs p) (keysOf (bs ks))).2 = q := ⟨_, rfl⟩
  rw [ho, hq] at hF hfs ⊢
  have hql : (ba q).size ≤ 281474976710656 := by rw [ba_size]; omega
  have HC := Lib.hid (fun W => Clone.clone_any (ba q) W hql)
  generalize ba (keysOf (bs ks)) = KS at hF HO hk2
  clear ho hq hA hfs hkl hql
  go_enter Try.func40, Try.ntmps40
  go_wp2_with (first
    | (go_at_call 46; (with_reducible refine (HO.out _).mono ?_); rintro e w1 ⟨rfl, hb1⟩; have hb1' := hb1.mono (B' := w.heap.size) (by simp); have hz1 : w.heap.size + 1 ≤ w1.heap.size := (by have := hb1.size; simpa using this); have HBl1 := Lib.hid (builder_kept2 HB0.out (fun k _ hk => hb1.block k hk)))
    | (go_at_call 68; (with_reducible refine (hF.out _ hb1' HBl1.out hz1).mono ?_); rintro e w2 ⟨rfl, hBl2, hb2, hs2⟩; have HBl2 := Lib.hid hBl2; clear hBl2)
    | (go_at_call 64; refine (Try.Builder_String_any_k w.heap.size w.heap.size o _ HBl2.out (by omega)).mono ?_; rintro e w3 ⟨rfl, _, hb3, _⟩)
    | (go_at_call 35; (with_reducible refine (HC.out _).mono ?_); rintro e w4 ⟨rfl, hb4⟩))
  go_ret2
  exact ⟨rfl, (((((Below.refl _ _).alloc (Nat.le_refl _) _).trans hb1').trans hb2).trans hb3).trans (hb4.mono (by have := hb3.size; omega))⟩

theorem write_nil (p ks : ByteArray) (w : World) :
    Calls Try.prog 40 #[.pointer none, .string p, .string ks] w fun e w' => e = .returned (.tuple #[.string ⟨#[]⟩, .string ⟨#[]⟩]) ∧ w' = w := by
  go_enter Try.func40, Try.ntmps40
  go_wp2
  go_ret2
  exact ⟨rfl, rfl⟩

theorem run_any {rs : List Rule} (hok : okL rs = true) (B a : Nat) (ks : ByteArray) (w : World) (hA : AutoAt B w a rs) (hB : B ≤ w.heap.size) (hs : ks.size ≤ 1099511627776) :
    Calls Try.prog 20 #[.pointer (some ⟨a, 0, none⟩), .string ks] w fun e w' => e = .returned (.tuple #[.string (ba (fd rs [] (keysOf (bs ks))).1), .string (ba (fd rs [] (keysOf (bs ks))).2)]) ∧ Below w.heap.size w w' := by
  have HW := Lib.hid (write_any hok B a ⟨#[]⟩ ks w hA hB (by show 0 + _ ≤ _; omega))
  rw [bs_emp] at HW
  obtain ⟨o, ho⟩ : ∃ o, (fd rs [] (keysOf (bs ks))).1 = o := ⟨_, rfl⟩
  obtain ⟨q, hq⟩ : ∃ q, (fd rs [] (keysOf (bs ks))).2 = q := ⟨_, rfl⟩
  rw [ho, hq] at HW ⊢
  clear ho hq
  go_enter Try.func20, Try.ntmps20
  go_wp2_with (go_at_call 40; (with_reducible refine HW.out.mono ?_); rintro e w1 ⟨rfl, hb1⟩)
  go_ret2
  exact ⟨rfl, hb1⟩
theorem run_nil (ks : ByteArray) (w : World) :
    Calls Try.prog 20 #[.pointer none, .string ks] w fun e w' => e = .returned (.tuple #[.string ⟨#[]⟩, .string ⟨#[]⟩]) ∧ Below w.heap.size w w' := by
  have HW := Lib.hid (write_nil ⟨#[]⟩ ks w)
  go_enter Try.func20, Try.ntmps20
  go_wp2_with (go_at_call 40; (with_reducible refine HW.out.mono ?_); rintro e w1 ⟨rfl, hw1⟩; obtain rfl := hw1.symm)
  go_ret2
  exact ⟨rfl, Below.refl _ _⟩

def strLen (v : Value) : Nat := match v with
  | .string s => s.size
  | _ => 0
theorem strLen_mk (s : ByteArray) : strLen (.string s) = s.size := rfl

set_option maxHeartbeats 2000000 in
theorem flush_any {rs : List Rule} (hok : okL rs = true) (B a : Nat) (p : ByteArray) (w : World) (hA : AutoAt B w a rs) (hB : B ≤ w.heap.size) (hs : p.size ≤ 1099511627776) :
    Calls Try.prog 56 #[.pointer (some ⟨a, 0, none⟩), .string p] w fun e w' => ∃ F, e = .returned (.string (ba F)) ∧ Flushes rs (keysOf (bs p)) F ∧ Below w.heap.size w w' := by
  have hkl := keysOf_le (bs p)
  rw [bs_len] at hkl
  have HO := Lib.hid (fun W => only_any p W (by omega))
  have HB0 := Lib.hid (builder_new2 119 5 w w.heap.size rfl)
  obtain ⟨K, hK⟩ : ∃ K, keysOf (bs p) = K := ⟨_, rfl⟩
  rw [hK] at hkl HO ⊢
  have HAP := fun n => (feed_all hok n).2
  unfold ApplyC at HAP
  have HAP := Lib.hid HAP
  have HAU := Lib.hid (hA.mono hB)
  clear hA hK
  go_enter Try.func56, Try.ntmps56
  go_wp2_with (go_at_call 46; (with_reducible refine (HO.out _).mono ?_); rintro e w1 ⟨rfl, hb1⟩)
  have hb1' := hb1.mono (B' := w.heap.size) (by simp)
  have hz1 : w.heap.size + 1 ≤ w1.heap.size := by have := hb1.size; simpa using this
  have HBl1 := Lib.hid (builder_kept2 HB0.out (fun k _ hk => hb1.block k hk))
  have hbw : Below w.heap.size w w1 := ((Below.refl _ _).alloc (Nat.le_refl _) _).trans hb1'
  clear HB0 HO hb1 hb1'
  go_loopw [6] (fun v wr => ∃ (o q : By), v = .string (ba q) ∧ Hid (∀ F, Flushes rs q F → Flushes rs K (o ++ F)) ∧ o.length + 16 * q.length ≤ 16 * K.length ∧ Hid (Lib.IsBuilderF 119 5 w.heap.size w.heap.size (Lib.byteCells o) wr) ∧ Below w.heap.size w wr ∧ w.heap.size + 1 ≤ wr.heap.size) (fun v _ => strLen v)
  case atStart => exact ⟨[], K, rfl, Lib.hid (fun F h => h), by simp, HBl1, hbw, hz1⟩
  case round =>
    obtain ⟨o, q, rfl, hF, hl, hBk, hbr, hzr⟩ := hrel
    cases q with
    | nil =>
      have he : (ba []).toList.isEmpty = true := by rw [Lib.toList_data]; rfl
      have hFl := Lib.hid (hF.out [] .nil)
      rw [List.append_nil] at hFl
      go_wp2_with (go_at_call 64; refine (Try.Builder_String_any_k w.heap.size w.heap.size o _ hBk.out (by omega)).mono ?_; rintro e w3 ⟨rfl, _, hb3, _⟩)
      go_ret
      exact ⟨o, rfl, hFl.out, hbr.trans hb3⟩
    | cons c q =>
      have hsz : (ba (c :: q)).size = q.length + 1 := by rw [ba_size]; rfl
      have hne : ((ba (c :: q)).toList == ([] : List UInt8)) = false := by rw [Lib.toList_data]; rfl
      have hne2 : (ba (c :: q)).toList.isEmpty = false := by rw [Lib.toList_data]; rfl
      have hC := Lib.hid (HAP.out q.length w.heap.size a w.heap.size (ba (c :: q)) o wr (HAU.out.later hbr (Nat.le_refl _)) (Nat.le_refl _) hzr hBk.out (by omega) (by omega) (by rw [hsz]; rw [List.length_cons] at hl; omega))
      rw [bs_ba] at hC
      have hlk := appK_len hok (rs := rs) (s := c :: q) (by simp)
      have hlo := appO_len hok (rs := rs) (c :: q)
      rw [List.length_cons] at hl hlk
      have HH := Lib.hid hF.out
      have HL := Lib.hid hlo
      clear hF hlo
      go_wp2_with (go_at_call 74; (with_reducible refine hC.out.mono ?_); rintro e w4 ⟨o2, q2, rfl, hf2, hBl4, hb4, _, hs4⟩)
      have hlq := hf2.len hok
      rw [List.length_nil] at hlq
      go_roundw
      case rel =>
        refine ⟨o ++ (appO rs (c :: q) ++ o2), q2, rfl, Lib.hid fun F hF2 => ?_, ?_, Lib.hid hBl4, hbr.trans hb4, by omega⟩
        · have := HH.out _ (Flushes.step (by simp) hf2 hF2)
          simpa only [List.append_assoc] using this
        · have := HL.out
          simp only [List.length_append]; omega
      case measure => rw [strLen_mk, strLen_mk, hsz, ba_size]; omega

theorem flush_nil (p : ByteArray) (w : World) :
    Calls Try.prog 56 #[.pointer none, .string p] w fun e w' => e = .returned (.string ⟨#[]⟩) ∧ Below w.heap.size w w' := by
  go_enter Try.func56, Try.ntmps56
  go_wp2
  go_ret
  exact ⟨rfl, Below.refl _ _⟩

theorem conv_lit (W : World) (c : UInt8) {W' : World} (hb : W'.heap[W.heap.size]? = some (Obj.cells #[.int .u8 c.toNat] 5 (0, 0))) :
    (convert 51 9 (.slice (some ⟨W.heap.size, 0, none⟩) 1 1)).run Try.prog W' = .ok (.string (ba [c])) W' :=
  conv_bytes (P := Try.prog) (l := [c]) (base := 0) (n := 1) (e := 5) ⟨rfl, .inr ⟨W.heap.size, 1, #[.int .u8 c.toNat], rfl, Nat.zero_le _, hb, Nat.le_refl _, by simp [maxLen], rfl, by simp [u8s]⟩⟩ Try.underlying51 Try.underlying5 Try.underlying9

theorem step_any {rs : List Rule} (hok : okL rs = true) (B a : Nat) (p : ByteArray) (c : UInt8) (w : World) (hA : AutoAt B w a rs) (hB : B ≤ w.heap.size) (hs : p.size ≤ 549755813888) :
    Calls Try.prog 22 #[.pointer (some ⟨a, 0, none⟩), .string p, .int .u8 c.toNat] w fun e w' => e = .returned (.tuple #[.string (ba (fd rs (keysOf (bs p)) (keysOf [c])).1), .string (ba (fd rs (keysOf (bs p)) (keysOf [c])).2)]) ∧ Below w.heap.size w w' := by
  have hkl := keysOf_le (bs p)
  rw [bs_len] at hkl
  have HW : Hid (∀ W : World, Below w.heap.size w W → Calls Try.prog 40 #[.pointer (some ⟨a, 0, none⟩), .string (ba (keysOf (bs p))), .string (ba [c])] W fun e w' => e = .returned (.tuple #[.string (ba (fd rs (keysOf (bs p)) (keysOf [c])).1), .string (ba (fd rs (keysOf (bs p)) (keysOf [c])).2)]) ∧ Below W.heap.size W w') := Lib.hid fun W h => by
    have := write_any hok B a (ba (keysOf (bs p))) (ba [c]) W (hA.later h hB) (Nat.le_trans hB h.size) (by rw [ba_size, ba_size]; simp; omega)
    rw [bs_ba, bs_ba] at this
    exact this
  have HO := Lib.hid (fun W => only_any p W (by omega))
  obtain ⟨o, ho⟩ : ∃ o, (fd rs (keysOf (bs p)) (keysOf [c])).1 = o := ⟨_, rfl⟩
  obtain ⟨q, hq⟩ : ∃ q, (fd rs (keysOf (bs p)) (keysOf [c])).2 = q := ⟨_, rfl⟩
  rw [ho, hq] at HW ⊢
  clear ho hq hA hkl
  generalize ba (keysOf (bs p)) = KS at HW HO
  go_enter Try.func22, Try.ntmps22
  go_wp2
  have hcv1 : ∀ W : World, (convert 51 9 (.slice (some ⟨W.heap.size, 0, none⟩) 1 1)).run Try.prog (W.alloc (Obj.cells #[.int .u8 c.toNat] 5)) = .ok (.string (ba [c])) (W.alloc (Obj.cells #[.int .u8 c.toNat] 5)) := fun W => conv_lit W c (heap_alloc_new W _)
  have hcv2 : ∀ W : World, (convert 51 9 (.slice (some ⟨W.heap.size, 0, none⟩) 1 1)).run Try.prog (W.alloc (Obj.cells #[.int .u8 c.toNat] 5)).drew = .ok (.string (ba [c])) (W.alloc (Obj.cells #[.int .u8 c.toNat] 5)).drew := fun W => conv_lit W c (W' := (W.alloc (Obj.cells #[.int .u8 c.toNat] 5)).drew) (heap_alloc_new W _)
  go_region_law (first
    | (go_simp; go_at_call 46; (with_reducible refine (HO.out _).mono ?_); rintro e w1 ⟨rfl, hb1⟩; have hbw1 : Below w.heap.size w w1 := (by first | exact (Below.refl _ w).drew.trans hb1 | exact (((Below.refl _ _).alloc (Nat.le_refl _) _).drew).trans (hb1.mono (by simp))); try have hcv3 := conv_lit w c (W' := w1) (by rw [hb1.block _ (by simp)]; exact heap_alloc_new w _))
    | (go_simp; go_at_call 40; (with_reducible refine (HW.out _ (by first | exact hbw1 | exact hbw1.alloc hbw1.size _)).mono ?_); rintro e w2 ⟨rfl, hb2⟩))
  all_goals go_wp2
  all_goals go_ret2
  all_goals first
    | exact ⟨rfl, hbw1.trans (hb2.mono hbw1.size)⟩
    | exact ⟨rfl, (hbw1.alloc hbw1.size _).trans (hb2.mono (by simp; have := hbw1.size; omega))⟩

theorem step_nil (p : ByteArray) (c : Int) (w : World) (hs : p.size ≤ 140737488351232) (h0 : 0 ≤ c) (h1 : c < 256) :
    Calls Try.prog 22 #[.pointer none, .string p, .int .u8 c] w fun e w' => e = .returned (.tuple #[.string ⟨#[]⟩, .string ⟨#[]⟩]) ∧ Below w.heap.size w w' := by
  have HW := Lib.hid (fun s W => write_nil (ba (keysOf (bs p))) s W)
  have HO := Lib.hid (fun W => only_any p W hs)
  obtain ⟨c8, rfl⟩ : ∃ c8 : UInt8, c = (c8.toNat : Int) := ⟨UInt8.ofNat c.toNat, by rw [toNat_ofNat _ (by omega)]; omega⟩
  generalize ba (keysOf (bs p)) = KS at HW HO
  clear h0 h1
  go_enter Try.func22, Try.ntmps22
  go_wp2
  have hcv1 : ∀ W : World, (convert 51 9 (.slice (some ⟨W.heap.size, 0, none⟩) 1 1)).run Try.prog (W.alloc (Obj.cells #[.int .u8 c8.toNat] 5)) = .ok (.string (ba [c8])) (W.alloc (Obj.cells #[.int .u8 c8.toNat] 5)) := fun W => conv_lit W c8 (heap_alloc_new W _)
  have hcv2 : ∀ W : World, (convert 51 9 (.slice (some ⟨W.heap.size, 0, none⟩) 1 1)).run Try.prog (W.alloc (Obj.cells #[.int .u8 c8.toNat] 5)).drew = .ok (.string (ba [c8])) (W.alloc (Obj.cells #[.int .u8 c8.toNat] 5)).drew := fun W => conv_lit W c8 (W' := (W.alloc (Obj.cells #[.int .u8 c8.toNat] 5)).drew) (heap_alloc_new W _)
  go_region_law (first
    | (go_simp; go_at_call 46; (with_reducible refine (HO.out _).mono ?_); rintro e w1 ⟨rfl, hb1⟩; have hbw1 : Below w.heap.size w w1 := (by first | exact (Below.refl _ w).drew.trans hb1 | exact (((Below.refl _ _).alloc (Nat.le_refl _) _).drew).trans (hb1.mono (by simp))); try have hcv3 := conv_lit w c8 (W' := w1) (by rw [hb1.block _ (by simp)]; exact heap_alloc_new w _))
    | (go_simp; go_at_call 40; (with_reducible refine (HW.out _ _).mono ?_); rintro e w2 ⟨rfl, hw2⟩; obtain rfl := hw2.symm))
  all_goals go_wp2
  all_goals go_ret2
  all_goals first
    | exact ⟨rfl, hbw1⟩
    | exact ⟨rfl, hbw1.alloc hbw1.size _⟩

end Go.Proofs.Ytlmbbpppfghcbaa.Aut
