/-
  A key is added to the keys before the caret, if the keys that are pending then are the last ones of those that were pending and the key.
-/
import Derived.Test.YtlmbbpppfghcbaaM16
import Derived.BigRegion
import Derived.OpenShut
import Derived.ShutString
import Derived.ChangeOld
import Derived.HandedShaped
import Derived.LaidMore
import Derived.Lay
import Derived.SizedLaws
import Derived.Deep.DeepHandedRow
import Derived.Test.YtlmbbpppfghcbaaM15
set_option linter.unusedVariables false
set_option linter.unusedSimpArgs false
set_option maxRecDepth 100000
namespace Go.Proofs.Ytlmbbpppfghcbaa.composeKeeps
open Go Go.RowKit Go.ChangeShapes Go.WideShapes Go.ChangeAt Go.Proofs.Ytlmbbpppfghcbaa Go.Proofs.Ytlmbbpppfghcbaa.Kit Go.Proofs.Ytlmbbpppfghcbaa.Utf Go.Proofs.Ytlmbbpppfghcbaa.Rom Go.Proofs.Ytlmbbpppfghcbaa.Aut Go.Proofs.Ytlmbbpppfghcbaa.Cmp
open Go.ChangeMaps (open_string shut_string)
theorem raws_append (a b : List It) : raws (a ++ b) = raws a ++ raws b := by unfold raws; rw [List.flatMap_append]
theorem raws_items {raw : ByteArray} {cs : List Int} (h : cs ≠ []) : raws (itemsL raw cs) = bs raw := by
  cases cs with
  | nil => exact absurd rfl h
  | cons c cs =>
    show bs raw ++ raws (cs.map fun c => ⟨⟨#[]⟩, Utf8.encode c⟩) = bs raw
    have e : raws (cs.map fun c => (⟨⟨#[]⟩, Utf8.encode c⟩ : It)) = [] := by
      unfold raws
      rw [List.flatMap_map, List.flatMap_eq_nil_iff]
      intro x _; rfl
    rw [e, List.append_nil]
/-- The buffer of what stands before the caret, and of what stands behind it. -/
def bef (b : Bf) : Bf := ⟨b.is.take b.c.toNat, b.c, b.p⟩
def aft (b : Bf) : Bf := ⟨b.is.drop b.c.toNat, 0, ⟨#[]⟩⟩
theorem bef_sh {b : Bf} (h : Sh b) : Sh (bef b) := ⟨fun i hi => h.1 i (List.mem_of_mem_take hi), h.2.1, by show (b.is.take _).length ≤ _; rw [List.length_take]; have := h.2.2; omega⟩
theorem aft_sh {b : Bf} (h : Sh b) : Sh (aft b) := ⟨fun i hi => h.1 i (List.mem_of_mem_drop hi), Nat.zero_le _, by show (b.is.drop _).length ≤ _; rw [List.length_drop]; have := h.2.2; omega⟩
theorem keeps {rs : List Rule} (hok : okL rs = true) {b : Bf} {k : UInt8} (h : (keyB rs b k).2 = 0) (hs : (fd rs (bs b.p) [k]).2 <:+ bs b.p ++ [k]) (hne : (fd rs (bs b.p) [k]).1 = [] → (fd rs (bs b.p) [k]).2 = bs b.p ++ [k]) :
    rawB (keyB rs b k).1 = rawB (bef b) ++ ba [k] ++ rawB (aft b) := by
  have hv := keyB_val hok h
  obtain ⟨h1, h2, h3, h4⟩ := keyB_ok h
  obtain ⟨v1, v2, v3, v4, v5, v6⟩ := val_parts h1
  have hp := fromB_keys.1 v6
  have hk : AllK [k] := AllK.one h2
  have hf := fd_spec hok (bs b.p) [k]
  obtain ⟨cs, hcs⟩ := feeds_good hok hf hp hk
  obtain ⟨hcv, hce⟩ := chars_some hcs
  generalize (fd rs (bs b.p) [k]).1 = o at *
  generalize (fd rs (bs b.p) [k]).2 = q at *
  have hvb : val (bef b) = true := val_of (by show (b.is.take _).length ≤ 64; rw [List.length_take]; omega) v2 (by show b.c ≤ ((b.is.take b.c.toNat).length : Nat); rw [List.length_take]; omega) (fun i hi => v4 i (List.mem_of_mem_take hi)) v5 v6
  have hva : val (aft b) = true := val_of (by show (b.is.drop _).length ≤ 64; rw [List.length_drop]; omega) (Int.le_refl _) (by show (0 : Int) ≤ ((b.is.drop b.c.toNat).length : Nat); omega) (fun i hi => v4 i (List.mem_of_mem_drop hi)) (Nat.zero_le _) rfl
  obtain ⟨t, ht⟩ := hs
  have hlen : (b.is.take b.c.toNat).length = b.c.toNat := by rw [List.length_take]; omega
  have hB : rawB (bef b) = ba (raws (b.is.take b.c.toNat) ++ bs b.p) := by
    unfold rawB
    rw [if_pos hvb]
    show ba (raws ((b.is.take b.c.toNat).take b.c.toNat) ++ bs b.p ++ raws ((b.is.take b.c.toNat).drop b.c.toNat)) = _
    rw [List.take_of_length_le (by omega), List.drop_of_length_le (by omega)]
    show ba (raws _ ++ bs b.p ++ []) = _
    rw [List.append_nil]
  have hA : rawB (aft b) = ba (raws (b.is.drop b.c.toNat)) := by
    unfold rawB
    rw [if_pos hva]
    show ba (raws ((b.is.drop b.c.toNat).take 0) ++ bs _ ++ raws ((b.is.drop b.c.toNat).drop 0)) = _
    rw [List.take_zero, List.drop_zero]
    rfl
  rw [hB, hA]
  unfold rawB
  rw [if_pos hv, h4]
  apply ba_ext
  generalize hR : ba (endsL (bs b.p ++ [k]) q) = raw
  have hx : (insB { b with p := ba q } (itemsL raw (chs o))).is = b.is.take b.c.toNat ++ itemsL raw (chs o) ++ b.is.drop b.c.toNat := rfl
  have hxc : (insB { b with p := ba q } (itemsL raw (chs o))).c.toNat = (b.is.take b.c.toNat ++ itemsL raw (chs o)).length := by
    show (b.c + ((itemsL raw (chs o)).length : Int)).toNat = _
    rw [List.length_append, hlen]; omega
  have hxp : (insB { b with p := ba q } (itemsL raw (chs o))).p = ba q := rfl
  rw [hx, hxc, hxp, List.take_left' rfl, List.drop_left' rfl, bs_ba]
  simp only [ByteArray.data_append, Array.toList_append, ba, raws_append]
  have key : raws (itemsL raw (chs o)) ++ q = bs b.p ++ [k] := by
    rw [chs_some hcs]
    by_cases hn : cs = []
    · subst hn
      have : o = [] := by rw [hce]; rfl
      rw [hne this]
      rfl
    · rw [raws_items hn, ← hR, bs_ba]
      unfold endsL
      have hsuf : q.isSuffixOf (bs b.p ++ [k]) = true := List.isSuffixOf_iff_suffix.2 ⟨t, ht⟩
      rw [if_pos hsuf, ← ht, List.length_append, Nat.add_sub_cancel, List.take_left' rfl]
  rw [List.append_assoc (raws (b.is.take b.c.toNat)), key]
  simp

theorem suf_iff (a q : By) (hl : q.length ≤ a.length) : (ba a).extract (a.length - q.length) a.length = ba q ↔ q <:+ a := by
  constructor
  · intro h
    have h2 : a.drop (a.length - q.length) = q := by
      have := congrArg bs h
      rw [bs_ba] at this
      refine Eq.trans ?_ this
      unfold bs ba
      rw [ByteArray.data_extract, Array.toList_extract]
      simp [List.extract_eq_take_drop]
      rw [List.take_of_length_le (by rw [List.length_drop]; omega)]
    rw [← h2]
    exact List.drop_suffix _ _
  · rintro ⟨t, rfl⟩
    apply ba_ext
    rw [ByteArray.data_extract]
    simp [ba]

theorem raw_size {b : Bf} (h : Sh b) : (rawB b).size ≤ 3298534883328 := by
  unfold rawB
  split
  · rw [ba_size, List.length_append, List.length_append, bs_len]
    have h1 := cat_take_le (g := It.r) (is := b.is) (k := b.c.toNat) (fun i hi => (h.1 i hi).1) h.2.2
    have h2 := cat_le (g := It.r) (is := b.is.drop b.c.toNat) (fun i hi => (h.1 i (List.mem_of_mem_drop hi)).1)
    have h3 : (b.is.drop b.c.toNat).length ≤ 1048576 := by rw [List.length_drop]; have := h.2.2; omega
    have h4 := h.2.1
    rw [raws_cat, raws_cat]
    have h5 : 1048576 * (b.is.drop b.c.toNat).length ≤ 1048576 * 1048576 := Nat.mul_le_mul_left _ h3
    omega
  · exact Nat.zero_le _
theorem tl_eq {a b : ByteArray} (h : (a.toList == b.toList) = true) : a = b := by
  rw [beq_iff_eq, Lib.toList_data, Lib.toList_data] at h
  exact ba_ext h
theorem tl_emp {a : ByteArray} (h : a.toList.isEmpty = true) : a = ⟨#[]⟩ := by
  rw [List.isEmpty_iff, Lib.toList_data] at h
  exact ba_ext h
theorem tl_emp' {a : ByteArray} (h : a.toList.isEmpty = false) : a ≠ ⟨#[]⟩ := by
  rintro rfl
  rw [Lib.toList_data] at h
  cases h
theorem conv_at {W : World} {g : Nat} {c : UInt8} (hb : W.heap[g]? = some (keyObj c)) :
    (convert 51 9 (.slice (some ⟨g, 0, none⟩) 1 1)).run Try.prog W = .ok (.string (ba [c])) W :=
  conv_bytes (P := Try.prog) (l := [c]) (base := 0) (n := 1) (e := 5) ⟨rfl, .inr ⟨g, 1, #[.int .u8 c.toNat], rfl, Nat.zero_le _, hb, Nat.le_refl _, by simp [maxLen], rfl, by simp [u8s]⟩⟩ Try.underlying51 Try.underlying5 Try.underlying9
set_option maxHeartbeats 8000000 in
theorem walk (a0 : Option Addr) (len0 cap0 : Nat) (z0 : List Rule) (a1 : Option Addr) (len1 cap1 : Nat) (b : Bf) (a2 : Int) (w : World) (w0 : RowR w (.slice a0 len0 cap0) z0) (w1 : ItR w (.slice a1 len1 cap1) b.is) (n1 : (Lit.int .i64 b.c).wf = true) (w2 : (Lit.int .u8 a2).wf = true) (u0 : ∀ r ∈ z0, Short r) (u1 : Sh b) :
    Calls Try.prog 5 #[.slice a0 len0 cap0, .agg #[.slice a1 len1 cap1, .int .i64 b.c, .string b.p], .int .u8 a2] w fun e w' => e = .returned (.bool true) ∧ Below w.heap.size w w' := by
  have hc0 : 0 ≤ a2 ∧ a2 ≤ 255 := by
    have h1 : IntKind.u8.min = 0 := rfl
    have h2 : IntKind.u8.max = 255 := rfl
    simp [Lit.wf, h1, h2] at w2
    exact w2
  obtain ⟨k, hk⟩ : ∃ k : UInt8, a2 = k.toNat := ⟨UInt8.ofNat a2.toNat, by rw [toNat_ofNat _ (by omega)]; omega⟩
  subst hk
  clear w2 hc0
  have HWK := Lib.hid works_any
  have hT : Hid (∀ W, Below w.heap.size w W → Calls Try.prog 17 #[] W fun e w' => e = .returned (.bool true) ∧ Below w.heap.size w w') := Lib.hid fun W h => (HWK.out W).mono fun e w' ⟨h1, h2⟩ => ⟨h1, h.trans (h2.mono h.size)⟩
  have HAL := Lib.hid (fun (W : World) (o : Obj) => w0.later ((Below.refl w.heap.size w).alloc (Nat.le_refl _) o) (Nat.le_refl _))
  by_cases hc : checkL z0 = 0
  rotate_left
  · have HN := Lib.hid (fun (o : Obj) => cnew_no (w0.later ((Below.refl w.heap.size w).alloc (Nat.le_refl _) o) (Nat.le_refl _)) u0 hc)
    have hne : (checkL z0 != 0) = true := by simpa using hc
    generalize checkL z0 = E at HN hne
    clear w0 w1 u0 u1 hc
    go_enter Try.func5, Try.ntmps5
    go_wp2_with (first
      | (go_at_call 18; (with_reducible refine (HN.out _).mono ?_); rintro e w2 ⟨rfl, hb⟩; have hB := ((Below.refl w.heap.size w).alloc (Nat.le_refl _) (Obj.cells #[.slice a1 len1 cap1, .int .i64 b.c, .string b.p] 24)).trans (hb.mono (by simp)))
      | (go_at_call 17; (with_reducible refine (hT.out _ hB).mono ?_); rintro e w3 ⟨rfl, hB3⟩))
    go_ret
    exact ⟨rfl, hB3⟩
  obtain ⟨h500, hok⟩ := ok_of_check hc
  have HN := Lib.hid (fun (o : Obj) => cnew_yes (w0.later ((Below.refl w.heap.size w).alloc (Nat.le_refl _) o) (Nat.le_refl _)) u0 hc)
  have HKY := Lib.hid (fun (Q q0 : Nat) (W : World) (h1 : AutoAt Q W q0 z0) (h2 : Q ≤ W.heap.size) (h3 : Below w.heap.size w W) => insertkey_any hok Q q0 b k (.agg #[.slice a1 len1 cap1, .int .i64 b.c, .string b.p]) W h1 h2 ⟨_, rfl, w1.later h3 (Nat.le_refl _)⟩ u1)
  have hks := keyB_sh hok u1 k
  obtain ⟨rfl, hcap, hcm⟩ := w1.len
  by_cases hx0 : (keyB z0 b k).2 = 0
  rotate_left
  · have hne : ((keyB z0 b k).2 != 0) = true := by simpa using hx0
    generalize keyB z0 b k = X at HKY hne
    obtain ⟨⟨xi, xc, xp⟩, x⟩ := X
    unfold NewBE at HKY
    clear w0 w1 u0 u1 hc hks hx0
    obtain ⟨is, c, p⟩ := b
    simp only at *
    go_enter Try.func5, Try.ntmps5
    go_wp2_with (first
      | (go_at_call 18
         (with_reducible refine (HN.out _).mono ?_)
         rintro e w2 ⟨q, rfl, hA, hb⟩
         have hB := ((Below.refl w.heap.size w).alloc (Nat.le_refl _) (Obj.cells #[.slice a1 is.length cap1, .int .i64 c, .string p] 24)).trans (hb.mono (by simp))
         obtain ⟨b0, b1, b2, _⟩ := box_facts (box_later (heap_alloc_new w (Obj.cells #[.slice a1 is.length cap1, .int .i64 c, .string p] 24)) hb (by simp))
         clear hb)
      | (go_at_call 21
         (with_reducible refine (HKY.out _ _ _ hA (Nat.le_refl _) hB).mono ?_)
         rintro e w3 ⟨a3, m3, k3, rfl, _, hb⟩
         have hB3 := (hB.trans (hb.mono hB.size)).alloc (Nat.le_trans hB.size hb.size) (Obj.cells #[.slice a3 m3 k3, .int .i64 xc, .string xp] 24)
         clear hb b0 b1 b2)
      | (go_at_call 17; (with_reducible refine (hT.out _ hB3).mono ?_); rintro e w4 ⟨rfl, hB4⟩))
    go_ret
    exact ⟨rfl, hB4⟩
  have hKP := keeps hok hx0
  obtain ⟨hvb, hkb, hl3, hx1⟩ := keyB_ok hx0
  obtain ⟨v1, v2, v3, v4, v5, v6⟩ := val_parts hvb
  have hkp := keysOf_id (fromB_keys.1 v6)
  have hkk : keysOf [k] = [k] := keysOf_id (AllK.one hkb)
  have hfl := (fd_spec hok (bs b.p) [k]).len hok
  have HST := Lib.hid (fun (Q q0 : Nat) (W : World) (h1 : AutoAt Q W q0 z0) (h2 : Q ≤ W.heap.size) => step_any hok Q q0 b.p k W h1 h2 (by omega))
  rw [hkp, hkk] at HST
  have HRX := Lib.hid (fun (s : Value) (W : World) (h : ItR W s (keyB z0 b k).1.is) => raw_buf (keyB z0 b k).1 (.agg #[s, .int .i64 (keyB z0 b k).1.c, .string (keyB z0 b k).1.p]) W ⟨_, rfl, h⟩ hks)
  have HRB := Lib.hid (fun (s : Value) (W : World) (h : ItR W s (b.is.take b.c.toNat)) => raw_buf (bef b) (.agg #[s, .int .i64 b.c, .string b.p]) W ⟨_, rfl, h⟩ (bef_sh u1))
  have HRA := Lib.hid (fun (s : Value) (W : World) (h : ItR W s (b.is.drop b.c.toNat)) => raw_buf (aft b) (.agg #[s, .int .i64 0, .string ⟨#[]⟩]) W ⟨_, rfl, h⟩ (aft_sh u1))
  have hsi := suf_iff (bs b.p ++ [k]) (fd z0 (bs b.p) [k]).2 (by rw [List.length_append]; exact hfl.1)
  have hal : ba (bs b.p ++ [k]) = b.p ++ ba [k] := ba_ext (by simp [bs, ba])
  rw [hal] at hsi
  have hqs : ((ba (fd z0 (bs b.p) [k]).2).size : Int) ≤ b.p.size + 1 := by rw [ba_size]; have := hfl.1; rw [bs_len] at this; simp at this; omega
  have hqe : (ba (fd z0 (bs b.p) [k]).2 = b.p ++ ba [k]) ↔ (fd z0 (bs b.p) [k]).2 = bs b.p ++ [k] := by rw [← hal]; exact ⟨fun h => by have := congrArg bs h; rwa [bs_ba, bs_ba] at this, fun h => by rw [h]⟩
  have hoe : (ba (fd z0 (bs b.p) [k]).1 = ⟨#[]⟩) ↔ (fd z0 (bs b.p) [k]).1 = [] := ⟨fun h => by have := congrArg bs h; rwa [bs_ba] at this, fun h => by rw [h]; rfl⟩
  rw [← hsi, ← hqe, ← hoe, List.length_append, bs_len, List.length_singleton, ← ba_size (fd z0 (bs b.p) [k]).2] at hKP
  have hsz1 : (b.p.size : Int) ≤ 8 := by omega
  have HIs := Lib.hid (fun (W : World) (h : Below w.heap.size w W) => w1.later h (Nat.le_refl _))
  have HU1 := Lib.hid u1
  generalize ba (fd z0 (bs b.p) [k]).1 = O at hKP HST hoe
  generalize ba (fd z0 (bs b.p) [k]).2 = R at hKP HST hqe hsi hqs
  generalize keyB z0 b k = X at HKY HRX hKP hx0
  obtain ⟨⟨xi, xc, xp⟩, x⟩ := X
  simp only at hx0
  subst hx0
  unfold NewBE at HKY
  clear w0 w1 u0 hc hks hx1 hsi hqe hoe hfl hal hkp hkk v4 v6 HAL hvb u1
  have hzB : (rawB (bef b)).size ≤ 3298534883328 := raw_size (bef_sh HU1.out)
  have hzA : (rawB (aft b)).size ≤ 3298534883328 := raw_size (aft_sh HU1.out)
  generalize hRX : rawB ⟨xi, xc, xp⟩ = RX at HRX hKP
  generalize hRB : rawB (bef b) = RB at HRB hKP hzB
  generalize hRA : rawB (aft b) = RA at HRA hKP hzA
  clear hRX hRB hRA
  obtain ⟨is, c, p⟩ := b
  simp only at *
  obtain ⟨kc, rfl⟩ : ∃ kc : Nat, c = (kc : Int) := ⟨c.toNat, by omega⟩
  simp only [Int.toNat_natCast] at HRB HRA
  obtain ⟨x1, n1', k1, hs1, hR1⟩ := items_upto (k := kc) (HIs.out _ (Below.refl _ _)) (by omega)
  obtain ⟨x2, n2', k2', hs2, hR2⟩ := items_on (k := kc) (HIs.out _ (Below.refl _ _)) (by omega)
  have HR1 := Lib.hid hR1
  have HR2 := Lib.hid hR2
  clear hR1 hR2 HIs
  have hk1 : (ba [k]).size = 1 := rfl
  have hqs2 : ¬ ((p.size : Int) + ((ba [k]).size : Int) < R.size) := by omega
  have hcc : ¬ (kc : Int) < 0 := by omega
  have hsB1 : ¬ 9223372036854775807 < RB.size + (ba [k]).size := by omega
  have hsB2 : ¬ 9223372036854775807 < RB.size + (ba [k]).size + RA.size := by omega
  have hsum : ¬ 9223372036854775807 < p.size + (ba [k]).size := by omega
  have hsx1 : (p.size : Int) + ((ba [k]).size : Int) - R.size ≤ p.size + ((ba [k]).size : Int) := by omega
  have hsx2 : (R.size : Int) ≤ p.size + ((ba [k]).size : Int) := by omega
  have hcl : ¬ (is.length : Int) < kc := by omega
  have HKP := Lib.hid (fun (h1 : (p ++ ba [k]).extract (p.size + (ba [k]).size - R.size) (p.size + (ba [k]).size) = R) (h2 : O = ⟨#[]⟩ → R = p ++ ba [k]) => hKP h1 h2)
  clear hKP hk1 hqs
  cases t1 : (((p ++ ba [k]).extract (p.size + (ba [k]).size - R.size) (p.size + (ba [k]).size)).toList == R.toList)
  ·
    go_enter Try.func5, Try.ntmps5
    go_wp2_with (first
      | (go_at_call 18
         (with_reducible refine (HN.out _).mono ?_)
         rintro e w2 ⟨q, rfl, hA, hb⟩
         have hB := ((Below.refl w.heap.size w).alloc (Nat.le_refl _) (Obj.cells #[.slice a1 is.length cap1, .int .i64 kc, .string p] 24)).trans (hb.mono (by simp))
         have y4 := box_later (heap_alloc_new w (Obj.cells #[.slice a1 is.length cap1, .int .i64 kc, .string p] 24)) hb (by simp)
         have hs2 := hb.size
         simp at hs2
         obtain ⟨b0, b1, b2, _⟩ := box_facts y4
         have HA := Lib.hid (fun (W : World) (h : Below w2.heap.size w2 W) => hA.later h (Nat.le_refl _))
         clear hb hA)
      | (go_at_call 21
         (with_reducible refine (HKY.out _ _ _ (HA.out _ (Below.refl _ _)) (Nat.le_refl _) hB).mono ?_)
         rintro e w3 ⟨a3, m3, k3, rfl, ho3, hb⟩
         have kA := hb.alloc hb.size (Obj.cells #[.slice a3 m3 k3, .int .i64 xc, .string xp] 24)
         have hB3 := hB.trans (kA.mono hB.size)
         replace y4 := box_later y4 kA (by omega)
         have hs3 := hb.size
         have y9 := heap_alloc_new w3 (Obj.cells #[.slice a3 m3 k3, .int .i64 xc, .string xp] 24)
         have HI3 := Lib.hid ((items_of_own ho3).1.later ((Below.refl w3.heap.size w3).alloc (Nat.le_refl _) (Obj.cells #[.slice a3 m3 k3, .int .i64 xc, .string xp] 24)) (Nat.le_refl _))
         have hcv : (convert 51 9 (.slice (some ⟨w3.heap.size + 1, 0, none⟩) 1 1)).run Try.prog ((w3.alloc (Obj.cells #[.slice a3 m3 k3, .int .i64 xc, .string xp] 24)).alloc (keyObj k)) = .ok (.string (ba [k])) ((w3.alloc (Obj.cells #[.slice a3 m3 k3, .int .i64 xc, .string xp] 24)).alloc (keyObj k)) := (by
           have h := conv_lit (w3.alloc (Obj.cells #[.slice a3 m3 k3, .int .i64 xc, .string xp] 24)) k (heap_alloc_new (w3.alloc (Obj.cells #[.slice a3 m3 k3, .int .i64 xc, .string xp] 24)) _)
           have e : (w3.alloc (Obj.cells #[.slice a3 m3 k3, .int .i64 xc, .string xp] 24)).heap.size = w3.heap.size + 1 := by simp
           rw [e] at h
           exact h)
         clear b0 b1 b2 hb ho3
         obtain ⟨b0, b1, b2, _⟩ := box_facts y4
         have y4b := box_alloc y4 (o := keyObj k) rfl
         obtain ⟨c0, c1, c2, _⟩ := box_facts y4b)
      | (go_at_call 22
         have HI3b := HI3.out
         have hBb := hB3
         refine calls_alloc2 fun W4 W5 hW4 hW5 => ?_
         rw [hW4] at HI3b y9 hBb kA y4
         obtain ⟨_, hs4, _⟩ := box_new hW4
         obtain ⟨_, hs5, hn5⟩ := box_new hW5
         have hb := hn5 _ (Nat.le_refl _)
         replace HI3b := HI3b.later hb (Nat.le_refl _)
         replace y9 := box_alloc y9 hW5
         replace y4 := box_alloc y4 hW5
         replace hBb := hBb.trans (hb.mono hBb.size)
         replace kA := kA.trans (hb.mono kA.size)
         clear b0 b1 b2 c0 c1 c2 hcv y4b HI3 hB3 hW4 hW5 hn5 hb
         (with_reducible refine (HST.out _ _ _ (HA.out _ kA) kA.size).mono ?_)
         rintro e w6 ⟨rfl, hb⟩
         replace HI3b := HI3b.later hb (Nat.le_refl _)
         replace y9 := box_later y9 hb (by omega)
         replace y4 := box_later y4 hb (by omega)
         replace hBb := hBb.trans (hb.mono hBb.size)
         have hs6 := hb.size
         clear hb kA HA
         obtain ⟨b0, b1, b2, _⟩ := box_facts y4)
      | (go_at_call 17; (with_reducible refine (hT.out _ hBb).mono ?_); rintro e w8 ⟨rfl, hB8⟩))
    go_ret
    exact ⟨rfl, hB8⟩
  cases t2 : O.toList.isEmpty
  rotate_left
  · cases t3 : (R.toList == (p ++ ba [k]).toList)
    ·
      go_enter Try.func5, Try.ntmps5
      go_wp2_with (first
        | (go_at_call 18
           (with_reducible refine (HN.out _).mono ?_)
           rintro e w2 ⟨q, rfl, hA, hb⟩
           have hB := ((Below.refl w.heap.size w).alloc (Nat.le_refl _) (Obj.cells #[.slice a1 is.length cap1, .int .i64 kc, .string p] 24)).trans (hb.mono (by simp))
           have y4 := box_later (heap_alloc_new w (Obj.cells #[.slice a1 is.length cap1, .int .i64 kc, .string p] 24)) hb (by simp)
           have hs2 := hb.size
           simp at hs2
           obtain ⟨b0, b1, b2, _⟩ := box_facts y4
           have HA := Lib.hid (fun (W : World) (h : Below w2.heap.size w2 W) => hA.later h (Nat.le_refl _))
           clear hb hA)
        | (go_at_call 21
           (with_reducible refine (HKY.out _ _ _ (HA.out _ (Below.refl _ _)) (Nat.le_refl _) hB).mono ?_)
           rintro e w3 ⟨a3, m3, k3, rfl, ho3, hb⟩
           have kA := hb.alloc hb.size (Obj.cells #[.slice a3 m3 k3, .int .i64 xc, .string xp] 24)
           have hB3 := hB.trans (kA.mono hB.size)
           replace y4 := box_later y4 kA (by omega)
           have hs3 := hb.size
           have y9 := heap_alloc_new w3 (Obj.cells #[.slice a3 m3 k3, .int .i64 xc, .string xp] 24)
           have HI3 := Lib.hid ((items_of_own ho3).1.later ((Below.refl w3.heap.size w3).alloc (Nat.le_refl _) (Obj.cells #[.slice a3 m3 k3, .int .i64 xc, .string xp] 24)) (Nat.le_refl _))
           have hcv : (convert 51 9 (.slice (some ⟨w3.heap.size + 1, 0, none⟩) 1 1)).run Try.prog ((w3.alloc (Obj.cells #[.slice a3 m3 k3, .int .i64 xc, .string xp] 24)).alloc (keyObj k)) = .ok (.string (ba [k])) ((w3.alloc (Obj.cells #[.slice a3 m3 k3, .int .i64 xc, .string xp] 24)).alloc (keyObj k)) := (by
             have h := conv_lit (w3.alloc (Obj.cells #[.slice a3 m3 k3, .int .i64 xc, .string xp] 24)) k (heap_alloc_new (w3.alloc (Obj.cells #[.slice a3 m3 k3, .int .i64 xc, .string xp] 24)) _)
             have e : (w3.alloc (Obj.cells #[.slice a3 m3 k3, .int .i64 xc, .string xp] 24)).heap.size = w3.heap.size + 1 := by simp
             rw [e] at h
             exact h)
           clear b0 b1 b2 hb ho3
           obtain ⟨b0, b1, b2, _⟩ := box_facts y4
           have y4b := box_alloc y4 (o := keyObj k) rfl
           obtain ⟨c0, c1, c2, _⟩ := box_facts y4b)
        | (go_at_call 22
           have HI3b := HI3.out
           have hBb := hB3
           refine calls_alloc2 fun W4 W5 hW4 hW5 => ?_
           rw [hW4] at HI3b y9 hBb kA y4
           obtain ⟨_, hs4, _⟩ := box_new hW4
           obtain ⟨_, hs5, hn5⟩ := box_new hW5
           have hb := hn5 _ (Nat.le_refl _)
           replace HI3b := HI3b.later hb (Nat.le_refl _)
           replace y9 := box_alloc y9 hW5
           replace y4 := box_alloc y4 hW5
           replace hBb := hBb.trans (hb.mono hBb.size)
           replace kA := kA.trans (hb.mono kA.size)
           clear b0 b1 b2 c0 c1 c2 hcv y4b HI3 hB3 hW4 hW5 hn5 hb
           (with_reducible refine (HST.out _ _ _ (HA.out _ kA) kA.size).mono ?_)
           rintro e w6 ⟨rfl, hb⟩
           replace HI3b := HI3b.later hb (Nat.le_refl _)
           replace y9 := box_later y9 hb (by omega)
           replace y4 := box_later y4 hb (by omega)
           replace hBb := hBb.trans (hb.mono hBb.size)
           have hs6 := hb.size
           clear hb kA HA
           obtain ⟨b0, b1, b2, _⟩ := box_facts y4)
        | (go_at_call 17; (with_reducible refine (hT.out _ hBb).mono ?_); rintro e w8 ⟨rfl, hB8⟩))
      go_ret
      exact ⟨rfl, hB8⟩
    · have HM := Lib.hid (HKP.out (tl_eq t1) (fun _ => tl_eq t3))
      go_enter Try.func5, Try.ntmps5
      go_wp2_with (first
        | (go_at_call 18
           (with_reducible refine (HN.out _).mono ?_)
           rintro e w2 ⟨q, rfl, hA, hb⟩
           have hB := ((Below.refl w.heap.size w).alloc (Nat.le_refl _) (Obj.cells #[.slice a1 is.length cap1, .int .i64 kc, .string p] 24)).trans (hb.mono (by simp))
           have y4 := box_later (heap_alloc_new w (Obj.cells #[.slice a1 is.length cap1, .int .i64 kc, .string p] 24)) hb (by simp)
           have hs2 := hb.size
           simp at hs2
           obtain ⟨b0, b1, b2, _⟩ := box_facts y4
           have HA := Lib.hid (fun (W : World) (h : Below w2.heap.size w2 W) => hA.later h (Nat.le_refl _))
           clear hb hA)
        | (go_at_call 21
           (with_reducible refine (HKY.out _ _ _ (HA.out _ (Below.refl _ _)) (Nat.le_refl _) hB).mono ?_)
           rintro e w3 ⟨a3, m3, k3, rfl, ho3, hb⟩
           have kA := hb.alloc hb.size (Obj.cells #[.slice a3 m3 k3, .int .i64 xc, .string xp] 24)
           have hB3 := hB.trans (kA.mono hB.size)
           replace y4 := box_later y4 kA (by omega)
           have hs3 := hb.size
           have y9 := heap_alloc_new w3 (Obj.cells #[.slice a3 m3 k3, .int .i64 xc, .string xp] 24)
           have HI3 := Lib.hid ((items_of_own ho3).1.later ((Below.refl w3.heap.size w3).alloc (Nat.le_refl _) (Obj.cells #[.slice a3 m3 k3, .int .i64 xc, .string xp] 24)) (Nat.le_refl _))
           have hcv : (convert 51 9 (.slice (some ⟨w3.heap.size + 1, 0, none⟩) 1 1)).run Try.prog ((w3.alloc (Obj.cells #[.slice a3 m3 k3, .int .i64 xc, .string xp] 24)).alloc (keyObj k)) = .ok (.string (ba [k])) ((w3.alloc (Obj.cells #[.slice a3 m3 k3, .int .i64 xc, .string xp] 24)).alloc (keyObj k)) := (by
             have h := conv_lit (w3.alloc (Obj.cells #[.slice a3 m3 k3, .int .i64 xc, .string xp] 24)) k (heap_alloc_new (w3.alloc (Obj.cells #[.slice a3 m3 k3, .int .i64 xc, .string xp] 24)) _)
             have e : (w3.alloc (Obj.cells #[.slice a3 m3 k3, .int .i64 xc, .string xp] 24)).heap.size = w3.heap.size + 1 := by simp
             rw [e] at h
             exact h)
           clear b0 b1 b2 hb ho3
           obtain ⟨b0, b1, b2, _⟩ := box_facts y4
           have y4b := box_alloc y4 (o := keyObj k) rfl
           obtain ⟨c0, c1, c2, _⟩ := box_facts y4b)
        | (go_at_call 22
           have HI3b := HI3.out
           have hBb := hB3
           refine calls_alloc2 fun W4 W5 hW4 hW5 => ?_
           rw [hW4] at HI3b y9 hBb kA y4
           obtain ⟨_, hs4, _⟩ := box_new hW4
           obtain ⟨_, hs5, hn5⟩ := box_new hW5
           have hb := hn5 _ (Nat.le_refl _)
           replace HI3b := HI3b.later hb (Nat.le_refl _)
           replace y9 := box_alloc y9 hW5
           replace y4 := box_alloc y4 hW5
           replace hBb := hBb.trans (hb.mono hBb.size)
           replace kA := kA.trans (hb.mono kA.size)
           clear b0 b1 b2 c0 c1 c2 hcv y4b HI3 hB3 hW4 hW5 hn5 hb
           (with_reducible refine (HST.out _ _ _ (HA.out _ kA) kA.size).mono ?_)
           rintro e w6 ⟨rfl, hb⟩
           replace HI3b := HI3b.later hb (Nat.le_refl _)
           replace y9 := box_later y9 hb (by omega)
           replace y4 := box_later y4 hb (by omega)
           replace hBb := hBb.trans (hb.mono hBb.size)
           have hs6 := hb.size
           clear hb kA HA
           obtain ⟨b0, b1, b2, _⟩ := box_facts y4))
      go_upto_region 1 with fail
      go_cut [14] (fun s14 wx => ∃ N, s14 = .pointer (some ⟨N, 0, none⟩) ∧ wx.heap[N]? = some (Obj.cells #[.slice x1 n1' k1, .int .i64 kc, .string p] 24) ∧ Below w6.heap.size w6 wx ∧ w6.heap.size ≤ N)
      case first =>
        have q0' : (w6.alloc zeroBuf).cell? ⟨w.heap.size, 0, none⟩ = some (.slice a1 is.length cap1) := by rw [World.cell?_alloc_past _ _ _ (by omega)]; exact b0
        have q1' : (w6.alloc zeroBuf).cell? ⟨w.heap.size, 1, none⟩ = some (.int .i64 kc) := by rw [World.cell?_alloc_past _ _ _ (by omega)]; exact b1
        have q2' : (w6.alloc zeroBuf).cell? ⟨w.heap.size, 2, none⟩ = some (.string p) := by rw [World.cell?_alloc_past _ _ _ (by omega)]; exact b2
        go_region
        all_goals go_wp2_with fail
        all_goals go_meet
        all_goals first
          | exact ⟨_, rfl, heap_alloc_new _ _, ((Below.refl _ _).drew).alloc (by simp) _, by simp⟩
          | exact ⟨_, rfl, box_set3 (heap_alloc_new _ _), Below.setCell (Below.setCell (Below.setCell (((Below.refl _ _).alloc (Nat.le_refl _) _).drew) (Nat.le_refl _) _) (Nat.le_refl _) _) (Nat.le_refl _) _, Nat.le_refl _⟩
      case rest =>
        obtain ⟨N, rfl, hN, hbN, hNl⟩ := hcut
        have hM := HM.out
        subst hM
        have hNb := box_lt hN
        have y4c := box_later y4 hbN (by omega)
        have y9c := box_later y9 hbN (by omega)
        have hBc := hBb.trans (hbN.mono (by omega))
        have hIc := HI3b.later hbN (Nat.le_refl _)
        have hsN := hbN.size
        clear b0 b1 b2 y4 y9 HI3b hBb hbN HKY HKP HN hT HST
        obtain ⟨b0, b1, b2, _⟩ := box_facts y4c
        go_wp2
        have hb := (Below.refl wc.heap.size wc).alloc (Nat.le_refl _) (Obj.cells #[.slice x2 n2' k2', .int .i64 0, .string { data := #[] }] 24)
        replace y9c := box_later y9c hb (by omega)
        replace hN := box_later hN hb hNb
        replace hBc := hBc.trans (hb.mono (by omega))
        replace hIc := hIc.later hb (Nat.le_refl _)
        obtain ⟨d0, d1, d2, _⟩ := box_facts y9c
        obtain ⟨f0, f1, f2, _⟩ := box_facts hN
        obtain ⟨g0, g1, g2, _⟩ := box_facts (heap_alloc_new wc (Obj.cells #[.slice x2 n2' k2', .int .i64 0, .string { data := #[] }] 24))
        obtain ⟨Wx, hWx⟩ : ∃ Wx, wc.alloc (Obj.cells #[.slice x2 n2' k2', .int .i64 0, .string { data := #[] }] 24) = Wx := ⟨_, rfl⟩
        have hzx : wc.heap.size + 1 ≤ Wx.heap.size := Nat.le_of_eq (box_new hWx).2.1.symm
        rw [hWx] at d0 d1 d2 f0 f1 f2 g0 g1 g2 hIc hBc ⊢
        clear hWx
        have q39 : w3.heap.size < wc.heap.size := by omega
        have qw : w.heap.size ≤ w3.heap.size := by omega
        clear b0 b1 b2 y4c y9c hN hb
        have hcvA : ∀ W : World, (convert 51 9 (.slice (some ⟨W.heap.size, 0, none⟩) 1 1)).run Try.prog (W.alloc (Obj.cells #[.int .u8 k.toNat] 5)) = .ok (.string (ba [k])) (W.alloc (Obj.cells #[.int .u8 k.toNat] 5)) := fun W => conv_at (heap_alloc_new W _)
        have hcvD : ∀ W : World, (convert 51 9 (.slice (some ⟨W.heap.size, 0, none⟩) 1 1)).run Try.prog (W.drew.alloc (Obj.cells #[.int .u8 k.toNat] 5)) = .ok (.string (ba [k])) (W.drew.alloc (Obj.cells #[.int .u8 k.toNat] 5)) := fun W => conv_at (heap_alloc_new W.drew _)
        have d0y : (Wx.alloc (Obj.cells #[.int .u8 k.toNat] 5)).cell? ⟨w3.heap.size, 0, none⟩ = some (.slice a3 m3 k3) := by rw [World.cell?_alloc_past _ _ _ (by omega)]; exact d0
        have d1y : (Wx.alloc (Obj.cells #[.int .u8 k.toNat] 5)).cell? ⟨w3.heap.size, 1, none⟩ = some (.int .i64 xc) := by rw [World.cell?_alloc_past _ _ _ (by omega)]; exact d1
        have d2y : (Wx.alloc (Obj.cells #[.int .u8 k.toNat] 5)).cell? ⟨w3.heap.size, 2, none⟩ = some (.string xp) := by rw [World.cell?_alloc_past _ _ _ (by omega)]; exact d2
        have f0y : (Wx.alloc (Obj.cells #[.int .u8 k.toNat] 5)).cell? ⟨N, 0, none⟩ = some (.slice x1 n1' k1) := by rw [World.cell?_alloc_past _ _ _ (by omega)]; exact f0
        have f1y : (Wx.alloc (Obj.cells #[.int .u8 k.toNat] 5)).cell? ⟨N, 1, none⟩ = some (.int .i64 kc) := by rw [World.cell?_alloc_past _ _ _ (by omega)]; exact f1
        have f2y : (Wx.alloc (Obj.cells #[.int .u8 k.toNat] 5)).cell? ⟨N, 2, none⟩ = some (.string p) := by rw [World.cell?_alloc_past _ _ _ (by omega)]; exact f2
        have g0y : (Wx.alloc (Obj.cells #[.int .u8 k.toNat] 5)).cell? ⟨wc.heap.size, 0, none⟩ = some (.slice x2 n2' k2') := by rw [World.cell?_alloc_past _ _ _ (by omega)]; exact g0
        have g1y : (Wx.alloc (Obj.cells #[.int .u8 k.toNat] 5)).cell? ⟨wc.heap.size, 1, none⟩ = some (.int .i64 0) := by rw [World.cell?_alloc_past _ _ _ (by omega)]; exact g1
        have g2y : (Wx.alloc (Obj.cells #[.int .u8 k.toNat] 5)).cell? ⟨wc.heap.size, 2, none⟩ = some (.string { data := #[] }) := by rw [World.cell?_alloc_past _ _ _ (by omega)]; exact g2
        have hcvE : (convert 51 9 (.slice (some ⟨Wx.heap.size, 0, none⟩) 1 1)).run Try.prog (Wx.alloc (Obj.cells #[.int .u8 k.toNat] 5)).drew = .ok (.string (ba [k])) (Wx.alloc (Obj.cells #[.int .u8 k.toNat] 5)).drew := conv_at (W := (Wx.alloc (Obj.cells #[.int .u8 k.toNat] 5)).drew) (heap_alloc_new Wx _)
        have zky : (Wx.alloc (Obj.cells #[.int .u8 k.toNat] 5)).heap[Wx.heap.size]? = some (keyObj k) := heap_alloc_new Wx _
        have hIy := hIc.later ((Below.refl Wx.heap.size Wx).alloc (Nat.le_refl _) (Obj.cells #[.int .u8 k.toNat] 5)) (Nat.le_refl _)
        have hBy := hBc.trans ((Below.refl w.heap.size Wx).alloc (by omega) (Obj.cells #[.int .u8 k.toNat] 5))
        go_region_held3 (fun w' => w'.cell? ⟨w3.heap.size, 0, none⟩ = some (.slice a3 m3 k3) ∧ w'.cell? ⟨w3.heap.size, 1, none⟩ = some (.int .i64 xc) ∧ w'.cell? ⟨w3.heap.size, 2, none⟩ = some (.string xp) ∧ w'.cell? ⟨N, 0, none⟩ = some (.slice x1 n1' k1) ∧ w'.cell? ⟨N, 1, none⟩ = some (.int .i64 kc) ∧ w'.cell? ⟨N, 2, none⟩ = some (.string p) ∧ w'.cell? ⟨wc.heap.size, 0, none⟩ = some (.slice x2 n2' k2') ∧ w'.cell? ⟨wc.heap.size, 1, none⟩ = some (.int .i64 0) ∧ w'.cell? ⟨wc.heap.size, 2, none⟩ = some (.string { data := #[] }) ∧ ItR w' (.slice a3 m3 k3) xi ∧ Below w.heap.size w w' ∧ wc.heap.size + 1 ≤ w'.heap.size)
          (first
            | exact ⟨d0, d1, d2, f0, f1, f2, g0, g1, g2, hIc.later ((Below.refl _ _).drew) (Nat.le_refl _), hBc.drew, by first | omega | (simp; done) | (simp; omega)⟩
            | exact ⟨d0y, d1y, d2y, f0y, f1y, f2y, g0y, g1y, g2y, hIy.later ((Below.refl _ _).drew) (Nat.le_refl _), hBy.drew, by first | omega | (simp; done) | (simp; omega)⟩
            | (go_split_ands; (refine ⟨?_, ?_, ?_, ?_, ?_, ?_, ?_, ?_, ?_, ?_, ?_, ?_⟩ <;> assumption))
            | (go_split_ands
               refine ⟨?_, ?_, ?_, ?_, ?_, ?_, ?_, ?_, ?_, ?_, ?_, ?_⟩
               · (rw [World.cell?_alloc_past _ _ _ (by first | omega | (simp; done) | (simp; omega))]; assumption)
               · (rw [World.cell?_alloc_past _ _ _ (by first | omega | (simp; done) | (simp; omega))]; assumption)
               · (rw [World.cell?_alloc_past _ _ _ (by first | omega | (simp; done) | (simp; omega))]; assumption)
               · (rw [World.cell?_alloc_past _ _ _ (by first | omega | (simp; done) | (simp; omega))]; assumption)
               · (rw [World.cell?_alloc_past _ _ _ (by first | omega | (simp; done) | (simp; omega))]; assumption)
               · (rw [World.cell?_alloc_past _ _ _ (by first | omega | (simp; done) | (simp; omega))]; assumption)
               · (rw [World.cell?_alloc_past _ _ _ (by first | omega | (simp; done) | (simp; omega))]; assumption)
               · (rw [World.cell?_alloc_past _ _ _ (by first | omega | (simp; done) | (simp; omega))]; assumption)
               · (rw [World.cell?_alloc_past _ _ _ (by first | omega | (simp; done) | (simp; omega))]; assumption)
               · exact ItR.later (by assumption) ((Below.refl _ _).alloc (Nat.le_refl _) _) (Nat.le_refl _)
               · exact Below.alloc (by assumption) (by omega) _
               · (first | omega | (simp; done) | (simp; omega)))
            | (go_split_ands
               refine ⟨?_, ?_, ?_, ?_, ?_, ?_, ?_, ?_, ?_, ?_, ?_, ?_⟩
               · (rw [hb.cell (by first | omega | (simp; done) | (simp; omega))]; assumption)
               · (rw [hb.cell (by first | omega | (simp; done) | (simp; omega))]; assumption)
               · (rw [hb.cell (by first | omega | (simp; done) | (simp; omega))]; assumption)
               · (rw [hb.cell (by first | omega | (simp; done) | (simp; omega))]; assumption)
               · (rw [hb.cell (by first | omega | (simp; done) | (simp; omega))]; assumption)
               · (rw [hb.cell (by first | omega | (simp; done) | (simp; omega))]; assumption)
               · (rw [hb.cell (by first | omega | (simp; done) | (simp; omega))]; assumption)
               · (rw [hb.cell (by first | omega | (simp; done) | (simp; omega))]; assumption)
               · (rw [hb.cell (by first | omega | (simp; done) | (simp; omega))]; assumption)
               · exact ItR.later (by assumption) hb (Nat.le_refl _)
               · exact Below.trans (by assumption) (hb.mono (by omega))
               · exact Nat.le_trans (by assumption) hb.size))
          (first
            | (go_at_call 14; go_split_ands; (with_reducible refine (HRX.out _ _ ((by assumption))).mono ?_); rintro e w9 ⟨rfl, hb⟩; have zk : w9.heap[Wx.heap.size]? = some (keyObj k) := (hb.block Wx.heap.size (by simp)).trans zky; have hcv := conv_at zk)
            | (go_at_call 14; go_split_ands; refine calls_alloc fun W1 hW1 => ?_; obtain ⟨zk, hz1, hn⟩ := box_new hW1; subst hW1; clear hn; (try simp only [World.size_drew] at zk); (with_reducible refine (HRX.out _ _ ((by assumption))).mono ?_); rintro e w9 ⟨rfl, hb⟩; replace zk := box_later zk hb (box_lt zk); have hcv := conv_at zk)
            | (go_at_call 14; go_split_ands; have zk0 := zk; (with_reducible refine (HRX.out _ _ ((by assumption))).mono ?_); rintro e w9 ⟨rfl, hb⟩; replace zk := box_later zk hb (box_lt zk); have hcv := conv_at zk)
            | (go_at_call 14; go_split_ands; (with_reducible refine (HRX.out _ _ ((by assumption))).mono ?_); rintro e w9 ⟨rfl, hb⟩)
            | (go_at_call 14; go_split_ands; (with_reducible refine (HRB.out _ _ (HR1.out.later (by assumption) (Nat.le_refl _))).mono ?_); rintro e w9 ⟨rfl, hb⟩; have zk : w9.heap[Wx.heap.size]? = some (keyObj k) := (hb.block Wx.heap.size (by simp)).trans zky; have hcv := conv_at zk)
            | (go_at_call 14; go_split_ands; refine calls_alloc fun W1 hW1 => ?_; obtain ⟨zk, hz1, hn⟩ := box_new hW1; subst hW1; clear hn; (try simp only [World.size_drew] at zk); (with_reducible refine (HRB.out _ _ (HR1.out.later (by assumption) (Nat.le_refl _))).mono ?_); rintro e w9 ⟨rfl, hb⟩; replace zk := box_later zk hb (box_lt zk); have hcv := conv_at zk)
            | (go_at_call 14; go_split_ands; have zk0 := zk; (with_reducible refine (HRB.out _ _ (HR1.out.later (by assumption) (Nat.le_refl _))).mono ?_); rintro e w9 ⟨rfl, hb⟩; replace zk := box_later zk hb (box_lt zk); have hcv := conv_at zk)
            | (go_at_call 14; go_split_ands; (with_reducible refine (HRB.out _ _ (HR1.out.later (by assumption) (Nat.le_refl _))).mono ?_); rintro e w9 ⟨rfl, hb⟩)
            | (go_at_call 14; go_split_ands; (with_reducible refine (HRA.out _ _ (HR2.out.later (by assumption) (Nat.le_refl _))).mono ?_); rintro e w9 ⟨rfl, hb⟩; have zk : w9.heap[Wx.heap.size]? = some (keyObj k) := (hb.block Wx.heap.size (by simp)).trans zky; have hcv := conv_at zk)
            | (go_at_call 14; go_split_ands; refine calls_alloc fun W1 hW1 => ?_; obtain ⟨zk, hz1, hn⟩ := box_new hW1; subst hW1; clear hn; (try simp only [World.size_drew] at zk); (with_reducible refine (HRA.out _ _ (HR2.out.later (by assumption) (Nat.le_refl _))).mono ?_); rintro e w9 ⟨rfl, hb⟩; replace zk := box_later zk hb (box_lt zk); have hcv := conv_at zk)
            | (go_at_call 14; go_split_ands; have zk0 := zk; (with_reducible refine (HRA.out _ _ (HR2.out.later (by assumption) (Nat.le_refl _))).mono ?_); rintro e w9 ⟨rfl, hb⟩; replace zk := box_later zk hb (box_lt zk); have hcv := conv_at zk)
            | (go_at_call 14; go_split_ands; (with_reducible refine (HRA.out _ _ (HR2.out.later (by assumption) (Nat.le_refl _))).mono ?_); rintro e w9 ⟨rfl, hb⟩)
            | (go_at_call 17; go_split_ands; (with_reducible refine (HWK.out _).mono ?_); rintro e w9 ⟨rfl, hb⟩; have zk : w9.heap[Wx.heap.size]? = some (keyObj k) := (hb.block Wx.heap.size (by simp)).trans zky; have hcv := conv_at zk)
            | (go_at_call 17; go_split_ands; refine calls_alloc fun W1 hW1 => ?_; obtain ⟨zk, hz1, hn⟩ := box_new hW1; subst hW1; clear hn; (try simp only [World.size_drew] at zk); (with_reducible refine (HWK.out _).mono ?_); rintro e w9 ⟨rfl, hb⟩; replace zk := box_later zk hb (box_lt zk); have hcv := conv_at zk)
            | (go_at_call 17; go_split_ands; have zk0 := zk; (with_reducible refine (HWK.out _).mono ?_); rintro e w9 ⟨rfl, hb⟩; replace zk := box_later zk hb (box_lt zk); have hcv := conv_at zk)
            | (go_at_call 17; go_split_ands; (with_reducible refine (HWK.out _).mono ?_); rintro e w9 ⟨rfl, hb⟩))
        all_goals
          rename_i hHeld
          obtain ⟨_, _, _, _, _, _, _, _, _, _, hBf, _⟩ := hHeld
          go_wp2
          go_ret
          exact ⟨rfl, hBf⟩
  · have HM := Lib.hid (HKP.out (tl_eq t1) (fun h => absurd h (tl_emp' t2)))
    go_enter Try.func5, Try.ntmps5
    go_wp2_with (first
      | (go_at_call 18
         (with_reducible refine (HN.out _).mono ?_)
         rintro e w2 ⟨q, rfl, hA, hb⟩
         have hB := ((Below.refl w.heap.size w).alloc (Nat.le_refl _) (Obj.cells #[.slice a1 is.length cap1, .int .i64 kc, .string p] 24)).trans (hb.mono (by simp))
         have y4 := box_later (heap_alloc_new w (Obj.cells #[.slice a1 is.length cap1, .int .i64 kc, .string p] 24)) hb (by simp)
         have hs2 := hb.size
         simp at hs2
         obtain ⟨b0, b1, b2, _⟩ := box_facts y4
         have HA := Lib.hid (fun (W : World) (h : Below w2.heap.size w2 W) => hA.later h (Nat.le_refl _))
         clear hb hA)
      | (go_at_call 21
         (with_reducible refine (HKY.out _ _ _ (HA.out _ (Below.refl _ _)) (Nat.le_refl _) hB).mono ?_)
         rintro e w3 ⟨a3, m3, k3, rfl, ho3, hb⟩
         have kA := hb.alloc hb.size (Obj.cells #[.slice a3 m3 k3, .int .i64 xc, .string xp] 24)
         have hB3 := hB.trans (kA.mono hB.size)
         replace y4 := box_later y4 kA (by omega)
         have hs3 := hb.size
         have y9 := heap_alloc_new w3 (Obj.cells #[.slice a3 m3 k3, .int .i64 xc, .string xp] 24)
         have HI3 := Lib.hid ((items_of_own ho3).1.later ((Below.refl w3.heap.size w3).alloc (Nat.le_refl _) (Obj.cells #[.slice a3 m3 k3, .int .i64 xc, .string xp] 24)) (Nat.le_refl _))
         have hcv : (convert 51 9 (.slice (some ⟨w3.heap.size + 1, 0, none⟩) 1 1)).run Try.prog ((w3.alloc (Obj.cells #[.slice a3 m3 k3, .int .i64 xc, .string xp] 24)).alloc (keyObj k)) = .ok (.string (ba [k])) ((w3.alloc (Obj.cells #[.slice a3 m3 k3, .int .i64 xc, .string xp] 24)).alloc (keyObj k)) := (by
           have h := conv_lit (w3.alloc (Obj.cells #[.slice a3 m3 k3, .int .i64 xc, .string xp] 24)) k (heap_alloc_new (w3.alloc (Obj.cells #[.slice a3 m3 k3, .int .i64 xc, .string xp] 24)) _)
           have e : (w3.alloc (Obj.cells #[.slice a3 m3 k3, .int .i64 xc, .string xp] 24)).heap.size = w3.heap.size + 1 := by simp
           rw [e] at h
           exact h)
         clear b0 b1 b2 hb ho3
         obtain ⟨b0, b1, b2, _⟩ := box_facts y4
         have y4b := box_alloc y4 (o := keyObj k) rfl
         obtain ⟨c0, c1, c2, _⟩ := box_facts y4b)
      | (go_at_call 22
         have HI3b := HI3.out
         have hBb := hB3
         refine calls_alloc2 fun W4 W5 hW4 hW5 => ?_
         rw [hW4] at HI3b y9 hBb kA y4
         obtain ⟨_, hs4, _⟩ := box_new hW4
         obtain ⟨_, hs5, hn5⟩ := box_new hW5
         have hb := hn5 _ (Nat.le_refl _)
         replace HI3b := HI3b.later hb (Nat.le_refl _)
         replace y9 := box_alloc y9 hW5
         replace y4 := box_alloc y4 hW5
         replace hBb := hBb.trans (hb.mono hBb.size)
         replace kA := kA.trans (hb.mono kA.size)
         clear b0 b1 b2 c0 c1 c2 hcv y4b HI3 hB3 hW4 hW5 hn5 hb
         (with_reducible refine (HST.out _ _ _ (HA.out _ kA) kA.size).mono ?_)
         rintro e w6 ⟨rfl, hb⟩
         replace HI3b := HI3b.later hb (Nat.le_refl _)
         replace y9 := box_later y9 hb (by omega)
         replace y4 := box_later y4 hb (by omega)
         replace hBb := hBb.trans (hb.mono hBb.size)
         have hs6 := hb.size
         clear hb kA HA
         obtain ⟨b0, b1, b2, _⟩ := box_facts y4))
    go_upto_region 1 with fail
    go_cut [14] (fun s14 wx => ∃ N, s14 = .pointer (some ⟨N, 0, none⟩) ∧ wx.heap[N]? = some (Obj.cells #[.slice x1 n1' k1, .int .i64 kc, .string p] 24) ∧ Below w6.heap.size w6 wx ∧ w6.heap.size ≤ N)
    case first =>
      have q0' : (w6.alloc zeroBuf).cell? ⟨w.heap.size, 0, none⟩ = some (.slice a1 is.length cap1) := by rw [World.cell?_alloc_past _ _ _ (by omega)]; exact b0
      have q1' : (w6.alloc zeroBuf).cell? ⟨w.heap.size, 1, none⟩ = some (.int .i64 kc) := by rw [World.cell?_alloc_past _ _ _ (by omega)]; exact b1
      have q2' : (w6.alloc zeroBuf).cell? ⟨w.heap.size, 2, none⟩ = some (.string p) := by rw [World.cell?_alloc_past _ _ _ (by omega)]; exact b2
      go_region
      all_goals go_wp2_with fail
      all_goals go_meet
      all_goals first
        | exact ⟨_, rfl, heap_alloc_new _ _, ((Below.refl _ _).drew).alloc (by simp) _, by simp⟩
        | exact ⟨_, rfl, box_set3 (heap_alloc_new _ _), Below.setCell (Below.setCell (Below.setCell (((Below.refl _ _).alloc (Nat.le_refl _) _).drew) (Nat.le_refl _) _) (Nat.le_refl _) _) (Nat.le_refl _) _, Nat.le_refl _⟩
    case rest =>
      obtain ⟨N, rfl, hN, hbN, hNl⟩ := hcut
      have hM := HM.out
      subst hM
      have hNb := box_lt hN
      have y4c := box_later y4 hbN (by omega)
      have y9c := box_later y9 hbN (by omega)
      have hBc := hBb.trans (hbN.mono (by omega))
      have hIc := HI3b.later hbN (Nat.le_refl _)
      have hsN := hbN.size
      clear b0 b1 b2 y4 y9 HI3b hBb hbN HKY HKP HN hT HST
      obtain ⟨b0, b1, b2, _⟩ := box_facts y4c
      go_wp2
      have hb := (Below.refl wc.heap.size wc).alloc (Nat.le_refl _) (Obj.cells #[.slice x2 n2' k2', .int .i64 0, .string { data := #[] }] 24)
      replace y9c := box_later y9c hb (by omega)
      replace hN := box_later hN hb hNb
      replace hBc := hBc.trans (hb.mono (by omega))
      replace hIc := hIc.later hb (Nat.le_refl _)
      obtain ⟨d0, d1, d2, _⟩ := box_facts y9c
      obtain ⟨f0, f1, f2, _⟩ := box_facts hN
      obtain ⟨g0, g1, g2, _⟩ := box_facts (heap_alloc_new wc (Obj.cells #[.slice x2 n2' k2', .int .i64 0, .string { data := #[] }] 24))
      obtain ⟨Wx, hWx⟩ : ∃ Wx, wc.alloc (Obj.cells #[.slice x2 n2' k2', .int .i64 0, .string { data := #[] }] 24) = Wx := ⟨_, rfl⟩
      have hzx : wc.heap.size + 1 ≤ Wx.heap.size := Nat.le_of_eq (box_new hWx).2.1.symm
      rw [hWx] at d0 d1 d2 f0 f1 f2 g0 g1 g2 hIc hBc ⊢
      clear hWx
      have q39 : w3.heap.size < wc.heap.size := by omega
      have qw : w.heap.size ≤ w3.heap.size := by omega
      clear b0 b1 b2 y4c y9c hN hb
      have hcvA : ∀ W : World, (convert 51 9 (.slice (some ⟨W.heap.size, 0, none⟩) 1 1)).run Try.prog (W.alloc (Obj.cells #[.int .u8 k.toNat] 5)) = .ok (.string (ba [k])) (W.alloc (Obj.cells #[.int .u8 k.toNat] 5)) := fun W => conv_at (heap_alloc_new W _)
      have hcvD : ∀ W : World, (convert 51 9 (.slice (some ⟨W.heap.size, 0, none⟩) 1 1)).run Try.prog (W.drew.alloc (Obj.cells #[.int .u8 k.toNat] 5)) = .ok (.string (ba [k])) (W.drew.alloc (Obj.cells #[.int .u8 k.toNat] 5)) := fun W => conv_at (heap_alloc_new W.drew _)
      have d0y : (Wx.alloc (Obj.cells #[.int .u8 k.toNat] 5)).cell? ⟨w3.heap.size, 0, none⟩ = some (.slice a3 m3 k3) := by rw [World.cell?_alloc_past _ _ _ (by omega)]; exact d0
      have d1y : (Wx.alloc (Obj.cells #[.int .u8 k.toNat] 5)).cell? ⟨w3.heap.size, 1, none⟩ = some (.int .i64 xc) := by rw [World.cell?_alloc_past _ _ _ (by omega)]; exact d1
      have d2y : (Wx.alloc (Obj.cells #[.int .u8 k.toNat] 5)).cell? ⟨w3.heap.size, 2, none⟩ = some (.string xp) := by rw [World.cell?_alloc_past _ _ _ (by omega)]; exact d2
      have f0y : (Wx.alloc (Obj.cells #[.int .u8 k.toNat] 5)).cell? ⟨N, 0, none⟩ = some (.slice x1 n1' k1) := by rw [World.cell?_alloc_past _ _ _ (by omega)]; exact f0
      have f1y : (Wx.alloc (Obj.cells #[.int .u8 k.toNat] 5)).cell? ⟨N, 1, none⟩ = some (.int .i64 kc) := by rw [World.cell?_alloc_past _ _ _ (by omega)]; exact f1
      have f2y : (Wx.alloc (Obj.cells #[.int .u8 k.toNat] 5)).cell? ⟨N, 2, none⟩ = some (.string p) := by rw [World.cell?_alloc_past _ _ _ (by omega)]; exact f2
      have g0y : (Wx.alloc (Obj.cells #[.int .u8 k.toNat] 5)).cell? ⟨wc.heap.size, 0, none⟩ = some (.slice x2 n2' k2') := by rw [World.cell?_alloc_past _ _ _ (by omega)]; exact g0
      have g1y : (Wx.alloc (Obj.cells #[.int .u8 k.toNat] 5)).cell? ⟨wc.heap.size, 1, none⟩ = some (.int .i64 0) := by rw [World.cell?_alloc_past _ _ _ (by omega)]; exact g1
      have g2y : (Wx.alloc (Obj.cells #[.int .u8 k.toNat] 5)).cell? ⟨wc.heap.size, 2, none⟩ = some (.string { data := #[] }) := by rw [World.cell?_alloc_past _ _ _ (by omega)]; exact g2
      have hcvE : (convert 51 9 (.slice (some ⟨Wx.heap.size, 0, none⟩) 1 1)).run Try.prog (Wx.alloc (Obj.cells #[.int .u8 k.toNat] 5)).drew = .ok (.string (ba [k])) (Wx.alloc (Obj.cells #[.int .u8 k.toNat] 5)).drew := conv_at (W := (Wx.alloc (Obj.cells #[.int .u8 k.toNat] 5)).drew) (heap_alloc_new Wx _)
      have zky : (Wx.alloc (Obj.cells #[.int .u8 k.toNat] 5)).heap[Wx.heap.size]? = some (keyObj k) := heap_alloc_new Wx _
      have hIy := hIc.later ((Below.refl Wx.heap.size Wx).alloc (Nat.le_refl _) (Obj.cells #[.int .u8 k.toNat] 5)) (Nat.le_refl _)
      have hBy := hBc.trans ((Below.refl w.heap.size Wx).alloc (by omega) (Obj.cells #[.int .u8 k.toNat] 5))
      go_region_held3 (fun w' => w'.cell? ⟨w3.heap.size, 0, none⟩ = some (.slice a3 m3 k3) ∧ w'.cell? ⟨w3.heap.size, 1, none⟩ = some (.int .i64 xc) ∧ w'.cell? ⟨w3.heap.size, 2, none⟩ = some (.string xp) ∧ w'.cell? ⟨N, 0, none⟩ = some (.slice x1 n1' k1) ∧ w'.cell? ⟨N, 1, none⟩ = some (.int .i64 kc) ∧ w'.cell? ⟨N, 2, none⟩ = some (.string p) ∧ w'.cell? ⟨wc.heap.size, 0, none⟩ = some (.slice x2 n2' k2') ∧ w'.cell? ⟨wc.heap.size, 1, none⟩ = some (.int .i64 0) ∧ w'.cell? ⟨wc.heap.size, 2, none⟩ = some (.string { data := #[] }) ∧ ItR w' (.slice a3 m3 k3) xi ∧ Below w.heap.size w w' ∧ wc.heap.size + 1 ≤ w'.heap.size)
        (first
          | exact ⟨d0, d1, d2, f0, f1, f2, g0, g1, g2, hIc.later ((Below.refl _ _).drew) (Nat.le_refl _), hBc.drew, by first | omega | (simp; done) | (simp; omega)⟩
          | exact ⟨d0y, d1y, d2y, f0y, f1y, f2y, g0y, g1y, g2y, hIy.later ((Below.refl _ _).drew) (Nat.le_refl _), hBy.drew, by first | omega | (simp; done) | (simp; omega)⟩
          | (go_split_ands; (refine ⟨?_, ?_, ?_, ?_, ?_, ?_, ?_, ?_, ?_, ?_, ?_, ?_⟩ <;> assumption))
          | (go_split_ands
             refine ⟨?_, ?_, ?_, ?_, ?_, ?_, ?_, ?_, ?_, ?_, ?_, ?_⟩
             · (rw [World.cell?_alloc_past _ _ _ (by first | omega | (simp; done) | (simp; omega))]; assumption)
             · (rw [World.cell?_alloc_past _ _ _ (by first | omega | (simp; done) | (simp; omega))]; assumption)
             · (rw [World.cell?_alloc_past _ _ _ (by first | omega | (simp; done) | (simp; omega))]; assumption)
             · (rw [World.cell?_alloc_past _ _ _ (by first | omega | (simp; done) | (simp; omega))]; assumption)
             · (rw [World.cell?_alloc_past _ _ _ (by first | omega | (simp; done) | (simp; omega))]; assumption)
             · (rw [World.cell?_alloc_past _ _ _ (by first | omega | (simp; done) | (simp; omega))]; assumption)
             · (rw [World.cell?_alloc_past _ _ _ (by first | omega | (simp; done) | (simp; omega))]; assumption)
             · (rw [World.cell?_alloc_past _ _ _ (by first | omega | (simp; done) | (simp; omega))]; assumption)
             · (rw [World.cell?_alloc_past _ _ _ (by first | omega | (simp; done) | (simp; omega))]; assumption)
             · exact ItR.later (by assumption) ((Below.refl _ _).alloc (Nat.le_refl _) _) (Nat.le_refl _)
             · exact Below.alloc (by assumption) (by omega) _
             · (first | omega | (simp; done) | (simp; omega)))
          | (go_split_ands
             refine ⟨?_, ?_, ?_, ?_, ?_, ?_, ?_, ?_, ?_, ?_, ?_, ?_⟩
             · (rw [hb.cell (by first | omega | (simp; done) | (simp; omega))]; assumption)
             · (rw [hb.cell (by first | omega | (simp; done) | (simp; omega))]; assumption)
             · (rw [hb.cell (by first | omega | (simp; done) | (simp; omega))]; assumption)
             · (rw [hb.cell (by first | omega | (simp; done) | (simp; omega))]; assumption)
             · (rw [hb.cell (by first | omega | (simp; done) | (simp; omega))]; assumption)
             · (rw [hb.cell (by first | omega | (simp; done) | (simp; omega))]; assumption)
             · (rw [hb.cell (by first | omega | (simp; done) | (simp; omega))]; assumption)
             · (rw [hb.cell (by first | omega | (simp; done) | (simp; omega))]; assumption)
             · (rw [hb.cell (by first | omega | (simp; done) | (simp; omega))]; assumption)
             · exact ItR.later (by assumption) hb (Nat.le_refl _)
             · exact Below.trans (by assumption) (hb.mono (by omega))
             · exact Nat.le_trans (by assumption) hb.size))
        (first
          | (go_at_call 14; go_split_ands; (with_reducible refine (HRX.out _ _ ((by assumption))).mono ?_); rintro e w9 ⟨rfl, hb⟩; have zk : w9.heap[Wx.heap.size]? = some (keyObj k) := (hb.block Wx.heap.size (by simp)).trans zky; have hcv := conv_at zk)
          | (go_at_call 14; go_split_ands; refine calls_alloc fun W1 hW1 => ?_; obtain ⟨zk, hz1, hn⟩ := box_new hW1; subst hW1; clear hn; (try simp only [World.size_drew] at zk); (with_reducible refine (HRX.out _ _ ((by assumption))).mono ?_); rintro e w9 ⟨rfl, hb⟩; replace zk := box_later zk hb (box_lt zk); have hcv := conv_at zk)
          | (go_at_call 14; go_split_ands; have zk0 := zk; (with_reducible refine (HRX.out _ _ ((by assumption))).mono ?_); rintro e w9 ⟨rfl, hb⟩; replace zk := box_later zk hb (box_lt zk); have hcv := conv_at zk)
          | (go_at_call 14; go_split_ands; (with_reducible refine (HRX.out _ _ ((by assumption))).mono ?_); rintro e w9 ⟨rfl, hb⟩)
          | (go_at_call 14; go_split_ands; (with_reducible refine (HRB.out _ _ (HR1.out.later (by assumption) (Nat.le_refl _))).mono ?_); rintro e w9 ⟨rfl, hb⟩; have zk : w9.heap[Wx.heap.size]? = some (keyObj k) := (hb.block Wx.heap.size (by simp)).trans zky; have hcv := conv_at zk)
          | (go_at_call 14; go_split_ands; refine calls_alloc fun W1 hW1 => ?_; obtain ⟨zk, hz1, hn⟩ := box_new hW1; subst hW1; clear hn; (try simp only [World.size_drew] at zk); (with_reducible refine (HRB.out _ _ (HR1.out.later (by assumption) (Nat.le_refl _))).mono ?_); rintro e w9 ⟨rfl, hb⟩; replace zk := box_later zk hb (box_lt zk); have hcv := conv_at zk)
          | (go_at_call 14; go_split_ands; have zk0 := zk; (with_reducible refine (HRB.out _ _ (HR1.out.later (by assumption) (Nat.le_refl _))).mono ?_); rintro e w9 ⟨rfl, hb⟩; replace zk := box_later zk hb (box_lt zk); have hcv := conv_at zk)
          | (go_at_call 14; go_split_ands; (with_reducible refine (HRB.out _ _ (HR1.out.later (by assumption) (Nat.le_refl _))).mono ?_); rintro e w9 ⟨rfl, hb⟩)
          | (go_at_call 14; go_split_ands; (with_reducible refine (HRA.out _ _ (HR2.out.later (by assumption) (Nat.le_refl _))).mono ?_); rintro e w9 ⟨rfl, hb⟩; have zk : w9.heap[Wx.heap.size]? = some (keyObj k) := (hb.block Wx.heap.size (by simp)).trans zky; have hcv := conv_at zk)
          | (go_at_call 14; go_split_ands; refine calls_alloc fun W1 hW1 => ?_; obtain ⟨zk, hz1, hn⟩ := box_new hW1; subst hW1; clear hn; (try simp only [World.size_drew] at zk); (with_reducible refine (HRA.out _ _ (HR2.out.later (by assumption) (Nat.le_refl _))).mono ?_); rintro e w9 ⟨rfl, hb⟩; replace zk := box_later zk hb (box_lt zk); have hcv := conv_at zk)
          | (go_at_call 14; go_split_ands; have zk0 := zk; (with_reducible refine (HRA.out _ _ (HR2.out.later (by assumption) (Nat.le_refl _))).mono ?_); rintro e w9 ⟨rfl, hb⟩; replace zk := box_later zk hb (box_lt zk); have hcv := conv_at zk)
          | (go_at_call 14; go_split_ands; (with_reducible refine (HRA.out _ _ (HR2.out.later (by assumption) (Nat.le_refl _))).mono ?_); rintro e w9 ⟨rfl, hb⟩)
          | (go_at_call 17; go_split_ands; (with_reducible refine (HWK.out _).mono ?_); rintro e w9 ⟨rfl, hb⟩; have zk : w9.heap[Wx.heap.size]? = some (keyObj k) := (hb.block Wx.heap.size (by simp)).trans zky; have hcv := conv_at zk)
          | (go_at_call 17; go_split_ands; refine calls_alloc fun W1 hW1 => ?_; obtain ⟨zk, hz1, hn⟩ := box_new hW1; subst hW1; clear hn; (try simp only [World.size_drew] at zk); (with_reducible refine (HWK.out _).mono ?_); rintro e w9 ⟨rfl, hb⟩; replace zk := box_later zk hb (box_lt zk); have hcv := conv_at zk)
          | (go_at_call 17; go_split_ands; have zk0 := zk; (with_reducible refine (HWK.out _).mono ?_); rintro e w9 ⟨rfl, hb⟩; replace zk := box_later zk hb (box_lt zk); have hcv := conv_at zk)
          | (go_at_call 17; go_split_ands; (with_reducible refine (HWK.out _).mono ?_); rintro e w9 ⟨rfl, hb⟩))
      all_goals
        rename_i hHeld
        obtain ⟨_, _, _, _, _, _, _, _, _, _, hBf, _⟩ := hHeld
        go_wp2
        go_ret
        exact ⟨rfl, hBf⟩
theorem own : ownKnob Try.prog.godebug = none := by kernel_rfl
theorem laidOut : laidOutB Try.prog = true := by kernel_rfl

/-- What the bound gives: a text's length. -/
theorem part_short {H : Type} {s : ByteArray} {l : List (DataW H)} (hk : Rows.uptoSmall H l = true) (hm : DataW.lit (.string s.data.toList) ∈ l) : s.size ≤ 1048576 := by
  obtain ⟨B, hB⟩ : ∃ B : Nat, B = 1048576 := ⟨_, rfl⟩
  have h : Rows.uptoBulkAll l ≤ B := by rw [hB]; exact of_decide_eq_true hk
  rw [← hB]
  clear hB hk
  have e : s.data.toList.length = s.size := by rw [Array.length_toList]; rfl
  induction l with
  | nil => cases hm
  | cons x r ih =>
    simp only [Rows.uptoBulkAll] at h
    rcases List.mem_cons.1 hm with rfl | hr
    · simp only [Rows.uptoBulk] at h; omega
    · exact ih hr (by omega)

theorem part_bulk {H : Type} {d : DataW H} {l : List (DataW H)} (hk : Rows.uptoSmall H l = true) (hm : d ∈ l) : Rows.uptoBulk d ≤ 1048576 := by
  obtain ⟨B, hB⟩ : ∃ B : Nat, B = 1048576 := ⟨_, rfl⟩
  have h : Rows.uptoBulkAll l ≤ B := by rw [hB]; exact of_decide_eq_true hk
  rw [← hB]
  exact Nat.le_trans (bulk_mem hm) h

set_option maxRecDepth 100000 in
theorem contract (H : Type) (enc : TypeId × Value → H) (W : World) (base : Nat) (args : Array Value) (ds gs : List (DataW H)) (before : List MemPlace)
    (hval0 : ∀ (j : Nat) t v, Try.f5.params[j]? = some t → args[j]? = some v → Value.okWide Try.prog W .any base t v)
    (hW : DataW.Whole enc Try.prog Try.f5.params.toList Rows.composeKeepsSpec.vars false W args.toList ds gs before) (hk : Rows.uptoSmall H (ds ++ gs) = true) (hsh : W.ShapedOpen Try.prog) :
    Calls Try.prog 5 args W fun e W' => ∃ v, e = .returned v ∧ Rows.composeKeepsSpec.post enc Try.prog Try.f5 false true false false W args v W' := by
  have hval : ∀ (j : Nat) t v, Try.f5.params[j]? = some t → args[j]? = some v → Value.okWide Try.prog W .any base t v := hval0
  have hW' := hW
  obtain ⟨p, q, hA0, hV, rfl, hfz, hnd⟩ := hW
  have hA : DataW.TrodAll enc Try.prog W 0 (fun _ => true) true Try.f5.params.toList args.toList ds p := hA0
  rw [Try.params5] at hA hval
  obtain ⟨v0, vs0, d0, ds0, p0, q0, hargs, rfl, rfl, h0, r0⟩ := trodAll_cons hA
  obtain ⟨v1, vs1, d1, ds1, p1, q1, rfl, rfl, rfl, h1, r1⟩ := trodAll_cons r0
  obtain ⟨v2, vs2, d2, ds2, p2, q2, rfl, rfl, rfl, h2, r2⟩ := trodAll_cons r1
  obtain ⟨rfl, rfl, rfl⟩ := trodAll_nil r2
  obtain rfl : args = #[v0, v1, v2] := by cases args; simp_all
  obtain ⟨rfl, rfl⟩ := trodVars_none hV
  obtain ⟨a0, len0, cap0, rfl⟩ := okWide_slice Try.underlying40 (hval 0 40 v0 rfl rfl)
  have k0 := h0
  have lt0 : ∀ x ∈ p0, x.block < W.heap.size := by obtain ⟨m, hm⟩ := k0; exact DataW.trod_lt m _ _ _ hm
  obtain ⟨z0, w0, bk0⟩ : ∃ rs, RowR W (.slice a0 len0 cap0) rs ∧ (Rows.uptoBulk d0 ≤ 1048576 → ∀ r ∈ rs, Short r) := by
    obtain ⟨fuel, hf⟩ := h0
    exact rules_bulk hf
  obtain ⟨cs1, rfl, hcs1⟩ := okWide_struct Try.underlying24 (hval 1 24 v1 rfl rfl)
  have k1 := h1
  have lt1 : ∀ x ∈ p1, x.block < W.heap.size := by obtain ⟨m, hm⟩ := k1; exact DataW.trod_lt m _ _ _ hm
  obtain ⟨a1, len1, cap1, z1, rfl, w1, n1, bk1⟩ := buf_open hcs1 h1
  obtain ⟨a2, rfl, rfl, rfl, w2⟩ := open_int Try.underlying5 (hval 2 5 v2 rfl rfl) h2
  clear hA0 hval0
  simp only [List.append_nil] at hk
  have u0 := bk0 (part_bulk hk (.head _))
  have u1 := bk1 (part_bulk hk (.tail _ (.head _)))
  refine (walk a0 len0 cap0 z0 a1 len1 cap1 z1 a2 W w0 w1 n1 w2 u0 u1).mono fun e W' ⟨he, bel⟩ => ?_
  subst he
  exact ⟨_, rfl, _, _, _, [], _, [], hW', trodAll_mk1 (shut_bool Try.underlying4 _), (trodAll_cons_mk (Below.trod laidOut (by kernel_rfl) (of_decide_eq_true (by kernel_rfl)) k0 bel lt0) (trodAll_cons_mk (Below.trod laidOut (by kernel_rfl) (of_decide_eq_true (by kernel_rfl)) k1 bel lt1) (trodAll_cons_mk (shut_int Try.underlying5 w2) trodAll_mk0))), rfl, bel.frame _, fun h => by cases h⟩

/-- THAT THERE IS AN INPUT THAT FITS, out of a world that is laid whole. -/
theorem witness_row_shaped {H : Type} {enc : TypeId × Value → H} {C : Checked} {os : Os} {f : FuncId} {fn : Func} {s : OpenSpec} {conds : List PathCond} {apart : Bool} {laid : List (String × DataW Unit)} (modest : Bool) (w0 : World) (args : Array Value) (hos : w0.os = os)
    (hsh : (w0.forCall (fun _ _ => 0) ⟨#[], args, []⟩).Shaped C.prog)
    (hok : Input.okWideB C.prog (w0.forCall (fun _ _ => 0) ⟨#[], args, []⟩) f ⟨#[], args, []⟩ = true)
    (hrow : s.preRow enc C.prog fn conds apart laid (w0.forCall (fun _ _ => 0) ⟨#[], args, []⟩).memory args) :
    ∃ (w : World) (tape : Tape) (i : Input), w.os = os ∧ (w.forCall tape i).Shaped C.prog ∧ i.vars = [] ∧ Input.okWide C.prog (w.forCall tape i) .any w.heap.size f i ∧
      s.preRow enc C.prog fn conds apart laid (w.forCall tape i).memory i.args ∧ ({ modest := modest } : Assume).holds C.prog (lone (Frame.enter C.prog f i.args .normal) [] (w.forCall tape i)) :=
  ⟨w0, fun _ _ => 0, ⟨#[], args, []⟩, hos, hsh, (Input.okWide_of_okWideB (base := 0) hok).1, (Input.okWide_of_okWideB hok).2, hrow, by
    simp only [Assume.holds]
    exact ⟨by simp, by simp, fun _ => Modest.zero, by simp, by simp⟩⟩

set_option maxRecDepth 100000 in
theorem lifted (os : Os) (started : os.Started) (H : Type) (enc : TypeId × Value → H) (F : Stop.Interp) :
    ReturnsInHanded {} Try.checked os 5 .any ((Rows.OpenSpec.upto Rows.composeKeepsSpec).preRow enc Try.prog Try.f5 Rows.composeKeepsUptoRow.domain false Rows.composeKeepsUptoRow.laid) (((Rows.OpenSpec.upto Rows.composeKeepsSpec).at F).post enc Try.prog Try.f5 false true false false) := by
  refine returnsInHanded_of_row (C := Try.checked) (s := Rows.OpenSpec.upto Rows.composeKeepsSpec) own started (by kernel_rfl) Try.func5
    (witness_row_shaped (enc := enc) (C := Try.checked) (os := os) false (World.laidAll Try.prog os Rows.composeKeepsUptoRow.laid) #[.slice none 0 0, .agg #[.slice none 0 0, .int .i64 0, .string ByteArray.empty], .int .u8 0] (World.laidAll_os _ _ _)
      (World.shaped_of_ZipB (by kernel_rfl) (by kernel_rfl)) (by kernel_rfl)
      (OpenSpec.preRow_of_cond 8 (x := ([.nil, .agg [.nil, .lit (.int .i64 0), .lit (.string [])], .lit (.int .u8 0)], [], [])) (by kernel_rfl) (by kernel_rfl) (fun k hk => by cases hk; kernel_rfl) (by kernel_rfl)
        (by rw [MakeChecks.laidMetH_plain _ _ _ (by kernel_rfl)]; exact laidMet_laidAll _ (by kernel_rfl) (by kernel_rfl)))) ?_
  intro W base args ds gs before hval hW _ hcond _ hL hsh _
  exact contract H enc W base args ds gs before hval hW (hcond _ rfl) hsh

theorem over : Rows.composeKeepsUptoRow.holds Try.pinned (Rows.OpenSpec.upto Rows.composeKeepsSpec) :=
  OpenClaim.holds_of_cond 5 Try.f5 rfl rfl rfl rfl rfl rfl rfl ⟨rfl, rfl, rfl, rfl, rfl⟩ rfl rfl rfl rfl rfl (by kernel_rfl) Try.func5 (by kernel_rfl)
    (of_decide_eq_true (by kernel_rfl)) (by unfold Func.isWrapper; first | (rw [if_pos (by decide +kernel)]; kernel_rfl) | (rw [if_neg (by decide +kernel)]; exact ⟨rfl, rfl⟩))
    (fun os started H enc _ F => by rw [OpenClaim.pre_eq_preRow]; exact lifted os started H enc F)

theorem proved : Rows.ComposeKeepsUptoSaid := over
end Go.Proofs.Ytlmbbpppfghcbaa.composeKeeps
