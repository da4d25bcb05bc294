/-
  Joined texts: CmpO, CmpM.
-/
import Derived.Test.YtlmbbpppfghcbaaM14
set_option linter.unusedVariables false
set_option linter.unusedSimpArgs false
set_option maxRecDepth 100000
namespace Go.Proofs.Ytlmbbpppfghcbaa.Cmp
open Go Go.RowKit Go.Proofs.Ytlmbbpppfghcbaa Go.Proofs.Ytlmbbpppfghcbaa.Kit Go.Proofs.Ytlmbbpppfghcbaa.Utf Go.Proofs.Ytlmbbpppfghcbaa.Rom Go.Proofs.Ytlmbbpppfghcbaa.Aut

abbrev own (B : Nat) (w : World) (s : Value) (is : List It) : Prop := w.ownsRow B 65 2 s is.length (ic is)
theorem calls_alloc {F : FuncId} {args : Array Value} {w : World} {o : Obj} {K} (h : ∀ W, w.alloc o = W → Calls Try.prog F args W K) : Calls Try.prog F args (w.alloc o) K := h _ rfl
theorem calls_alloc2 {F : FuncId} {args : Array Value} {w : World} {o o2 : Obj} {K} (h : ∀ W1 W, w.alloc o = W1 → W1.alloc o2 = W → Calls Try.prog F args W K) : Calls Try.prog F args ((w.alloc o).alloc o2) K := h _ _ rfl rfl
theorem calls_set3 {F : FuncId} {args : Array Value} {w : World} {p0 p1 p2 : Addr} {x y z : Value} {K} (h : ∀ W, ((w.setCell p0 x).setCell p1 y).setCell p2 z = W → Calls Try.prog F args W K) : Calls Try.prog F args (((w.setCell p0 x).setCell p1 y).setCell p2 z) K := h _ rfl
theorem set3 {w W : World} {g : Nat} {x y z x' y' z' : Value} {t : TypeId} (h : w.heap[g]? = some (Obj.cells #[x, y, z] t)) (hW : ((w.setCell ⟨g, 0, none⟩ x').setCell ⟨g, 1, none⟩ y').setCell ⟨g, 2, none⟩ z' = W) :
    W.heap[g]? = some (Obj.cells #[x', y', z'] t) ∧ (∀ k o, k ≠ g → w.heap[k]? = some o → W.heap[k]? = some o) ∧ (∀ B s is, own B w s is → g < B → ItR W s is) ∧ Below g w W ∧ W.heap.size = w.heap.size := by
  subst hW
  refine ⟨box_set3 h, fun k o hk ho => ?_, fun B s is ho hB => ?_, ?_, by simp⟩
  · rw [heap_setCell_other _ _ _ _ (by show k ≠ g; exact hk), heap_setCell_other _ _ _ _ (by show k ≠ g; exact hk), heap_setCell_other _ _ _ _ (by show k ≠ g; exact hk)]; exact ho
  · exact (items_of_own (ownsRow_setCell_below (ownsRow_setCell_below (ownsRow_setCell_below ho (a := ⟨g, 0, none⟩) hB x') (a := ⟨g, 1, none⟩) hB y') (a := ⟨g, 2, none⟩) hB z')).1
  · exact Below.setCell (Below.setCell (Below.setCell (Below.refl g w) (p := ⟨g, 0, none⟩) (Nat.le_refl _) x') (p := ⟨g, 1, none⟩) (Nat.le_refl _) y') (p := ⟨g, 2, none⟩) (Nat.le_refl _) z'

theorem bf_eta (b : Bf) : (⟨b.is, b.c, b.p⟩ : Bf) = b := by cases b; rfl

/-- Back takes back a character that was put. -/
theorem put_back {b : Bf} {c : Int} (hc : validRune c = true) (h0 : (putB b ⟨#[]⟩ (Utf8.encode c)).2 = 0) : val (putB b ⟨#[]⟩ (Utf8.encode c)).1 = true ∧ bacB (putB b ⟨#[]⟩ (Utf8.encode c)).1 = b := by
  have e : bs (Utf8.encode c) = encs [c] := by simp [encs, enc]
  have hch : chs (bs (Utf8.encode c)) = [c] := by rw [e]; exact chs_some (chars_encs (by simpa using hc))
  unfold putB at h0 ⊢
  rw [count_enc hc, hch] at h0 ⊢
  split at h0
  · rename_i h1
    split at h0
    · cases h0
    · rename_i h2
      split at h0
      · cases h0
      · rename_i h3
        rw [if_pos h1, if_neg h2, if_neg h3]
        simp only [Bool.and_eq_true] at h1
        have hv := h1.1.1
        obtain ⟨v1, v2, v3, v4, v5, v6⟩ := val_parts hv
        have hv2 : val (insB b (itemsL ⟨#[]⟩ [c])) = true := insB_val (p := b.p) hv (by rw [itemsL_len]; simp at h3 ⊢; omega) (itemsL_ok rfl (by simpa using hc)) v5 v6
        refine ⟨hv2, ?_⟩
        have hl : itemsL ⟨#[]⟩ [c] = [⟨⟨#[]⟩, Utf8.encode c⟩] := rfl
        show bacB (insB b (itemsL ⟨#[]⟩ [c])) = b
        unfold bacB
        rw [if_pos hv2, hl]
        have hp : (insB b [⟨⟨#[]⟩, Utf8.encode c⟩]).p = b.p := rfl
        rw [hp, if_neg h2]
        have hcc : (insB b [⟨⟨#[]⟩, Utf8.encode c⟩]).c = b.c + 1 := rfl
        rw [hcc, if_pos (by omega)]
        refine Bf.ext' ?_ (by show b.c + 1 - 1 = b.c; omega) rfl
        show List.eraseIdx (b.is.take b.c.toNat ++ [_] ++ b.is.drop b.c.toNat) (b.c + 1 - 1).toNat = b.is
        have hln : (b.is.take b.c.toNat).length = b.c.toNat := by rw [List.length_take]; omega
        rw [show b.c + 1 - 1 = b.c by omega, List.append_assoc, List.eraseIdx_append_of_length_le (by omega), hln, Nat.sub_self]
        show b.is.take b.c.toNat ++ b.is.drop b.c.toNat = b.is
        exact List.take_append_drop _ _
  · cases h0
/-- Delete after a move to the left is Back. -/
theorem move_delete {b : Bf} (hv : val b = true) (hp : b.p.size = 0) (hc : b.c ≠ 0) : delB (movB b (-1)) = bacB b := by
  obtain ⟨v1, v2, v3, v4, v5, v6⟩ := val_parts hv
  have hm : movB b (-1) = { b with c := b.c - 1 } := by
    unfold movB
    rw [hv, decide_eq_true hp]
    show { b with c := max 0 (min (b.c + -1) b.is.length) } = _
    rw [show max 0 (min (b.c + -1) (b.is.length : Int)) = b.c - 1 by omega]
  have hv2 : val { b with c := b.c - 1 } = true := val_of v1 (by show 0 ≤ b.c - 1; omega) (by show b.c - 1 ≤ (b.is.length : Int); omega) v4 v5 v6
  rw [hm]
  unfold delB bacB
  have h1 : decide (({ b with c := b.c - 1 } : Bf).c < (({ b with c := b.c - 1 } : Bf).is.length : Int)) = true := decide_eq_true (by show b.c - 1 < (b.is.length : Int); omega)
  have h2 : ¬ b.p.size ≠ 0 := fun h => h hp
  have h3 : 0 < b.c := by omega
  rw [hv2, h1, if_pos hv, if_neg h2, if_pos h3]
  rfl
theorem putB_sh {b : Bf} (h : Sh b) {raw out : ByteArray} (hr : raw.size ≤ 1048576) : Sh (putB b raw out).1 := by
  unfold putB
  split
  · split
    · exact noB_sh
    · split
      · exact noB_sh
      · rename_i h3
        exact insB_sh (b := b) (p := b.p) h (itemsL_short hr (chs_valid _)) (by rw [itemsL_len]; omega) h.2.1
  · exact noB_sh
theorem mov_sh {b : Bf} (h : Sh b) (n : Int) : Sh (movB b n) := by unfold movB; split; exact ⟨h.1, h.2.1, h.2.2⟩; exact h
theorem del_sh {b : Bf} (h : Sh b) : Sh (delB b) := by
  unfold delB; split
  · exact ⟨fun i hi => h.1 i (List.mem_of_mem_eraseIdx hi), h.2.1, Nat.le_trans (List.length_eraseIdx_le _ _) h.2.2⟩
  · exact h
theorem bac_sh {b : Bf} (h : Sh b) : Sh (bacB b) := by
  unfold bacB
  split
  · split
    · refine ⟨h.1, ?_, h.2.2⟩
      show (ba ((bs b.p).dropLast)).size ≤ _
      rw [ba_size, List.length_dropLast]
      have := h.2.1
      unfold bs
      rw [Array.length_toList]
      show b.p.size - 1 ≤ _
      omega
    · split
      · exact ⟨fun i hi => h.1 i (List.mem_of_mem_eraseIdx hi), h.2.1, Nat.le_trans (List.length_eraseIdx_le _ _) h.2.2⟩
      · exact h
  · exact h

end Go.Proofs.Ytlmbbpppfghcbaa.Cmp

set_option linter.unusedVariables false
set_option linter.unusedSimpArgs false
set_option maxRecDepth 100000
namespace Go.Proofs.Ytlmbbpppfghcbaa.Cmp
open Go Go.RowKit Go.Proofs.Ytlmbbpppfghcbaa Go.Proofs.Ytlmbbpppfghcbaa.Kit Go.Proofs.Ytlmbbpppfghcbaa.Utf Go.Proofs.Ytlmbbpppfghcbaa.Rom Go.Proofs.Ytlmbbpppfghcbaa.Aut

theorem cnew_no {v : Value} {rs : List Rule} {w : World} (hR : RowR w v rs) (hs : ∀ r ∈ rs, Short r) (hc : checkL rs ≠ 0) :
    Calls Try.prog 18 #[v] w fun e w' => e = .returned (.tuple #[.pointer none, .int .i64 (checkL rs)]) ∧ Below w.heap.size w w' := by
  refine (new_any v rs w hR hs).mono ?_
  rintro e w' ⟨hb, ⟨_, h⟩ | ⟨h, _⟩⟩
  · exact ⟨h, hb⟩
  · exact absurd h hc
theorem cnew_yes {v : Value} {rs : List Rule} {w : World} (hR : RowR w v rs) (hs : ∀ r ∈ rs, Short r) (hc : checkL rs = 0) :
    Calls Try.prog 18 #[v] w fun e w' => ∃ a, e = .returned (.tuple #[.pointer (some ⟨a, 0, none⟩), .int .i64 0]) ∧ AutoAt w'.heap.size w' a rs ∧ Below w.heap.size w w' := by
  refine (new_any v rs w hR hs).mono ?_
  rintro e w' ⟨hb, ⟨h, _⟩ | ⟨_, a, rfl, hA, _⟩⟩
  · exact absurd hc h
  · exact ⟨a, rfl, hA, hb⟩

theorem outs_append (a b : List It) : outs (a ++ b) = outs a ++ outs b := by unfold outs; rw [List.flatMap_append]
theorem outs_items {raw : ByteArray} {cs : List Int} : outs (itemsL raw cs) = encs cs := by
  cases cs with
  | nil => rfl
  | cons c cs =>
    show bs (Utf8.encode c) ++ outs (cs.map fun c => ⟨⟨#[]⟩, Utf8.encode c⟩) = encs (c :: cs)
    have h : ∀ cs : List Int, outs (cs.map fun c => (⟨⟨#[]⟩, Utf8.encode c⟩ : It)) = encs cs := by
      intro cs
      induction cs with
      | nil => rfl
      | cons d ds ih =>
        show bs (Utf8.encode d) ++ outs (ds.map fun c => ⟨⟨#[]⟩, Utf8.encode c⟩) = encs (d :: ds)
        rw [ih]
        simp [encs, enc]
    rw [h]
    simp [encs, enc]
/-- What a buffer is in which keys have been typed from the start on. -/
structure Typd (rs : List Rule) (ks : By) (b : Bf) : Prop where
  v : val b = true
  c : b.c = b.is.length
  o : outs b.is = (fd rs [] ks).1
  p : bs b.p = (fd rs [] ks).2
theorem Typd.nil {rs : List Rule} : Typd rs [] noB := by
  have h : Aut.fd rs [] [] = ([], []) := (Feeds.nil []).fd
  refine ⟨by decide, rfl, ?_, ?_⟩ <;> rw [h] <;> rfl
theorem keyB_ok {rs : List Rule} {b : Bf} {k : UInt8} (h : (keyB rs b k).2 = 0) : val b = true ∧ isKb k = true ∧ b.is.length + (chs (fd rs (bs b.p) [k]).1).length ≤ 64 ∧ (keyB rs b k).1 = insB { b with p := ba (fd rs (bs b.p) [k]).2 } (itemsL (ba (endsL (bs b.p ++ [k]) (fd rs (bs b.p) [k]).2)) (chs (fd rs (bs b.p) [k]).1)) := by
  unfold keyB at h ⊢
  split at h
  · rename_i h1
    split at h
    · cases h
    · rename_i h2
      rw [if_pos h1, if_neg h2]
      rw [Bool.and_eq_true] at h1
      exact ⟨h1.1, h1.2, by omega, rfl⟩
  · cases h
theorem keyB_val {rs : List Rule} (hok : okL rs = true) {b : Bf} {k : UInt8} (h : (keyB rs b k).2 = 0) : val (keyB rs b k).1 = true := by
  obtain ⟨h1, h2, h3, h4⟩ := keyB_ok h
  obtain ⟨v1, v2, v3, v4, v5, v6⟩ := val_parts h1
  have hp := fromB_keys.1 v6
  have hk : AllK [k] := AllK.one h2
  have hf := fd_spec hok (bs b.p) [k]
  rw [h4]
  refine insB_val h1 (by rw [itemsL_len]; exact h3) (itemsL_ok ?_ (chs_valid _)) ?_ ?_
  · rw [bs_ba]
    refine from_33_32 (allK_from ?_)
    have hall := hp.append hk
    intro x hx
    unfold endsL at hx
    split at hx
    · exact hall x (List.mem_of_mem_take hx)
    · exact hall x hx
  · have := pend_len hok (feed_pend hf)
    rw [ba_size]; omega
  · rw [bs_ba]; exact allK_from (hf.keys hok hp hk)
theorem Typd.step {rs : List Rule} (hok : okL rs = true) {ks : By} {b : Bf} {k : UInt8} (hb : Typd rs ks b) (h : (keyB rs b k).2 = 0) : Typd rs (ks ++ [k]) (keyB rs b k).1 := by
  have hv := keyB_val hok h
  obtain ⟨h1, h2, h3, h4⟩ := keyB_ok h
  obtain ⟨v1, v2, v3, v4, v5, v6⟩ := val_parts h1
  have hp := fromB_keys.1 v6
  have hk : AllK [k] := AllK.one h2
  have hf := fd_spec hok (bs b.p) [k]
  have hf0 := fd_spec hok [] ks
  have hcomp : Aut.fd rs [] (ks ++ [k]) = ((fd rs [] ks).1 ++ (fd rs (bs b.p) [k]).1, (fd rs (bs b.p) [k]).2) := by
    refine Feeds.fd (hf0.comp ?_)
    rw [hb.p] at hf
    rw [hb.p]
    exact hf
  obtain ⟨cs, hcs⟩ := feeds_good hok hf hp hk
  obtain ⟨hcv, hce⟩ := chars_some hcs
  refine ⟨hv, ?_, ?_, ?_⟩
  · rw [h4]
    show b.c + ((itemsL _ _).length : Int) = ((b.is.take b.c.toNat ++ itemsL _ _ ++ b.is.drop b.c.toNat).length : Nat)
    simp only [List.length_append, List.length_take, List.length_drop, itemsL_len]
    have := hb.c
    omega
  · rw [h4, hcomp]
    show outs (b.is.take b.c.toNat ++ itemsL _ _ ++ b.is.drop b.c.toNat) = _
    have hc := hb.c
    rw [List.take_of_length_le (by omega), List.drop_of_length_le (by omega), List.append_nil, outs_append, outs_items, hb.o, chs_some hcs, ← hce]
  · rw [h4, hcomp]
    show bs (ba _) = _
    rw [bs_ba]
theorem Typd.all {rs : List Rule} (hok : okL rs = true) : ∀ {ks ks0 : By} {b b' : Bf}, Typd rs ks0 b → typL rs b ks = (b', true) → Typd rs (ks0 ++ ks) b'
  | [], ks0, b, b', hb, h => by
    unfold typL at h
    cases h
    rw [List.append_nil]; exact hb
  | k :: ks, ks0, b, b', hb, h => by
    unfold typL at h
    split at h
    · rename_i h0
      have := Typd.all hok (hb.step hok h0) h
      rw [List.append_assoc] at this
      exact this
    · cases h
theorem Typd.text {rs : List Rule} {ks : By} {b : Bf} (h : Typd rs ks b) : texB b = (ba (fd rs [] ks).1, ba (fd rs [] ks).2, ⟨#[]⟩) := by
  have hc := h.c
  unfold texB
  rw [if_pos h.v, List.take_of_length_le (by omega), List.drop_of_length_le (by omega), h.o, ← h.p, ba_bs]
  rfl

end Go.Proofs.Ytlmbbpppfghcbaa.Cmp
