/-
  Joined texts: CmpO, CmpM, CmpN, AutT, AutK, AutV, AutW, AutX.
-/
import Derived.Test.YtlmbbpppfghcbaaM14
import Derived.Test.YtlmbbpppfghcbaaM6
import Derived.Test.YtlmbbpppfghcbaaM13
import Derived.Deep.AppendLies
import Derived.DeepKeys4
import Derived.BigRegion
import Derived.Test.YtlmbbpppfghcbaaM11
import Derived.Laws.StructEq
set_option linter.unusedVariables false
set_option linter.unusedSimpArgs false
set_option maxRecDepth 100000
namespace Go.Proofs.Ytlmbbpppfghcbaa.Cmp
open Go Go.RowKit Go.Proofs.Ytlmbbpppfghcbaa Go.Proofs.Ytlmbbpppfghcbaa.Kit Go.Proofs.Ytlmbbpppfghcbaa.Utf Go.Proofs.Ytlmbbpppfghcbaa.Rom Go.Proofs.Ytlmbbpppfghcbaa.Aut

abbrev own (B : Nat) (w : World) (s : Value) (is : List It) : Prop := w.ownsRow B 65 2 s is.length (ic is)
theorem calls_alloc {F : FuncId} {args : Array Value} {w : World} {o : Obj} {K} (h : ∀ W, w.alloc o = W → Calls Try.prog F args W K) : Calls Try.prog F args (w.alloc o) K := h _ rfl
theorem calls_alloc2 {F : FuncId} {args : Array Value} {w : World} {o o2 : Obj} {K} (h : ∀ W1 W, w.alloc o = W1 → W1.alloc o2 = W → Calls Try.prog F args W K) : Calls Try.prog F args ((w.alloc o).alloc o2) K := h _ _ rfl rfl
theorem calls_set3 {F : FuncId} {args : Array Value} {w : World} {p0 p1 p2 : Addr} {x y z : Value} {K} (h : ∀ W, ((w.setCell p0 x).setCell p1 y).setCell p2 z = W → Calls Try.prog F args W K) : Calls Try.prog F args (((w.setCell p0 x).setCell p1 y).setCell p2 z) K := h _ rfl
theorem set3 {w W : World} {g : Nat} {x y z x' y' z' : Value} {t : TypeId} (h : w.heap[g]? = some (Obj.cells #[x, y, z] t)) (hW : ((w.setCell ⟨g, 0, none⟩ x').setCell ⟨g, 1, none⟩ y').setCell ⟨g, 2, none⟩ z' = W) :
    W.heap[g]? = some (Obj.cells #[x', y', z'] t) ∧ (∀ k o, k ≠ g → w.heap[k]? = some o → W.heap[k]? = some o) ∧ (∀ B s is, own B w s is → g < B → ItR W s is) ∧ Below g w W ∧ W.heap.size = w.heap.size := by
  subst hW
  refine ⟨box_set3 h, fun k o hk ho => ?_, fun B s is ho hB => ?_, ?_, by simp⟩
  · rw [heap_setCell_other _ _ _ _ (by show k ≠ g; exact hk), heap_setCell_other _ _ _ _ (by show k ≠ g; exact hk), heap_setCell_other _ _ _ _ (by show k ≠ g; exact hk)]; exact ho
  · exact (items_of_own (ownsRow_setCell_below (ownsRow_setCell_below (ownsRow_setCell_below ho (a := ⟨g, 0, none⟩) hB x') (a := ⟨g, 1, none⟩) hB y') (a := ⟨g, 2, none⟩) hB z')).1
  · exact Below.setCell (Below.setCell (Below.setCell (Below.refl g w) (p := ⟨g, 0, none⟩) (Nat.le_refl _) x') (p := ⟨g, 1, none⟩) (Nat.le_refl _) y') (p := ⟨g, 2, none⟩) (Nat.le_refl _) z'

theorem bf_eta (b : Bf) : (⟨b.is, b.c, b.p⟩ : Bf) = b := by cases b; rfl

/-- Back takes back a character that was put. -/
theorem put_back {b : Bf} {c : Int} (hc : validRune c = true) (h0 : (putB b ⟨#[]⟩ (Utf8.encode c)).2 = 0) : val (putB b ⟨#[]⟩ (Utf8.encode c)).1 = true ∧ bacB (putB b ⟨#[]⟩ (Utf8.encode c)).1 = b := by
  have e : bs (Utf8.encode c) = encs [c] := by simp [encs, enc]
  have hch : chs (bs (Utf8.encode c)) = [c] := by rw [e]; exact chs_some (chars_encs (by simpa using hc))
  unfold putB at h0 ⊢
  rw [count_enc hc, hch] at h0 ⊢
  split at h0
  · rename_i h1
    split at h0
    · cases h0
    · rename_i h2
      split at h0
      · cases h0
      · rename_i h3
        rw [if_pos h1, if_neg h2, if_neg h3]
        simp only [Bool.and_eq_true] at h1
        have hv := h1.1.1
        obtain ⟨v1, v2, v3, v4, v5, v6⟩ := val_parts hv
        have hv2 : val (insB b (itemsL ⟨#[]⟩ [c])) = true := insB_val (p := b.p) hv (by rw [itemsL_len]; simp at h3 ⊢; omega) (itemsL_ok rfl (by simpa using hc)) v5 v6
        refine ⟨hv2, ?_⟩
        have hl : itemsL ⟨#[]⟩ [c] = [⟨⟨#[]⟩, Utf8.encode c⟩] := rfl
        show bacB (insB b (itemsL ⟨#[]⟩ [c])) = b
        unfold bacB
        rw [if_pos hv2, hl]
        have hp : (insB b [⟨⟨#[]⟩, Utf8.encode c⟩]).p = b.p := rfl
        rw [hp, if_neg h2]
        have hcc : (insB b [⟨⟨#[]⟩, Utf8.encode c⟩]).c = b.c + 1 := rfl
        rw [hcc, if_pos (by omega)]
        refine Bf.ext' ?_ (by show b.c + 1 - 1 = b.c; omega) rfl
        show List.eraseIdx (b.is.take b.c.toNat ++ [_] ++ b.is.drop b.c.toNat) (b.c + 1 - 1).toNat = b.is
        have hln : (b.is.take b.c.toNat).length = b.c.toNat := by rw [List.length_take]; omega
        rw [show b.c + 1 - 1 = b.c by omega, List.append_assoc, List.eraseIdx_append_of_length_le (by omega), hln, Nat.sub_self]
        show b.is.take b.c.toNat ++ b.is.drop b.c.toNat = b.is
        exact List.take_append_drop _ _
  · cases h0
/-- Delete after a move to the left is Back. -/
theorem move_delete {b : Bf} (hv : val b = true) (hp : b.p.size = 0) (hc : b.c ≠ 0) : delB (movB b (-1)) = bacB b := by
  obtain ⟨v1, v2, v3, v4, v5, v6⟩ := val_parts hv
  have hm : movB b (-1) = { b with c := b.c - 1 } := by
    unfold movB
    rw [hv, decide_eq_true hp]
    show { b with c := max 0 (min (b.c + -1) b.is.length) } = _
    rw [show max 0 (min (b.c + -1) (b.is.length : Int)) = b.c - 1 by omega]
  have hv2 : val { b with c := b.c - 1 } = true := val_of v1 (by show 0 ≤ b.c - 1; omega) (by show b.c - 1 ≤ (b.is.length : Int); omega) v4 v5 v6
  rw [hm]
  unfold delB bacB
  have h1 : decide (({ b with c := b.c - 1 } : Bf).c < (({ b with c := b.c - 1 } : Bf).is.length : Int)) = true := decide_eq_true (by show b.c - 1 < (b.is.length : Int); omega)
  have h2 : ¬ b.p.size ≠ 0 := fun h => h hp
  have h3 : 0 < b.c := by omega
  rw [hv2, h1, if_pos hv, if_neg h2, if_pos h3]
  rfl
theorem putB_sh {b : Bf} (h : Sh b) {raw out : ByteArray} (hr : raw.size ≤ 1048576) : Sh (putB b raw out).1 := by
  unfold putB
  split
  · split
    · exact noB_sh
    · split
      · exact noB_sh
      · rename_i h3
        exact insB_sh (b := b) (p := b.p) h (itemsL_short hr (chs_valid _)) (by rw [itemsL_len]; omega) h.2.1
  · exact noB_sh
theorem mov_sh {b : Bf} (h : Sh b) (n : Int) : Sh (movB b n) := by unfold movB; split; exact ⟨h.1, h.2.1, h.2.2⟩; exact h
theorem del_sh {b : Bf} (h : Sh b) : Sh (delB b) := by
  unfold delB; split
  · exact ⟨fun i hi => h.1 i (List.mem_of_mem_eraseIdx hi), h.2.1, Nat.le_trans (List.length_eraseIdx_le _ _) h.2.2⟩
  · exact h
theorem bac_sh {b : Bf} (h : Sh b) : Sh (bacB b) := by
  unfold bacB
  split
  · split
    · refine ⟨h.1, ?_, h.2.2⟩
      show (ba ((bs b.p).dropLast)).size ≤ _
      rw [ba_size, List.length_dropLast]
      have := h.2.1
      unfold bs
      rw [Array.length_toList]
      show b.p.size - 1 ≤ _
      omega
    · split
      · exact ⟨fun i hi => h.1 i (List.mem_of_mem_eraseIdx hi), h.2.1, Nat.le_trans (List.length_eraseIdx_le _ _) h.2.2⟩
      · exact h
  · exact h

end Go.Proofs.Ytlmbbpppfghcbaa.Cmp

set_option linter.unusedVariables false
set_option linter.unusedSimpArgs false
set_option maxRecDepth 100000
namespace Go.Proofs.Ytlmbbpppfghcbaa.Cmp
open Go Go.RowKit Go.Proofs.Ytlmbbpppfghcbaa Go.Proofs.Ytlmbbpppfghcbaa.Kit Go.Proofs.Ytlmbbpppfghcbaa.Utf Go.Proofs.Ytlmbbpppfghcbaa.Rom Go.Proofs.Ytlmbbpppfghcbaa.Aut

theorem cnew_no {v : Value} {rs : List Rule} {w : World} (hR : RowR w v rs) (hs : ∀ r ∈ rs, Short r) (hc : checkL rs ≠ 0) :
    Calls Try.prog 18 #[v] w fun e w' => e = .returned (.tuple #[.pointer none, .int .i64 (checkL rs)]) ∧ Below w.heap.size w w' := by
  refine (new_any v rs w hR hs).mono ?_
  rintro e w' ⟨hb, ⟨_, h⟩ | ⟨h, _⟩⟩
  · exact ⟨h, hb⟩
  · exact absurd h hc
theorem cnew_yes {v : Value} {rs : List Rule} {w : World} (hR : RowR w v rs) (hs : ∀ r ∈ rs, Short r) (hc : checkL rs = 0) :
    Calls Try.prog 18 #[v] w fun e w' => ∃ a, e = .returned (.tuple #[.pointer (some ⟨a, 0, none⟩), .int .i64 0]) ∧ AutoAt w'.heap.size w' a rs ∧ Below w.heap.size w w' := by
  refine (new_any v rs w hR hs).mono ?_
  rintro e w' ⟨hb, ⟨h, _⟩ | ⟨_, a, rfl, hA, _⟩⟩
  · exact absurd hc h
  · exact ⟨a, rfl, hA, hb⟩

theorem outs_append (a b : List It) : outs (a ++ b) = outs a ++ outs b := by unfold outs; rw [List.flatMap_append]
theorem outs_items {raw : ByteArray} {cs : List Int} : outs (itemsL raw cs) = encs cs := by
  cases cs with
  | nil => rfl
  | cons c cs =>
    show bs (Utf8.encode c) ++ outs (cs.map fun c => ⟨⟨#[]⟩, Utf8.encode c⟩) = encs (c :: cs)
    have h : ∀ cs : List Int, outs (cs.map fun c => (⟨⟨#[]⟩, Utf8.encode c⟩ : It)) = encs cs := by
      intro cs
      induction cs with
      | nil => rfl
      | cons d ds ih =>
        show bs (Utf8.encode d) ++ outs (ds.map fun c => ⟨⟨#[]⟩, Utf8.encode c⟩) = encs (d :: ds)
        rw [ih]
        simp [encs, enc]
    rw [h]
    simp [encs, enc]
/-- What a buffer is in which keys have been typed from the start on. -/
structure Typd (rs : List Rule) (ks : By) (b : Bf) : Prop where
  v : val b = true
  c : b.c = b.is.length
  o : outs b.is = (fd rs [] ks).1
  p : bs b.p = (fd rs [] ks).2
theorem Typd.nil {rs : List Rule} : Typd rs [] noB := by
  have h : Aut.fd rs [] [] = ([], []) := (Feeds.nil []).fd
  refine ⟨by decide, rfl, ?_, ?_⟩ <;> rw [h] <;> rfl
theorem keyB_ok {rs : List Rule} {b : Bf} {k : UInt8} (h : (keyB rs b k).2 = 0) : val b = true ∧ isKb k = true ∧ b.is.length + (chs (fd rs (bs b.p) [k]).1).length ≤ 64 ∧ (keyB rs b k).1 = insB { b with p := ba (fd rs (bs b.p) [k]).2 } (itemsL (ba (endsL (bs b.p ++ [k]) (fd rs (bs b.p) [k]).2)) (chs (fd rs (bs b.p) [k]).1)) := by
  unfold keyB at h ⊢
  split at h
  · rename_i h1
    split at h
    · cases h
    · rename_i h2
      rw [if_pos h1, if_neg h2]
      rw [Bool.and_eq_true] at h1
      exact ⟨h1.1, h1.2, by omega, rfl⟩
  · cases h
theorem keyB_val {rs : List Rule} (hok : okL rs = true) {b : Bf} {k : UInt8} (h : (keyB rs b k).2 = 0) : val (keyB rs b k).1 = true := by
  obtain ⟨h1, h2, h3, h4⟩ := keyB_ok h
  obtain ⟨v1, v2, v3, v4, v5, v6⟩ := val_parts h1
  have hp := fromB_keys.1 v6
  have hk : AllK [k] := AllK.one h2
  have hf := fd_spec hok (bs b.p) [k]
  rw [h4]
  refine insB_val h1 (by rw [itemsL_len]; exact h3) (itemsL_ok ?_ (chs_valid _)) ?_ ?_
  · rw [bs_ba]
    refine from_33_32 (allK_from ?_)
    have hall := hp.append hk
    intro x hx
    unfold endsL at hx
    split at hx
    · exact hall x (List.mem_of_mem_take hx)
    · exact hall x hx
  · have := pend_len hok (feed_pend hf)
    rw [ba_size]; omega
  · rw [bs_ba]; exact allK_from (hf.keys hok hp hk)
theorem Typd.step {rs : List Rule} (hok : okL rs = true) {ks : By} {b : Bf} {k : UInt8} (hb : Typd rs ks b) (h : (keyB rs b k).2 = 0) : Typd rs (ks ++ [k]) (keyB rs b k).1 := by
  have hv := keyB_val hok h
  obtain ⟨h1, h2, h3, h4⟩ := keyB_ok h
  obtain ⟨v1, v2, v3, v4, v5, v6⟩ := val_parts h1
  have hp := fromB_keys.1 v6
  have hk : AllK [k] := AllK.one h2
  have hf := fd_spec hok (bs b.p) [k]
  have hf0 := fd_spec hok [] ks
  have hcomp : Aut.fd rs [] (ks ++ [k]) = ((fd rs [] ks).1 ++ (fd rs (bs b.p) [k]).1, (fd rs (bs b.p) [k]).2) := by
    refine Feeds.fd (hf0.comp ?_)
    rw [hb.p] at hf
    rw [hb.p]
    exact hf
  obtain ⟨cs, hcs⟩ := feeds_good hok hf hp hk
  obtain ⟨hcv, hce⟩ := chars_some hcs
  refine ⟨hv, ?_, ?_, ?_⟩
  · rw [h4]
    show b.c + ((itemsL _ _).length : Int) = ((b.is.take b.c.toNat ++ itemsL _ _ ++ b.is.drop b.c.toNat).length : Nat)
    simp only [List.length_append, List.length_take, List.length_drop, itemsL_len]
    have := hb.c
    omega
  · rw [h4, hcomp]
    show outs (b.is.take b.c.toNat ++ itemsL _ _ ++ b.is.drop b.c.toNat) = _
    have hc := hb.c
    rw [List.take_of_length_le (by omega), List.drop_of_length_le (by omega), List.append_nil, outs_append, outs_items, hb.o, chs_some hcs, ← hce]
  · rw [h4, hcomp]
    show bs (ba _) = _
    rw [bs_ba]
theorem Typd.all {rs : List Rule} (hok : okL rs = true) : ∀ {ks ks0 : By} {b b' : Bf}, Typd rs ks0 b → typL rs b ks = (b', true) → Typd rs (ks0 ++ ks) b'
  | [], ks0, b, b', hb, h => by
    unfold typL at h
    cases h
    rw [List.append_nil]; exact hb
  | k :: ks, ks0, b, b', hb, h => by
    unfold typL at h
    split at h
    · rename_i h0
      have := Typd.all hok (hb.step hok h0) h
      rw [List.append_assoc] at this
      exact this
    · cases h
theorem Typd.text {rs : List Rule} {ks : By} {b : Bf} (h : Typd rs ks b) : texB b = (ba (fd rs [] ks).1, ba (fd rs [] ks).2, ⟨#[]⟩) := by
  have hc := h.c
  unfold texB
  rw [if_pos h.v, List.take_of_length_le (by omega), List.drop_of_length_le (by omega), h.o, ← h.p, ba_bs]
  rfl

end Go.Proofs.Ytlmbbpppfghcbaa.Cmp

set_option linter.unusedVariables false
set_option linter.unusedSimpArgs false
set_option maxRecDepth 100000
namespace Go.Proofs.Ytlmbbpppfghcbaa.Cmp
open Go Go.RowKit Go.Proofs.Ytlmbbpppfghcbaa Go.Proofs.Ytlmbbpppfghcbaa.Kit Go.Proofs.Ytlmbbpppfghcbaa.Utf Go.Proofs.Ytlmbbpppfghcbaa.Rom Go.Proofs.Ytlmbbpppfghcbaa.Aut

theorem count_one {l : By} (h : count l = 1) : ∃ c, chars l = some [c] := by
  unfold count at h
  cases hc : chars l with
  | none => rw [hc] at h; simp at h
  | some cs =>
    rw [hc] at h
    simp at h
    match cs, h with
    | [c], _ => exact ⟨c, rfl⟩
theorem outs_len {is : List It} (h : ∀ i ∈ is, okI i = true) : ∃ cs, chars (outs is) = some cs ∧ cs.length = is.length := by
  induction is with
  | nil => exact ⟨[], rfl, rfl⟩
  | cons i r ih =>
    obtain ⟨cs, h1, h2⟩ := ih (fun j hj => h j (List.mem_cons_of_mem _ hj))
    have hi := h i (List.mem_cons_self ..)
    unfold okI at hi
    rw [Bool.and_eq_true, decide_eq_true_eq] at hi
    obtain ⟨c, hc⟩ := count_one hi.1
    obtain ⟨hv, he⟩ := chars_some hc
    refine ⟨c :: cs, ?_, by rw [List.length_cons, List.length_cons, h2]⟩
    show chars (bs i.o ++ outs r) = _
    rw [he, chars_encs_append hv, h1]; rfl
theorem Typd.len {rs : List Rule} {ks : By} {b : Bf} (h : Typd rs ks b) : chars (fd rs [] ks).1 = some (chs (fd rs [] ks).1) ∧ (chs (fd rs [] ks).1).length = b.is.length := by
  obtain ⟨cs, h1, h2⟩ := outs_len (val_parts h.v).2.2.2.1
  rw [h.o] at h1
  rw [chs_some h1]
  exact ⟨h1, h2⟩
theorem count_chs2 {l : By} {cs : List Int} (h : chars l = some cs) : count l = cs.length := by unfold count; rw [h]
theorem next_ok {rs : List Rule} (hok : okL rs = true) {ks r s : By} {c : UInt8} {b : Bf} (h : Typd rs ks b) (hk : AllK (ks ++ c :: r)) (hf : Feeds rs [] (ks ++ c :: r) s []) (hs : count s ≤ 30) : (keyB rs b c).2 = 0 := by
  have hc : isKb c = true := hk c (List.mem_append_right _ (List.mem_cons_self ..))
  have e : ks ++ c :: r = (ks ++ [c]) ++ r := by simp
  rw [e] at hf
  obtain ⟨o1, q1, o2, h1, h2, rfl⟩ := hf.split hok
  have hv := val_parts h.v
  have hp := fromB_keys.1 hv.2.2.2.2.2
  have hf1 := fd_spec hok (bs b.p) [c]
  have hf0 := fd_spec hok [] ks
  have hcomp : Feeds rs [] (ks ++ [c]) ((fd rs [] ks).1 ++ (fd rs (bs b.p) [c]).1) (fd rs (bs b.p) [c]).2 := by
    refine hf0.comp ?_
    rw [h.p] at hf1
    rw [h.p]
    exact hf1
  obtain ⟨e1, e2⟩ := h1.det hcomp
  have hk1 : AllK (ks ++ [c]) := fun x hx => hk x (by
    rw [List.mem_append] at hx ⊢
    rcases hx with hx | hx
    · exact .inl hx
    · rw [List.mem_singleton] at hx; subst hx; exact .inr (List.mem_cons_self ..))
  have hkr : AllK r := fun x hx => hk x (List.mem_append_right _ (List.mem_cons_of_mem _ hx))
  obtain ⟨cs2, hg2⟩ := feeds_good hok h2 (h1.keys hok AllK.nil hk1) hkr
  obtain ⟨cs1, hg1⟩ := feeds_good hok hf1 hp (AllK.one hc)
  obtain ⟨hl1, hl2⟩ := h.len
  have hcs := chs_append (⟨_, hl1⟩ : Good _) (⟨_, hg1⟩ : Good _)
  obtain ⟨hv0, he0⟩ := chars_some hl1
  obtain ⟨hv1, he1⟩ := chars_some hg1
  have hall : chars (o1 ++ o2) = some (chs (fd rs [] ks).1 ++ (cs1 ++ cs2)) := by
    rw [e1, List.append_assoc, he0, chars_encs_append hv0, he1, chars_encs_append hv1, hg2]
    rw [← he0]
    rfl
  rw [count_chs2 hall, List.length_append, List.length_append, hl2] at hs
  unfold keyB
  have hx : (val b && isKb c) = true := by rw [h.v, hc]; rfl
  rw [if_pos hx, if_neg (by rw [chs_some hg1]; omega)]
theorem typed_end {rs : List Rule} {k s : By} {b : Bf} (h : Typd rs k b) (hf : Feeds rs [] k s []) : texB b = (ba s, ⟨#[]⟩, ⟨#[]⟩) ∧ (b.is.length : Int) = count s ∧ b.p.size = 0 ∧ b.c = b.is.length := by
  have e : Aut.fd rs [] k = (s, []) := hf.fd
  have ht := h.text
  obtain ⟨hl1, hl2⟩ := h.len
  rw [e] at ht hl1 hl2
  refine ⟨ht, by rw [count_chs2 hl1, hl2], ?_, h.c⟩
  have hp := h.p
  rw [e] at hp
  have := congrArg List.length hp
  rw [bs_len] at this
  exact this
/-- A valid buffer of n items without pending keys, the caret at its end. -/
def Full (b : Bf) (n : Nat) : Prop := val b = true ∧ b.p.size = 0 ∧ b.c = n ∧ b.is.length = n
theorem Full.back {b : Bf} {n : Nat} (h : Full b (n + 1)) : Full (bacB b) n := by
  obtain ⟨h1, h2, h3, h4⟩ := h
  obtain ⟨v1, v2, v3, v4, v5, v6⟩ := val_parts h1
  have e : bacB b = ⟨b.is.eraseIdx (b.c - 1).toNat, b.c - 1, b.p⟩ := by
    unfold bacB
    rw [if_pos h1, if_neg (by omega), if_pos (by omega)]
  rw [e]
  have hl : (b.is.eraseIdx (b.c - 1).toNat).length = n := by rw [List.length_eraseIdx_of_lt (by omega)]; omega
  refine ⟨val_of (by show (b.is.eraseIdx _).length ≤ 64; omega) (by show 0 ≤ b.c - 1; omega) (by show b.c - 1 ≤ ((b.is.eraseIdx _).length : Nat); omega) (fun i hi => v4 i (List.mem_of_mem_eraseIdx hi)) v5 v6, h2, by show b.c - 1 = n; omega, hl⟩

end Go.Proofs.Ytlmbbpppfghcbaa.Cmp

set_option linter.unusedVariables false
set_option linter.unusedSimpArgs false
set_option maxRecDepth 100000
namespace Go.Proofs.Ytlmbbpppfghcbaa.Aut
open Go Go.RowKit Go.Proofs.Ytlmbbpppfghcbaa.Kit Go.Proofs.Ytlmbbpppfghcbaa.Utf Go.Proofs.Ytlmbbpppfghcbaa.Rom

/-- The slice v has n elements of sz cells each: xs. -/
def RowG (w : World) (v : Value) (sz n : Nat) (xs : List Value) : Prop :=
  ∃ a cap, v = .slice a n cap ∧ n ≤ cap ∧ cap ≤ maxLen ∧ xs.length = n * sz ∧ (n = 0 ∨ ∃ b off, a = some ⟨b, off, none⟩ ∧ b < w.heap.size ∧ ∀ i x, xs[i]? = some x → w.cell? ⟨b, off + i, none⟩ = some x)
theorem RowG.later {w w' : World} {v : Value} {sz n : Nat} {xs : List Value} (h : RowG w v sz n xs) {B : Nat} (hb : Below B w w') (hB : w.heap.size ≤ B) : RowG w' v sz n xs := by
  obtain ⟨a, cap, rfl, h1, h2, h3, h4⟩ := h
  refine ⟨a, cap, rfl, h1, h2, h3, h4.imp id ?_⟩
  rintro ⟨b, off, rfl, hlt, hx⟩
  exact ⟨b, off, rfl, Nat.lt_of_lt_of_le hlt hb.size, fun i x hi => by rw [hb.cell (p := ⟨b, _, none⟩) (by show b < B; omega)]; exact hx i x hi⟩
theorem RowG.of_own {w : World} {base : Nat} {e : TypeId} {sz n : Nat} {v : Value} {xs : List Value} (h : w.ownsRow base e sz v n xs) : RowG w v sz n xs := by
  rcases h.2 with ⟨rfl, h0⟩ | ⟨g, cap, cur, rfl, hb, hg, hnc, hcm, hcs, htake⟩
  · subst h0; exact ⟨none, 0, rfl, Nat.le_refl _, Nat.zero_le _, h.1, .inl rfl⟩
  · refine ⟨_, cap, rfl, hnc, hcm, h.1, .inr ⟨g, 0, rfl, (Array.getElem?_eq_some_iff.1 hg).1, fun j x hx => ?_⟩⟩
    rw [Nat.zero_add, cell_of_row w g j cur e (0, 0) hg]
    rw [← htake, List.getElem?_take] at hx
    split at hx
    · simpa using hx
    · cases hx
/-- Where there is an element, there is a block. -/
theorem RowG.at {w : World} {a : Option Addr} {sz n cap : Nat} {xs : List Value} (h : RowG w (.slice a n cap) sz n xs) (h0 : 0 < n) : ∃ b off, a = some ⟨b, off, none⟩ ∧ b < w.heap.size ∧ ∀ i x, xs[i]? = some x → w.cell? ⟨b, off + i, none⟩ = some x := by
  obtain ⟨a, cap, e, h1, h2, h3, h4⟩ := h
  cases e
  rcases h4 with h4 | h4
  · omega
  · exact h4

/-! ### moves -/
def mcells (m : Mv) : List Value := [.int .u8 m.c.toNat, .string (ba m.o), .string (ba m.q)]
def mc (ms : List Mv) : List Value := ms.flatMap mcells
theorem mc_append (a b : List Mv) : mc (a ++ b) = mc a ++ mc b := by simp [mc]
theorem mc_len (ms : List Mv) : (mc ms).length = ms.length * 3 := by
  induction ms with
  | nil => rfl
  | cons m ms ih => show (mcells m ++ mc ms).length = _; rw [List.length_append, ih]; simp [mcells]; omega
theorem mc_at : ∀ (ms : List Mv) (i : Nat) (m : Mv), ms[i]? = some m → (mc ms)[i * 3]? = some (.int .u8 m.c.toNat) ∧ (mc ms)[i * 3 + 1]? = some (.string (ba m.o)) ∧ (mc ms)[i * 3 + 2]? = some (.string (ba m.q))
  | [], i, m, h => by simp at h
  | x :: ms, 0, m, h => by
    simp only [List.getElem?_cons_zero, Option.some.injEq] at h
    subst h
    exact ⟨rfl, rfl, rfl⟩
  | x :: ms, i + 1, m, h => by
    have := mc_at ms i m (by simpa using h)
    show (mcells x ++ mc ms)[(i + 1) * 3]? = _ ∧ (mcells x ++ mc ms)[(i + 1) * 3 + 1]? = _ ∧ (mcells x ++ mc ms)[(i + 1) * 3 + 2]? = _
    rw [show (i + 1) * 3 = i * 3 + 3 by omega]
    exact this

theorem info_move : (Try.prog.info? 114).map (fun i => (i.zero, i.size, i.bytes)) = some (some (.agg #[.int .u8 0, .string { data := #[] }, .string { data := #[] }]), 3, 40) := by kernel_rfl

/-- The library's variable holds some number. -/
def MaxL (w : World) : Prop := ∃ m, w.cell? ⟨0, 0, none⟩ = some (.int .i64 m)
theorem MaxL.later {w w' : World} {B : Nat} (h : MaxL w) (hb : Below B w w') (hB : 0 < B) : MaxL w' := by
  obtain ⟨m, h⟩ := h
  exact ⟨m, by rw [hb.cell (by exact hB)]; exact h⟩

set_option maxHeartbeats 2000000 in
theorem moves_any {rs : List Rule} (hok : okL rs = true) (B a : Nat) (s p : ByteArray) (w : World) (hA : AutoAt B w a rs) (hB : B ≤ w.heap.size) (hm : MaxL w) (hG : 0 < w.heap.size) (hs : s.size ≤ 1000000) (hp : p.size ≤ 1000) (hk : AllK (bs p)) :
    Calls Try.prog 78 #[.pointer (some ⟨a, 0, none⟩), .string s, .string p] w fun e w' => ∃ v, e = .returned v ∧ w'.ownsRow w.heap.size 114 3 v (mvs rs (bs s) (bs p) 94).length (mc (mvs rs (bs s) (bs p) 94)) ∧ Below w.heap.size w w' := by
  obtain ⟨i0, hi0, hz0, hz1, hz2⟩ := info_parts info_move
  have HST : Hid (∀ (i : Nat), i < 94 → ∀ W : World, Below w.heap.size w W → Calls Try.prog 22 #[.pointer (some ⟨a, 0, none⟩), .string p, .int .u8 ((33 : Int) + i)] W fun e w' => e = .returned (.tuple #[.string (ba (fd rs (bs p) [keyB i]).1), .string (ba (fd rs (bs p) [keyB i]).2)]) ∧ Below W.heap.size W w') := Lib.hid fun i hi W hW => by
    have h := step_any hok B a p (keyB i) W (hA.later hW hB) (Nat.le_trans hB hW.size) (by omega)
    rw [(keyB_is hi).1, keysOf_id hk, keysOf_id (AllK.one (keyB_is hi).2)] at h
    have e : ((33 + i : Nat) : Int) = (33 : Int) + i := by omega
    rw [e] at h
    exact h
  have HCT : Hid (∀ (W : World) (o : By), Below w.heap.size w W → Calls Try.prog 100 #[.string s, .string (ba o)] W fun e w' => e = .returned (.bool (Lib.contains (bs s) o)) ∧ w' = W) := Lib.hid fun W o hW => by
    obtain ⟨m, hm'⟩ := hm.later hW hG
    exact Try.strings_Contains s (ba o) m W (by omega) hm'
  clear hA hm hk
  go_enter Try.func78, Try.ntmps78
  go_wp2
  go_loopw [8, 7] (fun c v wr => ∃ i : Nat, c = .int .u8 ((33 : Int) + i) ∧ i ≤ 94 ∧ wr.ownsRow w.heap.size 114 3 v (mvs rs (bs s) (bs p) i).length (mc (mvs rs (bs s) (bs p) i)) ∧ Below w.heap.size w wr) (fun c _ _ => 127 - (intOf c).toNat)
  case atStart => exact ⟨0, rfl, by omega, World.ownsRow_nil _ _ _ _, Below.refl _ _⟩
  case round =>
    obtain ⟨i, rfl, hi, hown, hbw⟩ := hrel
    have hws := hbw.size
    by_cases hil : i < 94
    · have HS := Lib.hid (HST.out i hil wr hbw)
      have hsu := mvs_succ rs (bs s) (bs p) i
      obtain ⟨o, ho⟩ : ∃ o, (fd rs (bs p) [keyB i]).1 = o := ⟨_, rfl⟩
      obtain ⟨q, hq⟩ : ∃ q, (fd rs (bs p) [keyB i]).2 = q := ⟨_, rfl⟩
      have hkb := (keyB_is hil).1
      rw [ho, hq] at HS hsu
      obtain ⟨ct, hct⟩ : ∃ ct, Lib.contains (bs s) o = ct := ⟨_, rfl⟩
      have HC : Hid (∀ (W : World), Below w.heap.size w W → Calls Try.prog 100 #[.string s, .string (ba o)] W fun e w' => e = .returned (.bool ct) ∧ w' = W) := Lib.hid fun W hW => hct ▸ HCT.out W o hW
      rw [hct] at hsu
      have hln := mvs_len rs (bs s) (bs p) i
      generalize mvs rs (bs s) (bs p) i = ms at hown hsu hln
      have hxl : (mc ms).length = ms.length * 3 := mc_len ms
      obtain ⟨L, hL⟩ : ∃ L, ms.length = L := ⟨_, rfl⟩
      rw [hL] at hown hln hxl
      have HL := Lib.hid hL
      have HSU := Lib.hid hsu
      have HKB := Lib.hid hkb
      clear hL hsu ho hq hct hkb
      have hmcs : mc [⟨keyB i, o, q⟩] = [.int .u8 ((33 : Int) + i), .string (ba o), .string (ba q)] := by
        show mcells _ ++ [] = _
        unfold mcells
        rw [HKB.out, List.append_nil]
        congr 2
      have HMC := Lib.hid hmcs
      clear hmcs
      cases ct
      · have e1 : mvs rs (bs s) (bs p) (i + 1) = ms := by rw [HSU.out]; simp
        have E1 := Lib.hid e1
        clear e1
        go_wp2_with (first
          | (go_at_call 22; (with_reducible refine HS.out.mono ?_); rintro e w2 ⟨rfl, hb2⟩; have hbw2 := hbw.trans (hb2.mono hws); have hown2 := own_later hown hb2)
          | (go_at_call 100; (with_reducible refine (HC.out _ hbw2).mono ?_); rintro e w3 ⟨rfl, hw3⟩; obtain rfl := hw3.symm))
        go_roundw
        case rel => exact ⟨i + 1, by go_num, by omega, by rw [E1.out, HL.out]; exact hown2, hbw2⟩
        case measure => simp [intOf]; omega
      · have e1 : mvs rs (bs s) (bs p) (i + 1) = ms ++ [⟨keyB i, o, q⟩] := by rw [HSU.out]; rfl
        have E1 := Lib.hid e1
        clear e1
        go_wp2_with (first
          | (go_at_call 22; (with_reducible refine HS.out.mono ?_); rintro e w2 ⟨rfl, hb2⟩; have hbw2 := hbw.trans (hb2.mono hws); have hown2 := own_later hown hb2; have hws2 := hbw2.size)
          | (go_at_call 100; (with_reducible refine (HC.out _ hbw2).mono ?_); rintro e w3 ⟨rfl, hw3⟩; obtain rfl := hw3.symm)
          | (at_builtin; refine wpList_append_own _ rfl _ _ _ rfl w.heap.size 114 i0 (.agg #[.int .u8 0, .string { data := #[] }, .string { data := #[] }]) 3 40 Try.underlying112 hi0 hz0 hz1 hz2 rfl (by decide) _ L (mc ms) rfl (hown2.alloc _) ⟨w2.heap.size, 0, none⟩ 1 1 [.int .u8 ((33 : Int) + i), .string (ba o), .string (ba q)] rfl rfl (World.news_of_block (heap_alloc_new _ _)) ?c2 ?c3 ?c4 ?c5 ?_))
        case c2 => intro u hu; simp only [List.mem_cons, List.not_mem_nil, or_false] at hu; rcases hu with rfl | rfl | rfl <;> rfl
        case c3 => unfold maxLen; omega
        case c4 => omega
        case c5 => simp; omega
        intro v' w5 hown5 hg5 _
        have hb5 : Below w.heap.size w w5 := (hbw2.alloc hws2 _).grown hg5 (by simp; omega) (fun j hj => by have := hown2.lt j hj; omega)
        go_wp2
        go_roundw
        case rel => exact ⟨i + 1, by go_num, by omega, by rw [E1.out, List.length_append, List.length_singleton, HL.out, mc_append, HMC.out]; exact hown5, hb5⟩
        case measure => simp [intOf]; omega
    · obtain rfl : i = 94 := by omega
      have HRG := Lib.hid hown
      generalize hms : mvs rs (bs s) (bs p) 94 = ms at hown HRG
      clear hown
      go_wp2
      go_ret
      exact ⟨_, rfl, by rw [hms]; exact HRG.out, hbw⟩

end Go.Proofs.Ytlmbbpppfghcbaa.Aut

set_option linter.unusedVariables false
set_option linter.unusedSimpArgs false
set_option maxRecDepth 100000
namespace Go.Proofs.Ytlmbbpppfghcbaa.Aut
open Go Go.RowKit Go.Proofs.Ytlmbbpppfghcbaa.Kit Go.Proofs.Ytlmbbpppfghcbaa.Utf Go.Proofs.Ytlmbbpppfghcbaa.Rom Go.Maps Go.ChangeMaps Go.WideMaps

/-- A state: how much is written, and what is pending. -/
def eSt (x : Nat × ByteArray) : Value := .agg #[.int .i64 x.1, .string x.2]
theorem eSt_inj : ∀ x y, eSt x = eSt y → x = y := by
  rintro ⟨a, b⟩ ⟨c, d⟩ h
  unfold eSt at h
  injection h with h
  have h1 := congrArg Array.toList h
  simp only [List.cons.injEq, Value.int.injEq, Value.string.injEq, and_true, true_and] at h1
  obtain ⟨h1, h2⟩ := h1
  subst h2
  have : a = c := by omega
  subst this; rfl
theorem law_st : Keyed Try.prog 104 := Keyed.of_law (deep_law_laid (m := 2) (by kernel_rfl) (by omega) (by rw [show Try.prog.types.size = _ from rfl]; decide) (by kernel_rfl) (by kernel_rfl))
theorem key_st {n : Nat} {s : ByteArray} (hn : n ≤ 1000000000) (hs : s.size ≤ maxLen) : ∃ l, keyOf Try.prog 104 (eSt (n, s)) = some l := by
  have hsz : ∃ m, Try.prog.types.size = m + 1 := by
    have h0 : (Try.prog.types.size == 0) = false := by kernel_rfl
    have h1 : Try.prog.types.size ≠ 0 := by intro e; rw [e] at h0; cases h0
    exact ⟨Try.prog.types.size - 1, by omega⟩
  obtain ⟨m, hm⟩ := hsz
  have c1 : Try.prog.cellsOf 104 = 2 := by kernel_rfl
  have c2 : Try.prog.cellsOf 3 = 1 := by kernel_rfl
  have c3 : Try.prog.cellsOf 9 = 1 := by kernel_rfl
  have hkt : Try.prog.keyType 104 = true := by kernel_rfl
  have hwf : (Lit.int .i64 (n : Int)).wf = true := WalkArith.wf_i64 (by omega)
  unfold keyOf
  rw [Try.underlying104]
  dsimp only
  rw [if_pos (by simp [hkt, eSt, Value.formed, Try.underlying104, c1]), hm]
  unfold Program.keyLits
  simp only [Try.underlying104, Value.cells, eSt]
  rw [if_pos (by rw [c1]; exact ⟨rfl, by simp⟩)]
  simp [c2, c3, Program.keyLits, Try.underlying3, Try.underlying9, hwf, hs]

/-- An arrival: the state before, and the key. -/
def eAr (n : Nat) (p : ByteArray) (c : Int) : Value := .agg #[.int .i64 n, .string p, .int .u8 c]
theorem zeroAr (w : World) : (zeroValue 106).run Try.prog w = .ok (eAr 0 ⟨#[]⟩ 0) w := by kernel_rfl
/-- How a state was reached. -/
def arr (Q : List Nd) (x : Nat × ByteArray) : Option Value :=
  (Q.find? fun y => decide (y.n = x.1 ∧ y.p = bs x.2)).map fun y => eAr y.bn (ba y.bp) y.c.toNat

theorem arr_none {Q : List Nd} {n : Nat} {q : By} (h : ∀ y ∈ Q, ¬ (y.n = n ∧ y.p = q)) : arr Q (n, ba q) = none := by
  unfold arr
  rw [Option.map_eq_none_iff, List.find?_eq_none]
  intro y hy
  simp only [bs_ba]
  simpa using h y hy
theorem arr_some {Q : List Nd} {n : Nat} {q : By} (h : ∃ y ∈ Q, y.n = n ∧ y.p = q) : (arr Q (n, ba q)).isSome = true := by
  obtain ⟨y, hy, h1, h2⟩ := h
  unfold arr
  rw [Option.isSome_map, List.find?_isSome]
  exact ⟨y, hy, by simp only [bs_ba]; simpa using ⟨h1, h2⟩⟩
/-- .. of a state of the list. -/
theorem arr_at {rs : List Rule} {s : By} {Q : List Nd} {i : Nat} {cs : By} (h : Inv rs s Q i cs) {x : Nd} (hx : x ∈ Q) : arr Q (x.n, ba x.p) = some (eAr x.bn (ba x.bp) x.c.toNat) := by
  have h1 : (Q.find? fun y => decide (y.n = x.n ∧ y.p = bs (ba x.p))).isSome = true := by
    rw [List.find?_isSome]; exact ⟨x, hx, by simp [bs_ba]⟩
  obtain ⟨y, hy⟩ := Option.isSome_iff_exists.1 h1
  have h2 := List.find?_some hy
  have h3 := List.mem_of_find?_eq_some hy
  simp only [decide_eq_true_eq, bs_ba] at h2
  obtain ⟨j, hj⟩ := mem_at hx
  obtain ⟨k, hk⟩ := mem_at h3
  have e := h.same hk hj h2.1 h2.2
  subst e
  rw [hj] at hk; cases hk
  unfold arr
  rw [hy]
  rfl
theorem arr_new {Q : List Nd} {z : Nd} (hnew : ∀ y ∈ Q, ¬ (y.n = z.n ∧ y.p = z.p)) : upd (arr Q) (z.n, ba z.p) (eAr z.bn (ba z.bp) z.c.toNat) = arr (Q ++ [z]) := by
  funext x
  unfold upd arr
  rw [List.find?_append]
  by_cases e : x = (z.n, ba z.p)
  · subst e
    rw [if_pos rfl]
    have : (Q.find? fun y => decide (y.n = (z.n, ba z.p).1 ∧ y.p = bs (z.n, ba z.p).2)) = none := by
      rw [List.find?_eq_none]
      intro y hy
      simp only [bs_ba]
      simpa using hnew y hy
    rw [this]
    simp [bs_ba]
  · rw [if_neg e]
    have : ([z].find? fun y => decide (y.n = x.1 ∧ y.p = bs x.2)) = none := by
      rw [List.find?_eq_none]
      intro y hy
      rw [List.mem_singleton] at hy; subst hy
      simp only [decide_eq_true_eq]
      rintro ⟨h1, h2⟩
      exact e (Prod.ext h1.symm (by show x.2 = ba y.p; rw [h2, ba_bs]))
    rw [this, Option.or_none]

end Go.Proofs.Ytlmbbpppfghcbaa.Aut

set_option linter.unusedVariables false
set_option linter.unusedSimpArgs false
set_option maxRecDepth 100000
namespace Go.Proofs.Ytlmbbpppfghcbaa.Aut
open Go Go.RowKit Go.Proofs.Ytlmbbpppfghcbaa.Kit Go.Proofs.Ytlmbbpppfghcbaa.Utf Go.Proofs.Ytlmbbpppfghcbaa.Rom

/-- The first k and the last k of a list exchanged. -/
def rv (xs : By) (k : Nat) : By := (List.range xs.length).map fun t => if t < k ∨ xs.length - k ≤ t then xs.getD (xs.length - 1 - t) 0 else xs.getD t 0
theorem rv_len (xs : By) (k : Nat) : (rv xs k).length = xs.length := by simp [rv]
theorem rv_at (xs : By) (k : Nat) {t : Nat} (h : t < xs.length) : (rv xs k)[t]? = some (if t < k ∨ xs.length - k ≤ t then xs.getD (xs.length - 1 - t) 0 else xs.getD t 0) := by
  unfold rv
  rw [List.getElem?_map, List.getElem?_range h]
  rfl
theorem rv_zero (xs : By) : rv xs 0 = xs := by
  apply List.ext_getElem?
  intro t
  by_cases h : t < xs.length
  · rw [rv_at xs 0 h, if_neg (by omega), List.getD_eq_getElem?_getD, List.getElem?_eq_getElem h]; rfl
  · rw [List.getElem?_eq_none (by rw [rv_len]; omega), List.getElem?_eq_none (by omega)]
theorem rv_end (xs : By) {k : Nat} (h : xs.length ≤ 2 * k + 1) (h2 : 2 * k ≤ xs.length) : rv xs k = xs.reverse := by
  apply List.ext_getElem?
  intro t
  by_cases ht : t < xs.length
  · rw [rv_at xs k ht, List.getElem?_reverse ht]
    have e : (if t < k ∨ xs.length - k ≤ t then xs.getD (xs.length - 1 - t) 0 else xs.getD t 0) = xs.getD (xs.length - 1 - t) 0 := by
      split
      · rfl
      · rename_i hn
        have : t = xs.length - 1 - t := by omega
        rw [← this]
    rw [e, List.getD_eq_getElem?_getD, List.getElem?_eq_getElem (by omega)]; rfl
  · rw [List.getElem?_eq_none (by rw [rv_len]; omega), List.getElem?_eq_none (by rw [List.length_reverse]; omega)]
theorem rv_step (xs : By) {k : Nat} (h : 2 * k + 1 < xs.length) : ((rv xs k).set k (xs.getD (xs.length - 1 - k) 0)).set (xs.length - 1 - k) (xs.getD k 0) = rv xs (k + 1) := by
  apply List.ext_getElem?
  intro t
  rw [List.getElem?_set, List.getElem?_set]
  simp only [List.length_set, rv_len]
  by_cases ht : t < xs.length
  · rw [rv_at xs (k + 1) ht]
    by_cases e1 : xs.length - 1 - k = t
    · rw [if_pos e1, if_pos (by omega), if_pos (by omega)]
      congr 2
      omega
    · rw [if_neg e1]
      by_cases e2 : k = t
      · subst e2
        rw [if_pos rfl, if_pos ht, if_pos (by omega)]
      · rw [if_neg e2, rv_at xs k ht]
        congr 1
        by_cases e3 : t < k ∨ xs.length - k ≤ t
        · rw [if_pos e3, if_pos (by omega)]
        · rw [if_neg e3, if_neg (by omega)]
  · rw [List.getElem?_eq_none (l := rv xs (k + 1)) (by rw [rv_len]; omega), List.getElem?_eq_none (l := rv xs k) (by rw [rv_len]; omega)]
    split <;> rename_i h1
    · omega
    · split
      · omega
      · rfl
theorem u8s_set (l : By) (i : Nat) (c : UInt8) : (u8s l).set i (.int .u8 c.toNat) = u8s (l.set i c) := by simp [u8s, List.map_set]
theorem u8s_at {l : By} {i : Nat} {c : UInt8} (h : l[i]? = some c) : (u8s l)[i]? = some (.int .u8 c.toNat) := by simp [u8s, h]

set_option maxHeartbeats 2000000 in
theorem rev_any (xs : By) (base : Nat) (v : Value) (w : World) (hown : w.ownsRow base 5 1 v xs.length (u8s xs)) (hl : xs.length ≤ 1000000000) :
    Calls Try.prog 79 #[v] w fun e w' => e = .returned (.tuple #[]) ∧ w'.ownsRow base 5 1 v xs.length (u8s xs.reverse) ∧ Below base w w' := by
  rcases hown.2 with ⟨rfl, h0⟩ | ⟨g, cap, cur, rfl, hb, hg, hnc, hcm, hcs, htake⟩
  · have : xs = [] := List.eq_nil_of_length_eq_zero h0
    subst this
    go_enter Try.func79, Try.ntmps79
    go_wp2
    go_loopw [2, 3] (fun i j wr => i = .int .i64 0 ∧ j = .int .i64 (-1) ∧ wr = w) (fun i _ _ => 0)
    case atStart => exact ⟨rfl, rfl, rfl⟩
    case round =>
      obtain ⟨rfl, rfl, rfl⟩ := hrel
      go_wp2
      go_end0
      exact ⟨rfl, hown, Below.refl _ _⟩
  · clear hg hcs htake cur
    go_enter Try.func79, Try.ntmps79
    go_wp2
    go_loopw [2, 3] (fun i j wr => ∃ (k : Nat) (z : Int), i = .int .i64 k ∧ j = .int .i64 z ∧ z = (xs.length : Int) - 1 - k ∧ 2 * k ≤ xs.length ∧ Hid (wr.ownsRow base 5 1 (.slice (some ⟨g, 0, none⟩) xs.length cap) xs.length (u8s (rv xs k))) ∧ Below base w wr) (fun i _ _ => xs.length - (intOf i).toNat)
    case atStart => exact ⟨0, (xs.length : Int) - 1, rfl, rfl, by simp, by omega, by rw [rv_zero]; exact Lib.hid hown, Below.refl _ _⟩
    case round =>
      obtain ⟨k, z, rfl, rfl, hz, hk, hown, hbw⟩ := hrel
      by_cases hkl : 2 * k + 1 < xs.length
      · obtain ⟨J, hJ⟩ : ∃ J : Nat, J = xs.length - 1 - k := ⟨_, rfl⟩
        obtain rfl : z = (J : Int) := by omega
        obtain ⟨g', hg', _, _, hcell, hfz⟩ := own_cells hown.out (by omega)
        cases hg'
        have a1 := rv_at xs k (t := k) (by omega)
        rw [if_neg (by omega)] at a1
        have a2 := rv_at xs k (t := J) (by omega)
        rw [if_neg (by omega)] at a2
        have ck := hcell k _ (u8s_at a1)
        have cJ := hcell J _ (u8s_at a2)
        have fk := hfz k
        have fJ := hfz J
        have hst := rv_step xs hkl
        rw [← hJ] at hst
        have h1 := own_set hown.out (k := k) (by omega) (.int .u8 (xs.getD J 0).toNat)
        rw [u8s_set] at h1
        have h2 := own_set h1 (k := J) (by omega) (.int .u8 (xs.getD k 0).toNat)
        rw [u8s_set, hst] at h2
        have H2 := Lib.hid h2
        have hbs : Below base w ((wr.setCell ⟨g, k, none⟩ (.int .u8 (xs.getD J 0).toNat)).setCell ⟨g, J, none⟩ (.int .u8 (xs.getD k 0).toNat)) := Below.setCell (Below.setCell hbw (by exact hb) _) (by exact hb) _
        have HB := Lib.hid hbs
        have k0 : (0 : Int) ≤ k := by omega
        have k1 : (k : Int) < xs.length := by omega
        have j0 : (0 : Int) ≤ J := by omega
        have j1 : (J : Int) < xs.length := by omega
        have kj : (k : Int) < J := by omega
        have hne : k ≠ J := by omega
        have HJ := Lib.hid hJ
        clear hcell hfz a1 a2 h1 h2 hst hbs hJ hz
        generalize xs.getD J 0 = cj at *
        generalize xs.getD k 0 = ci at *
        go_wp2
        go_region
        go_wp2
        go_roundw
        case rel => exact ⟨k + 1, (J : Int) - 1, by go_num, by go_num, by have := HJ.out; omega, by omega, Lib.hid H2.out, HB.out.drew⟩
        case measure => simp [intOf]; omega
      · have he := rv_end xs (k := k) (by omega) hk
        rw [he] at hown
        clear he
        have hzk : ¬ (k : Int) < z := by omega
        go_wp2
        go_end0
        exact ⟨rfl, hown.out, hbw⟩

end Go.Proofs.Ytlmbbpppfghcbaa.Aut

set_option linter.unusedVariables false
set_option linter.unusedSimpArgs false
set_option maxRecDepth 100000
namespace Go.Proofs.Ytlmbbpppfghcbaa.Aut
open Go Go.RowKit Go.Proofs.Ytlmbbpppfghcbaa.Kit Go.Proofs.Ytlmbbpppfghcbaa.Utf Go.Proofs.Ytlmbbpppfghcbaa.Rom

theorem eq_st (a b : Nat) (s t : ByteArray) (w : World) : (Op.equalIn 10000 104 (.agg #[.int .i64 a, .string s]) (.agg #[.int .i64 b, .string t])).run Try.prog w = .ok (decide (a = b ∧ s = t)) w := by
  have u3 := Try.underlying9
  have a3 := Try.isAgg9
  have z3 := Try.sizeOf9
  have u4 := Try.underlying3
  have a4 := Try.isAgg3
  have z4 := Try.sizeOf3
  have hS : Try.prog.underlying 104 = some (.struct (Try.prog.fieldsOf 104)) := by kernel_rfl
  have hp : Try.prog.stoodInHeld 104 = false := by kernel_rfl
  have e : decide (a = b ∧ s = t) = (decide (a = b) && decide (s = t)) := by rw [Bool.decide_and]
  rw [show (10000 : Nat) = 9999 + 1 from rfl, run_equalIn_agg w 9999 104 _ _ hS hp]
  simp only [Program.fieldsOf, Try.underlying104]
  rw [e, ← str_beq2]
  have hab : ((a : Int) = b) = (a = b) := propext (by omega)
  go_simp
  by_cases h1 : a = b <;> by_cases h2 : s.toList = t.toList <;> simp [h1, h2, hab]
theorem guard_st : Try.prog.eqGuardType Try.prog.depth 104 = false := by kernel_rfl

theorem field_ar1 (n : Int) (p : ByteArray) (c : Int) (w : World) : (Instr.field 106 (.agg #[.int .i64 n, .string p, .int .u8 c]) 1).run Try.prog w = .ok (.int .u8 c) w := by kernel_rfl
theorem field_ar0 (n : Int) (p : ByteArray) (c : Int) (w : World) : (Instr.field 106 (.agg #[.int .i64 n, .string p, .int .u8 c]) 0).run Try.prog w = .ok (.agg #[.int .i64 n, .string p]) w := by kernel_rfl

theorem pend_len {rs : List Rule} (hok : okL rs = true) {p : By} (h : Pend rs p) : p.length ≤ 4 := by
  rcases h with rfl | h
  · simp
  · unfold longL at h
    rw [List.any_eq_true] at h
    obtain ⟨r, hr, h⟩ := h
    unfold longR at h
    rw [Bool.and_eq_true, decide_eq_true_eq, ba_size] at h
    have := (okR_next (ok_of hok hr)).2.1
    omega
theorem Inv.pend {rs : List Rule} {s : By} (hok : okL rs = true) {Q : List Nd} {i : Nat} {cs : By} (h : Inv rs s Q i cs) {x : Nd} (hx : x ∈ Q) : Pend rs x.p ∧ x.p.length ≤ 4 ∧ AllK x.p ∧ x.n ≤ s.length := by
  obtain ⟨h1, h2, h3⟩ := h.good x hx
  have := h3.pend (.inl rfl)
  exact ⟨this, pend_len hok this, h3.keys hok AllK.nil h1, h2⟩
/-- The state before. -/
theorem Inv.before {rs : List Rule} {s : By} {Q : List Nd} {i : Nat} {cs : By} (h : Inv rs s Q i cs) {y : Nd} (hy : y ∈ Q) : (y.n = 0 ∧ y.p = [] ∧ y.w = []) ∨ (¬ (y.n = 0 ∧ y.p = []) ∧ ∃ x ∈ Q, y.w = x.w ++ [y.c] ∧ y.bn = x.n ∧ y.bp = x.p) := by
  obtain ⟨T, hQ, hT⟩ := h.first
  have h0 : Q[0]? = some nd0 := by rw [hQ]; rfl
  by_cases e : y = nd0
  · subst e; exact .inl ⟨rfl, rfl, rfl⟩
  · refine .inr ⟨fun ⟨h1, h2⟩ => e ?_, ?_⟩
    · obtain ⟨j, hj⟩ := mem_at hy
      have := h.same hj h0 h1 h2
      subst this
      rw [h0] at hj; cases hj; rfl
    · rw [hQ] at hy
      rcases List.mem_cons.1 hy with rfl | hy
      · exact absurd rfl e
      · obtain ⟨_, j, x, hj, _, h1, h2, h3⟩ := hT y hy
        exact ⟨x, List.mem_of_getElem? hj, h1, h2, h3⟩

def sliceLen (v : Value) : Nat := match v with
  | .slice _ n _ => n
  | _ => 0
theorem sliceLen_own {w : World} {base : Nat} {e : TypeId} {sz n : Nat} {v : Value} {xs : List Value} (h : w.ownsRow base e sz v n xs) : sliceLen v = n := by
  rcases h.2 with ⟨rfl, h0⟩ | ⟨g, cap, cur, rfl, _⟩
  · exact h0.symm
  · rfl

set_option maxHeartbeats 4000000 in
theorem keysTo_any {rs : List Rule} (hok : okL rs = true) {s : By} {Q : List Nd} {i : Nat} {cs : By} (hI : Inv rs s Q i cs) (hs : s.length ≤ 1000000) (x : Nd) (hx : x ∈ Q) (hl : x.w.length ≤ 100000000) (b m : Nat) (w : World) (hM : MapF 104 eSt w b m (arr Q)) :
    Calls Try.prog 60 #[.map (some b), .agg #[.int .i64 x.n, .string (ba x.p)]] w fun e w' => e = .returned (.string (ba x.w)) ∧ Below w.heap.size w w' := by
  obtain ⟨i0, hi0, hz0, hz1, hz2⟩ := info_parts Clone.info_u8
  have HX : Hid (∀ y ∈ Q, (y.n = 0 ∧ y.p = [] ∧ y.w = []) ∨ (¬ (y.n = 0 ∧ y.p = []) ∧ ∃ x ∈ Q, y.w = x.w ++ [y.c] ∧ y.bn = x.n ∧ y.bp = x.p)) := Lib.hid fun y hy => hI.before hy
  have HG : Hid (∀ (y : Nd), y ∈ Q → ∀ W, Below w.heap.size w W → (Instr.lookup 107 (.map (some b)) (.agg #[.int .i64 y.n, .string (ba y.p)]) false).run Try.prog W = .ok (.agg #[.int .i64 y.bn, .string (ba y.bp), .int .u8 y.c.toNat]) W) := Lib.hid fun y hy W hW => by
    obtain ⟨_, hp, _, hn⟩ := hI.pend hok hy
    obtain ⟨l, hl⟩ := key_st (n := y.n) (s := ba y.p) (by omega) (by rw [ba_size]; unfold maxLen; omega)
    have := (hM.later hW hM.lt).get law_st Try.underlying107 (zeroAr W) hl
    rw [arr_at hI hy] at this
    exact this
  have HN : Hid (∀ y ∈ Q, y.n ≤ 1000000) := Lib.hid fun y hy => by have := (hI.pend hok hy).2.2.2; omega
  clear hI hM
  go_enter Try.func60, Try.ntmps60
  go_wp2
  obtain ⟨g, hg⟩ : ∃ g, w.heap.size = g := ⟨_, rfl⟩
  have hbx := heap_alloc_new w (Obj.cells #[.int .i64 x.n, .string (ba x.p)] 104)
  have hb0 : Below w.heap.size w (w.alloc (Obj.cells #[.int .i64 x.n, .string (ba x.p)] 104)) := (Below.refl _ _).alloc (Nat.le_refl _) _
  have hsz : (w.alloc (Obj.cells #[.int .i64 x.n, .string (ba x.p)] 104)).heap.size = w.heap.size + 1 := by simp
  rw [hg] at hbx hb0 hsz HG
  rw [hg]
  obtain ⟨W, hW⟩ : ∃ W, w.alloc (Obj.cells #[.int .i64 x.n, .string (ba x.p)] 104) = W := ⟨_, rfl⟩
  rw [hW] at hbx hb0 hsz ⊢
  have HGS := Lib.hid hg
  clear hW hg
  go_loopw [5] (fun v wr => ∃ (y : Nd) (ks : By), Hid (y ∈ Q) ∧ Hid (y.w ++ ks.reverse = x.w) ∧ wr.ownsRow (g + 1) 5 1 v ks.length (u8s ks) ∧ Below g w wr ∧ g + 1 ≤ wr.heap.size ∧ wr.heap[g]? = some (Obj.cells #[.int .i64 y.n, .string (ba y.p)] 104 (0, 0))) (fun v _ => x.w.length - sliceLen v)
  case atStart => exact ⟨x, [], Lib.hid hx, Lib.hid (by simp), World.ownsRow_nil _ _ _ _, hb0, by omega, hbx⟩
  case round =>
    obtain ⟨y, ks, hyQ, hyw, hown, hbw, hws, hbx⟩ := hrel
    have c0 : wr.cell? ⟨g, 0, none⟩ = some (.int .i64 y.n) := by rw [cell_of_row wr _ 0 _ _ _ hbx]; rfl
    have c1 : wr.cell? ⟨g, 1, none⟩ = some (.string (ba y.p)) := by rw [cell_of_row wr _ 1 _ _ _ hbx]; rfl
    have heq : ∀ W : World, (Op.equalIn 10000 104 (.agg #[.int .i64 y.n, .string (ba y.p)]) (.agg #[.int .i64 0, .string ⟨#[]⟩])).run Try.prog W = .ok (decide (y.n = 0 ∧ ba y.p = ⟨#[]⟩)) W := fun W => eq_st y.n 0 (ba y.p) ⟨#[]⟩ W
    have hf1 := field_ar1
    have hf0 := field_ar0
    have hgd := guard_st
    have hyn := HN.out y hyQ.out
    have hgdc : ∀ j, wr.frozen? ⟨g, j, none⟩ = false := fun j => by unfold World.frozen?; rw [show wr.heap[(⟨g, j, none⟩ : Addr).block]? = _ from hbx]; simp
    rcases HX.out y hyQ.out with ⟨h1, h2, h3⟩ | ⟨hne, x', hx', hw', hn', hp'⟩
    · have hd : decide (y.n = 0 ∧ ba y.p = ⟨#[]⟩) = true := by rw [decide_eq_true_eq]; exact ⟨h1, by rw [h2]; rfl⟩
      rw [hd] at heq
      rw [h3, List.nil_append] at hyw
      clear hd h1 h2 h3
      have hxl := hl
      rw [← hyw.out, List.length_reverse] at hxl
      have HR := Lib.hid (fun W (h : W.ownsRow (g + 1) 5 1 u5 ks.length (u8s ks)) => rev_any ks (g + 1) u5 W h (by omega))
      go_wp2_with (go_at_call 79; (with_reducible refine (HR.out _ hown).mono ?_); rintro e w3 ⟨rfl, hown3, hb3⟩; have hcv := conv_bytes (P := Try.prog) (src := 51) (dst := 9) (by rw [← List.length_reverse] at hown3; exact hown3) Try.underlying51 Try.underlying5 Try.underlying9; rw [hyw.out] at hcv)
      go_ret
      exact ⟨rfl, by rw [HGS.out]; exact hbw.trans (hb3.mono (by omega))⟩
    · have hd : decide (y.n = 0 ∧ ba y.p = ⟨#[]⟩) = false := by
        rw [decide_eq_false_iff_not]
        rintro ⟨h1, h2⟩
        refine hne ⟨h1, ?_⟩
        rw [← bs_ba y.p, h2]
      rw [hd] at heq
      have hlk := HG.out y hyQ.out wr hbw
      have hln : y.w.length + ks.length ≤ x.w.length := by rw [← hyw.out]; simp
      have hln2 : ks.length + 1 ≤ x.w.length := by rw [hw'] at hln; simp at hln; omega
      have hyw2 : x'.w ++ (ks ++ [y.c]).reverse = x.w := by rw [← hyw.out, hw']; simp
      have HQ := Lib.hid hx'
      have HW2 := Lib.hid hyw2
      have HN2 := Lib.hid hn'
      have HP2 := Lib.hid hp'
      have hsl := Lib.hid (sliceLen_own hown)
      obtain ⟨L, hL⟩ : ∃ L, ks.length = L := ⟨_, rfl⟩
      rw [hL] at hown hln2 hsl
      have HL := Lib.hid hL
      have HLK := Lib.hid (fun W hW => HG.out y hyQ.out W hW)
      have hcu : y.c.toNat < 256 := y.c.toNat_lt
      generalize y.c = c at *
      clear hd hne hx' hw' hn' hp' hyw2 hln hL hyw
      go_wp2_with (at_builtin; refine wpList_append_own _ rfl _ _ _ rfl (g + 1) 5 i0 (.int .u8 0) 1 1 Try.underlying51 hi0 hz0 hz1 hz2 rfl (by decide) _ L (u8s ks) rfl (hown.alloc _) ⟨wr.heap.size, 0, none⟩ 1 1 [.int .u8 c.toNat] rfl rfl (cell_one_new _ _ _) ?c2 ?c3 ?c4 ?c5 ?_)
      case c2 => intro u hu; rw [List.mem_singleton] at hu; subst hu; rfl
      case c3 => unfold maxLen; omega
      case c4 => omega
      case c5 => simp; omega
      intro v' w5 hown5 hg5 _
      have hb5 : Below g w w5 := (hbw.alloc (by omega) _).grown hg5 (by simp; omega) (fun j hj => by have := (hown.lt j hj).1; omega)
      have hbx5 : w5.heap[g]? = some (Obj.cells #[.int .i64 y.n, .string (ba y.p)] 104 (0, 0)) := by
        rw [hg5.block g (by simp; omega) (fun e => by have := (hown.lt g e.symm).1; omega)]
        rw [((Below.refl wr.heap.size wr).alloc (Nat.le_refl _) _).block g (by omega)]
        exact hbx
      have hws5 : g + 1 ≤ w5.heap.size := Nat.le_trans hws (Nat.le_trans (by simp) hg5.size)
      have d0 : w5.cell? ⟨g, 0, none⟩ = some (.int .i64 y.n) := by rw [cell_of_row w5 _ 0 _ _ _ hbx5]; rfl
      have d1 : w5.cell? ⟨g, 1, none⟩ = some (.string (ba y.p)) := by rw [cell_of_row w5 _ 1 _ _ _ hbx5]; rfl
      have d2 : ∀ j, w5.frozen? ⟨g, j, none⟩ = false := fun j => by unfold World.frozen?; rw [show w5.heap[(⟨g, j, none⟩ : Addr).block]? = _ from hbx5]; simp
      have hlk5 := HLK.out w5 hb5
      have hbx6 : (((w5.setCell ⟨g, 0, none⟩ (.int .i64 y.bn)).setCell ⟨g, 1, none⟩ (.string (ba y.bp)))).heap[g]? = some (Obj.cells #[.int .i64 y.bn, .string (ba y.bp)] 104 (0, 0)) :=
        heap_setCell_same _ g 1 _ _ _ (heap_setCell_same w5 g 0 _ _ _ hbx5)
      have HB6 := Lib.hid hbx6
      have hown6 := own_setCell_below (own_setCell_below hown5 (p := ⟨g, 0, none⟩) (by show g < g + 1; omega) (.int .i64 y.bn)) (p := ⟨g, 1, none⟩) (by show g < g + 1; omega) (.string (ba y.bp))
      have HO6 := Lib.hid hown6
      have hb6 : Below g w ((w5.setCell ⟨g, 0, none⟩ (.int .i64 y.bn)).setCell ⟨g, 1, none⟩ (.string (ba y.bp))) := Below.setCell (Below.setCell hb5 (by exact Nat.le_refl g) _) (by exact Nat.le_refl g) _
      have HBB := Lib.hid hb6
      clear hown5 hbx5 hbx6 hown6 hb6 hb5 hbx c0 c1 hgdc hown
      go_wp2
      go_roundw
      case rel =>
        refine ⟨x', ks ++ [c], HQ, HW2, ?_, HBB.out, ?_, ?_⟩
        · rw [List.length_append, List.length_singleton, HL.out, u8s_append]
          exact HO6.out
        · simp; omega
        · rw [← HN2.out, ← HP2.out]; exact HB6.out
      case measure =>
        rw [sliceLen_own HO6.out, hsl.out]
        omega

end Go.Proofs.Ytlmbbpppfghcbaa.Aut

set_option linter.unusedVariables false
set_option linter.unusedSimpArgs false
set_option maxRecDepth 100000
namespace Go.Proofs.Ytlmbbpppfghcbaa.Aut
open Go Go.RowKit Go.Proofs.Ytlmbbpppfghcbaa.Kit Go.Proofs.Ytlmbbpppfghcbaa.Utf Go.Proofs.Ytlmbbpppfghcbaa.Rom

/-- What a block of another kind does leaves a row as it is. -/
theorem own_kind {w w' : World} {base n : Nat} {e : TypeId} {sz : Nat} {v : Value} {xs : List Value} {row : Option Nat} (h : w.ownsRow base e sz v n xs) (hg : w.grownBy w' row) (hk : ∀ g, row = some g → ∀ c fz, w.heap[g]? ≠ some (.cells c e fz)) : w'.ownsRow base e sz v n xs := by
  refine h.kept hg ?_
  rcases h.2 with ⟨rfl, h0⟩ | ⟨g, cap, cur, rfl, hb, hg', _⟩
  · exact .inl rfl
  · refine .inr fun e => hk g ?_ _ _ hg'
    exact e.symm

/-- The memory: its variables in blocks c1, c2, c3, its map in block bm, of at most N entries. -/
structure Memo (c1 c2 c3 bm a : Nat) (rs : List Rule) (s : By) (N : Nat) (w : World) : Prop where
  b1 : w.heap[c1]? = some (.cells #[.map (some bm)] 136 (0, 0))
  b2 : w.heap[c2]? = some (.cells #[.pointer (some ⟨a, 0, none⟩)] 41 (0, 0))
  b3 : w.heap[c3]? = some (.cells #[.string (ba s)] 9 (0, 0))
  mp : ∃ n f, n ≤ N ∧ MapF 9 eS w bm n f ∧ ∀ p v, f p = some v → w.ownsRow 0 114 3 v (mvs rs s (bs p) 94).length (mc (mvs rs s (bs p) 94))
theorem Memo.mono {c1 c2 c3 bm a : Nat} {rs : List Rule} {s : By} {N M : Nat} {w : World} (h : Memo c1 c2 c3 bm a rs s N w) (hM : N ≤ M) : Memo c1 c2 c3 bm a rs s M w := by
  obtain ⟨n, f, h1, h2, h3⟩ := h.mp
  exact ⟨h.b1, h.b2, h.b3, n, f, by omega, h2, h3⟩
/-- Another block of another kind turns. -/
theorem Memo.kept {c1 c2 c3 bm a : Nat} {rs : List Rule} {s : By} {N : Nat} {w w' : World} {row : Option Nat} (h : Memo c1 c2 c3 bm a rs s N w) (hg : w.grownBy w' row) (h1 : some c1 ≠ row) (h2 : some c2 ≠ row) (h3 : some c3 ≠ row) (h4 : some bm ≠ row) (hk : ∀ g, row = some g → ∀ c fz, w.heap[g]? ≠ some (.cells c 114 fz)) : Memo c1 c2 c3 bm a rs s N w' := by
  obtain ⟨n, f, hn, hm, hr⟩ := h.mp
  have lt : ∀ {k o}, w.heap[k]? = some o → k < w.heap.size := fun hh => (Array.getElem?_eq_some_iff.1 hh).1
  exact ⟨by rw [hg.block _ (lt h.b1) h1]; exact h.b1, by rw [hg.block _ (lt h.b2) h2]; exact h.b2, by rw [hg.block _ (lt h.b3) h3]; exact h.b3, n, f, hn, hm.kept hg h4, fun p v hv => own_kind (hr p v hv) hg hk⟩
theorem Memo.later {c1 c2 c3 bm a : Nat} {rs : List Rule} {s : By} {N : Nat} {w w' : World} (h : Memo c1 c2 c3 bm a rs s N w) (hb : Below w.heap.size w w') : Memo c1 c2 c3 bm a rs s N w' :=
  h.kept (grown_of_below hb none) (by simp) (by simp) (by simp) (by simp) (fun g e => by cases e)

theorem zeroMvs (w : World) : (zeroValue 112).run Try.prog w = .ok (.slice none 0 0) w := by kernel_rfl

set_option maxHeartbeats 2000000 in
theorem memo_any {rs : List Rule} (hok : okL rs = true) (B a c1 c2 c3 bm N : Nat) (s : By) (p : ByteArray) (w : World) (hA : AutoAt B w a rs) (hB : B ≤ w.heap.size) (hm : MaxL w) (hG : 0 < w.heap.size) (hs : s.length ≤ 1000000) (hp : p.size ≤ 1000) (hk : AllK (bs p)) (hM : Memo c1 c2 c3 bm a rs s N w) (hN : N < 1000000000) :
    Calls Try.prog 77 #[.string p, .pointer (some ⟨c1, 0, none⟩), .pointer (some ⟨c2, 0, none⟩), .pointer (some ⟨c3, 0, none⟩)] w fun e w' => ∃ v, e = .returned v ∧ w'.ownsRow 0 114 3 v (mvs rs s (bs p) 94).length (mc (mvs rs s (bs p) 94)) ∧ Memo c1 c2 c3 bm a rs s (N + 1) w' ∧ w.grownBy w' (some bm) := by
  obtain ⟨n, f, hn, hmf, hr⟩ := hM.mp
  have hpm : p.size ≤ maxLen := by unfold maxLen; omega
  have d1 : w.cell? ⟨c1, 0, none⟩ = some (.map (some bm)) := by rw [cell_of_row w _ 0 _ _ _ hM.b1]; rfl
  have d2 : w.cell? ⟨c2, 0, none⟩ = some (.pointer (some ⟨a, 0, none⟩)) := by rw [cell_of_row w _ 0 _ _ _ hM.b2]; rfl
  have d3 : w.cell? ⟨c3, 0, none⟩ = some (.string (ba s)) := by rw [cell_of_row w _ 0 _ _ _ hM.b3]; rfl
  have hlk := hmf.look law_str Try.underlying136 (zeroMvs w) (key_str hpm)
  unfold eS at hlk
  have HM := Lib.hid hM
  have HR := Lib.hid hr
  cases hf : f p with
  | some v =>
    rw [hf] at hlk
    simp only [Option.getD_some, Option.isSome_some] at hlk
    have HV := Lib.hid (hr p v hf)
    clear hA hm hk hM hr hf hmf
    go_enter Try.func77, Try.ntmps77
    go_wp2
    go_ret
    exact ⟨v, rfl, HV.out, HM.out.mono (Nat.le_succ _), grown_of_below (Below.refl _ _) _⟩
  | none =>
    rw [hf] at hlk
    simp only [Option.getD_none, Option.isSome_none] at hlk
    have HMV := Lib.hid (moves_any hok B a (ba s) p w hA hB hm hG (by rw [ba_size]; exact hs) hp hk)
    rw [bs_ba] at HMV
    have HPUT : Hid (∀ (v : Value) (W : World), Below w.heap.size w W → W.ownsRow w.heap.size 114 3 v (mvs rs s (bs p) 94).length (mc (mvs rs s (bs p) 94)) → ∃ W', (Instr.mapUpdate 136 (.map (some bm)) (.string p) v).run Try.prog W = .ok () W' ∧ W'.ownsRow 0 114 3 v (mvs rs s (bs p) 94).length (mc (mvs rs s (bs p) 94)) ∧ Memo c1 c2 c3 bm a rs s (N + 1) W' ∧ w.grownBy W' (some bm)) := Lib.hid fun v W hW hown => by
      have hMW := hM.later hW
      have hmW := hmf.later hW hmf.lt
      obtain ⟨W', hrun, hM', hg⟩ := hmW.put law_str eS_inj Try.underlying136 (by unfold maxLen; omega) (key_str hpm) v
      obtain ⟨es, cl, hmb⟩ := hmW.is_map
      have hkd : ∀ g, some bm = some g → ∀ c fz, W.heap[g]? ≠ some (.cells c 114 fz) := by
        rintro g e c fz h2
        cases e
        rw [hmb] at h2; cases h2
      have hne : ∀ {k c t}, W.heap[k]? = some (.cells c t (0, 0)) → some k ≠ some bm := by
        rintro k c t h2 e
        cases e
        rw [hmb] at h2; cases h2
      have lt : ∀ {k o}, W.heap[k]? = some o → k < W.heap.size := fun hh => (Array.getElem?_eq_some_iff.1 hh).1
      have hown0 : W'.ownsRow 0 114 3 v (mvs rs s (bs p) 94).length (mc (mvs rs s (bs p) 94)) := own_kind (own_base hown (Nat.zero_le _)) hg hkd
      refine ⟨W', hrun, hown0, ⟨by rw [hg.block _ (lt hMW.b1) (hne hMW.b1)]; exact hMW.b1, by rw [hg.block _ (lt hMW.b2) (hne hMW.b2)]; exact hMW.b2, by rw [hg.block _ (lt hMW.b3) (hne hMW.b3)]; exact hMW.b3, n + 1, _, by omega, hM', fun q u hu => ?_⟩, (grown_of_below hW (some bm)).trans hg⟩
      unfold upd at hu
      split at hu
      · rename_i e
        cases hu
        rw [e]; exact hown0
      · exact own_kind ((own_later (hr q u hu) hW)) hg hkd
    have HD : Hid (∀ W, Below w.heap.size w W → W.cell? ⟨c1, 0, none⟩ = some (.map (some bm))) := Lib.hid fun W hW => by
      rw [hW.cell (p := ⟨c1, 0, none⟩) (Array.getElem?_eq_some_iff.1 hM.b1).1]; exact d1
    clear hA hm hk hM hr hf hmf
    go_enter Try.func77, Try.ntmps77
    go_wp2_with (go_at_call 78; (with_reducible refine HMV.out.mono ?_); rintro e w2 ⟨v, rfl, hown2, hb2⟩; obtain ⟨w3, hrun3, hown3, hM3, hg3⟩ := HPUT.out v w2 hb2 hown2; have d4 := HD.out w2 hb2)
    go_ret
    exact ⟨v, rfl, hown3, hM3, hg3⟩

end Go.Proofs.Ytlmbbpppfghcbaa.Aut
