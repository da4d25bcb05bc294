/-
  Joined texts: CmpO, CmpM, CmpRa, CmpRb, CmpRc, CmpRd, CmpRe.
-/
import Derived.Test.YtamdlbefiggkfaaGreatM14
import Derived.Laws.Cover4
import Derived.Laws.Runes
set_option linter.unusedVariables false
set_option linter.unusedSimpArgs false
set_option maxRecDepth 100000
namespace Go.Proofs.YtamdlbefiggkfaaGreat.Cmp
open Go Go.RowKit Go.Proofs.YtamdlbefiggkfaaGreat Go.Proofs.YtamdlbefiggkfaaGreat.Kit Go.Proofs.YtamdlbefiggkfaaGreat.Utf Go.Proofs.YtamdlbefiggkfaaGreat.Rom Go.Proofs.YtamdlbefiggkfaaGreat.Aut

abbrev own (B : Nat) (w : World) (s : Value) (is : List It) : Prop := w.ownsRow B 72 2 s is.length (ic is)
theorem calls_alloc {F : FuncId} {args : Array Value} {w : World} {o : Obj} {K} (h : ∀ W, w.alloc o = W → Calls Tryz.prog F args W K) : Calls Tryz.prog F args (w.alloc o) K := h _ rfl
theorem calls_alloc2 {F : FuncId} {args : Array Value} {w : World} {o o2 : Obj} {K} (h : ∀ W1 W, w.alloc o = W1 → W1.alloc o2 = W → Calls Tryz.prog F args W K) : Calls Tryz.prog F args ((w.alloc o).alloc o2) K := h _ _ rfl rfl
theorem calls_set3 {F : FuncId} {args : Array Value} {w : World} {p0 p1 p2 : Addr} {x y z : Value} {K} (h : ∀ W, ((w.setCell p0 x).setCell p1 y).setCell p2 z = W → Calls Tryz.prog F args W K) : Calls Tryz.prog F args (((w.setCell p0 x).setCell p1 y).setCell p2 z) K := h _ rfl
theorem set3 {w W : World} {g : Nat} {x y z x' y' z' : Value} {t : TypeId} (h : w.heap[g]? = some (Obj.cells #[x, y, z] t)) (hW : ((w.setCell ⟨g, 0, none⟩ x').setCell ⟨g, 1, none⟩ y').setCell ⟨g, 2, none⟩ z' = W) :
    W.heap[g]? = some (Obj.cells #[x', y', z'] t) ∧ (∀ k o, k ≠ g → w.heap[k]? = some o → W.heap[k]? = some o) ∧ (∀ B s is, own B w s is → g < B → ItR W s is) ∧ Below g w W ∧ W.heap.size = w.heap.size := by
  subst hW
  refine ⟨box_set3 h, fun k o hk ho => ?_, fun B s is ho hB => ?_, ?_, by simp⟩
  · rw [heap_setCell_other _ _ _ _ (by show k ≠ g; exact hk), heap_setCell_other _ _ _ _ (by show k ≠ g; exact hk), heap_setCell_other _ _ _ _ (by show k ≠ g; exact hk)]; exact ho
  · exact (items_of_own (ownsRow_setCell_below (ownsRow_setCell_below (ownsRow_setCell_below ho (a := ⟨g, 0, none⟩) hB x') (a := ⟨g, 1, none⟩) hB y') (a := ⟨g, 2, none⟩) hB z')).1
  · exact Below.setCell (Below.setCell (Below.setCell (Below.refl g w) (p := ⟨g, 0, none⟩) (Nat.le_refl _) x') (p := ⟨g, 1, none⟩) (Nat.le_refl _) y') (p := ⟨g, 2, none⟩) (Nat.le_refl _) z'

theorem bf_eta (b : Bf) : (⟨b.is, b.c, b.p⟩ : Bf) = b := by cases b; rfl

/-- Back takes back a character that was put. -/
theorem put_back {b : Bf} {c : Int} (hc : validRune c = true) (h0 : (putB b ⟨#[]⟩ (Utf8.encode c)).2 = 0) : val (putB b ⟨#[]⟩ (Utf8.encode c)).1 = true ∧ bacB (putB b ⟨#[]⟩ (Utf8.encode c)).1 = b := by
  have e : bs (Utf8.encode c) = encs [c] := by simp [encs, enc]
  have hch : chs (bs (Utf8.encode c)) = [c] := by rw [e]; exact chs_some (chars_encs (by simpa using hc))
  unfold putB at h0 ⊢
  rw [count_enc hc, hch] at h0 ⊢
  split at h0
  · rename_i h1
    split at h0
    · cases h0
    · rename_i h2
      split at h0
      · cases h0
      · rename_i h3
        rw [if_pos h1, if_neg h2, if_neg h3]
        simp only [Bool.and_eq_true] at h1
        have hv := h1.1.1
        obtain ⟨v1, v2, v3, v4, v5, v6⟩ := val_parts hv
        have hv2 : val (insB b (itemsL ⟨#[]⟩ [c])) = true := insB_val (p := b.p) hv (by rw [itemsL_len]; simp at h3 ⊢; omega) (itemsL_ok rfl (by simpa using hc)) v5 v6
        refine ⟨hv2, ?_⟩
        have hl : itemsL ⟨#[]⟩ [c] = [⟨⟨#[]⟩, Utf8.encode c⟩] := rfl
        show bacB (insB b (itemsL ⟨#[]⟩ [c])) = b
        unfold bacB
        rw [if_pos hv2, hl]
        have hp : (insB b [⟨⟨#[]⟩, Utf8.encode c⟩]).p = b.p := rfl
        rw [hp, if_neg h2]
        have hcc : (insB b [⟨⟨#[]⟩, Utf8.encode c⟩]).c = b.c + 1 := rfl
        rw [hcc, if_pos (by omega)]
        refine Bf.ext' ?_ (by show b.c + 1 - 1 = b.c; omega) rfl
        show List.eraseIdx (b.is.take b.c.toNat ++ [_] ++ b.is.drop b.c.toNat) (b.c + 1 - 1).toNat = b.is
        have hln : (b.is.take b.c.toNat).length = b.c.toNat := by rw [List.length_take]; omega
        rw [show b.c + 1 - 1 = b.c by omega, List.append_assoc, List.eraseIdx_append_of_length_le (by omega), hln, Nat.sub_self]
        show b.is.take b.c.toNat ++ b.is.drop b.c.toNat = b.is
        exact List.take_append_drop _ _
  · cases h0
/-- Delete after a move to the left is Back. -/
theorem move_delete {b : Bf} (hv : val b = true) (hp : b.p.size = 0) (hc : b.c ≠ 0) : delB (movB b (-1)) = bacB b := by
  obtain ⟨v1, v2, v3, v4, v5, v6⟩ := val_parts hv
  have hm : movB b (-1) = { b with c := b.c - 1 } := by
    unfold movB
    rw [hv, decide_eq_true hp]
    show { b with c := max 0 (min (b.c + -1) b.is.length) } = _
    rw [show max 0 (min (b.c + -1) (b.is.length : Int)) = b.c - 1 by omega]
  have hv2 : val { b with c := b.c - 1 } = true := val_of v1 (by show 0 ≤ b.c - 1; omega) (by show b.c - 1 ≤ (b.is.length : Int); omega) v4 v5 v6
  rw [hm]
  unfold delB bacB
  have h1 : decide (({ b with c := b.c - 1 } : Bf).c < (({ b with c := b.c - 1 } : Bf).is.length : Int)) = true := decide_eq_true (by show b.c - 1 < (b.is.length : Int); omega)
  have h2 : ¬ b.p.size ≠ 0 := fun h => h hp
  have h3 : 0 < b.c := by omega
  rw [hv2, h1, if_pos hv, if_neg h2, if_pos h3]
  rfl
theorem putB_sh {b : Bf} (h : Sh b) {raw out : ByteArray} (hr : raw.size ≤ 1048576) : Sh (putB b raw out).1 := by
  unfold putB
  split
  · split
    · exact noB_sh
    · split
      · exact noB_sh
      · rename_i h3
        exact insB_sh (b := b) (p := b.p) h (itemsL_short hr (chs_valid _)) (by rw [itemsL_len]; omega) h.2.1
  · exact noB_sh
theorem mov_sh {b : Bf} (h : Sh b) (n : Int) : Sh (movB b n) := by unfold movB; split; exact ⟨h.1, h.2.1, h.2.2⟩; exact h
theorem del_sh {b : Bf} (h : Sh b) : Sh (delB b) := by
  unfold delB; split
  · exact ⟨fun i hi => h.1 i (List.mem_of_mem_eraseIdx hi), h.2.1, Nat.le_trans (List.length_eraseIdx_le _ _) h.2.2⟩
  · exact h
theorem bac_sh {b : Bf} (h : Sh b) : Sh (bacB b) := by
  unfold bacB
  split
  · split
    · refine ⟨h.1, ?_, h.2.2⟩
      show (ba ((bs b.p).dropLast)).size ≤ _
      rw [ba_size, List.length_dropLast]
      have := h.2.1
      unfold bs
      rw [Array.length_toList]
      show b.p.size - 1 ≤ _
      omega
    · split
      · exact ⟨fun i hi => h.1 i (List.mem_of_mem_eraseIdx hi), h.2.1, Nat.le_trans (List.length_eraseIdx_le _ _) h.2.2⟩
      · exact h
  · exact h

end Go.Proofs.YtamdlbefiggkfaaGreat.Cmp

set_option linter.unusedVariables false
set_option linter.unusedSimpArgs false
set_option maxRecDepth 100000
namespace Go.Proofs.YtamdlbefiggkfaaGreat.Cmp
open Go Go.RowKit Go.Proofs.YtamdlbefiggkfaaGreat Go.Proofs.YtamdlbefiggkfaaGreat.Kit Go.Proofs.YtamdlbefiggkfaaGreat.Utf Go.Proofs.YtamdlbefiggkfaaGreat.Rom Go.Proofs.YtamdlbefiggkfaaGreat.Aut

theorem cnew_no {v : Value} {rs : List Rule} {w : World} (hR : RowR w v rs) (hs : ∀ r ∈ rs, Short r) (hc : checkL rs ≠ 0) :
    Calls Tryz.prog 6 #[v] w fun e w' => e = .returned (.tuple #[.pointer none, .int .i64 (checkL rs)]) ∧ Below w.heap.size w w' := by
  refine (new_any v rs w hR hs).mono ?_
  rintro e w' ⟨hb, ⟨_, h⟩ | ⟨h, _⟩⟩
  · exact ⟨h, hb⟩
  · exact absurd h hc
theorem cnew_yes {v : Value} {rs : List Rule} {w : World} (hR : RowR w v rs) (hs : ∀ r ∈ rs, Short r) (hc : checkL rs = 0) :
    Calls Tryz.prog 6 #[v] w fun e w' => ∃ a, e = .returned (.tuple #[.pointer (some ⟨a, 0, none⟩), .int .i64 0]) ∧ AutoAt w'.heap.size w' a rs ∧ Below w.heap.size w w' := by
  refine (new_any v rs w hR hs).mono ?_
  rintro e w' ⟨hb, ⟨h, _⟩ | ⟨_, a, rfl, hA, _⟩⟩
  · exact absurd hc h
  · exact ⟨a, rfl, hA, hb⟩

theorem outs_append (a b : List It) : outs (a ++ b) = outs a ++ outs b := by unfold outs; rw [List.flatMap_append]
theorem outs_items {raw : ByteArray} {cs : List Int} : outs (itemsL raw cs) = encs cs := by
  cases cs with
  | nil => rfl
  | cons c cs =>
    show bs (Utf8.encode c) ++ outs (cs.map fun c => ⟨⟨#[]⟩, Utf8.encode c⟩) = encs (c :: cs)
    have h : ∀ cs : List Int, outs (cs.map fun c => (⟨⟨#[]⟩, Utf8.encode c⟩ : It)) = encs cs := by
      intro cs
      induction cs with
      | nil => rfl
      | cons d ds ih =>
        show bs (Utf8.encode d) ++ outs (ds.map fun c => ⟨⟨#[]⟩, Utf8.encode c⟩) = encs (d :: ds)
        rw [ih]
        simp [encs, enc]
    rw [h]
    simp [encs, enc]
/-- What a buffer is in which keys have been typed from the start on. -/
structure Typd (rs : List Rule) (ks : By) (b : Bf) : Prop where
  v : val b = true
  c : b.c = b.is.length
  o : outs b.is = (fd rs [] ks).1
  p : bs b.p = (fd rs [] ks).2
theorem Typd.nil {rs : List Rule} : Typd rs [] noB := by
  have h : Aut.fd rs [] [] = ([], []) := (Feeds.nil []).fd
  refine ⟨by decide, rfl, ?_, ?_⟩ <;> rw [h] <;> rfl
theorem keyB_ok {rs : List Rule} {b : Bf} {k : UInt8} (h : (keyB rs b k).2 = 0) : val b = true ∧ isKb k = true ∧ b.is.length + (chs (fd rs (bs b.p) [k]).1).length ≤ 64 ∧ (keyB rs b k).1 = insB { b with p := ba (fd rs (bs b.p) [k]).2 } (itemsL (ba (endsL (bs b.p ++ [k]) (fd rs (bs b.p) [k]).2)) (chs (fd rs (bs b.p) [k]).1)) := by
  unfold keyB at h ⊢
  split at h
  · rename_i h1
    split at h
    · cases h
    · rename_i h2
      rw [if_pos h1, if_neg h2]
      rw [Bool.and_eq_true] at h1
      exact ⟨h1.1, h1.2, by omega, rfl⟩
  · cases h
theorem keyB_val {rs : List Rule} (hok : okL rs = true) {b : Bf} {k : UInt8} (h : (keyB rs b k).2 = 0) : val (keyB rs b k).1 = true := by
  obtain ⟨h1, h2, h3, h4⟩ := keyB_ok h
  obtain ⟨v1, v2, v3, v4, v5, v6⟩ := val_parts h1
  have hp := fromB_keys.1 v6
  have hk : AllK [k] := AllK.one h2
  have hf := fd_spec hok (bs b.p) [k]
  rw [h4]
  refine insB_val h1 (by rw [itemsL_len]; exact h3) (itemsL_ok ?_ (chs_valid _)) ?_ ?_
  · rw [bs_ba]
    refine from_33_32 (allK_from ?_)
    have hall := hp.append hk
    intro x hx
    unfold endsL at hx
    split at hx
    · exact hall x (List.mem_of_mem_take hx)
    · exact hall x hx
  · have := pend_len hok (feed_pend hf)
    rw [ba_size]; omega
  · rw [bs_ba]; exact allK_from (hf.keys hok hp hk)
theorem Typd.step {rs : List Rule} (hok : okL rs = true) {ks : By} {b : Bf} {k : UInt8} (hb : Typd rs ks b) (h : (keyB rs b k).2 = 0) : Typd rs (ks ++ [k]) (keyB rs b k).1 := by
  have hv := keyB_val hok h
  obtain ⟨h1, h2, h3, h4⟩ := keyB_ok h
  obtain ⟨v1, v2, v3, v4, v5, v6⟩ := val_parts h1
  have hp := fromB_keys.1 v6
  have hk : AllK [k] := AllK.one h2
  have hf := fd_spec hok (bs b.p) [k]
  have hf0 := fd_spec hok [] ks
  have hcomp : Aut.fd rs [] (ks ++ [k]) = ((fd rs [] ks).1 ++ (fd rs (bs b.p) [k]).1, (fd rs (bs b.p) [k]).2) := by
    refine Feeds.fd (hf0.comp ?_)
    rw [hb.p] at hf
    rw [hb.p]
    exact hf
  obtain ⟨cs, hcs⟩ := feeds_good hok hf hp hk
  obtain ⟨hcv, hce⟩ := chars_some hcs
  refine ⟨hv, ?_, ?_, ?_⟩
  · rw [h4]
    show b.c + ((itemsL _ _).length : Int) = ((b.is.take b.c.toNat ++ itemsL _ _ ++ b.is.drop b.c.toNat).length : Nat)
    simp only [List.length_append, List.length_take, List.length_drop, itemsL_len]
    have := hb.c
    omega
  · rw [h4, hcomp]
    show outs (b.is.take b.c.toNat ++ itemsL _ _ ++ b.is.drop b.c.toNat) = _
    have hc := hb.c
    rw [List.take_of_length_le (by omega), List.drop_of_length_le (by omega), List.append_nil, outs_append, outs_items, hb.o, chs_some hcs, ← hce]
  · rw [h4, hcomp]
    show bs (ba _) = _
    rw [bs_ba]
theorem Typd.all {rs : List Rule} (hok : okL rs = true) : ∀ {ks ks0 : By} {b b' : Bf}, Typd rs ks0 b → typL rs b ks = (b', true) → Typd rs (ks0 ++ ks) b'
  | [], ks0, b, b', hb, h => by
    unfold typL at h
    cases h
    rw [List.append_nil]; exact hb
  | k :: ks, ks0, b, b', hb, h => by
    unfold typL at h
    split at h
    · rename_i h0
      have := Typd.all hok (hb.step hok h0) h
      rw [List.append_assoc] at this
      exact this
    · cases h
theorem Typd.text {rs : List Rule} {ks : By} {b : Bf} (h : Typd rs ks b) : texB b = (ba (fd rs [] ks).1, ba (fd rs [] ks).2, ⟨#[]⟩) := by
  have hc := h.c
  unfold texB
  rw [if_pos h.v, List.take_of_length_le (by omega), List.drop_of_length_le (by omega), h.o, ← h.p, ba_bs]
  rfl

end Go.Proofs.YtamdlbefiggkfaaGreat.Cmp

set_option linter.unusedVariables false
set_option linter.unusedSimpArgs false
set_option maxRecDepth 100000
namespace Go.Proofs.YtamdlbefiggkfaaGreat.Cmp
open Go Go.RowKit Go.Proofs.YtamdlbefiggkfaaGreat.Kit Go.Proofs.YtamdlbefiggkfaaGreat.Utf Go.Proofs.YtamdlbefiggkfaaGreat.Rom Go.Proofs.YtamdlbefiggkfaaGreat.Aut

/-- What a call of the reference hands back that returns a buffer. -/
def RB (b : Bf) (w : World) (e : Ending) (w' : World) : Prop := ∃ v, e = .returned v ∧ BfR w' v b ∧ Below w.heap.size w w'
/-- A result that lies in box g, stored there. -/
theorem rb_set {w W : World} {g : Nat} {a : Option Addr} {m k : Nat} {c : Int} {p : ByteArray} {is : List It} {x y z : Value} (hx : W.heap[g]? = some (Obj.cells #[x, y, z] 33)) (hg : w.heap.size ≤ g)
    (hI : ItR W (.slice a m k) is) (hsep : ∀ b off, a = some ⟨b, off, none⟩ → 0 < m → b ≠ g) (hb : Below w.heap.size w W) :
    (loadVar 33 ⟨g, 0, none⟩).run Tryz.prog (((W.setCell ⟨g, 0, none⟩ (.slice a m k)).setCell ⟨g, 1, none⟩ (.int .i64 c)).setCell ⟨g, 2, none⟩ (.string p)) = .ok (.agg #[.slice a m k, .int .i64 c, .string p]) (((W.setCell ⟨g, 0, none⟩ (.slice a m k)).setCell ⟨g, 1, none⟩ (.int .i64 c)).setCell ⟨g, 2, none⟩ (.string p)) ∧
    RB ⟨is, c, p⟩ w (.returned (.agg #[.slice a m k, .int .i64 c, .string p])) (((W.setCell ⟨g, 0, none⟩ (.slice a m k)).setCell ⟨g, 1, none⟩ (.int .i64 c)).setCell ⟨g, 2, none⟩ (.string p)) := by
  have hz := box_set3 (y0 := .slice a m k) (y1 := .int .i64 c) (y2 := .string p) hx
  obtain ⟨q0, q1, q2, _⟩ := box_facts hz
  refine ⟨load_rbuf q0 q1 q2, _, rfl, ⟨_, rfl, ?_⟩, Below.setCell (Below.setCell (Below.setCell hb (p := ⟨g, 0, none⟩) hg _) (p := ⟨g, 1, none⟩) hg _) (p := ⟨g, 2, none⟩) hg _⟩
  obtain ⟨a', len, cap, e, h1, h2, h3, h4⟩ := hI
  cases e
  refine ⟨a, m, k, rfl, h1, h2, h3, ?_⟩
  rcases h4 with h | h | ⟨b, off, rfl, hlt, hc⟩
  · exact .inl h
  · exact .inr (.inl h)
  · refine .inr (.inr ⟨b, off, rfl, by simpa using hlt, fun i hi => ?_⟩)
    have hi' : i < is.length := hi
    have h1' : m = is.length := h1
    have hm0 : 0 < m := by omega
    have hne : b ≠ g := hsep b off rfl hm0
    have oth : ∀ (w : World) (o j : Nat) (v : Value), (w.setCell ⟨g, o, none⟩ v).cell? ⟨b, j, none⟩ = w.cell? ⟨b, j, none⟩ := fun w o j v => by
      simp only [World.cell?]
      rw [Below.heap_setCell _ _ _ _ (fun e => hne (by have e2 : b = g := e; exact e2))]
    obtain ⟨c1, c2⟩ := hc i hi
    exact ⟨by rw [oth, oth, oth]; exact c1, by rw [oth, oth, oth]; exact c2⟩
theorem sep_lt {w : World} {a : Option Addr} {m k : Nat} {is : List It} (h : ItR w (.slice a m k) is) {g : Nat} (hg : w.heap.size ≤ g) : ∀ b off, a = some ⟨b, off, none⟩ → 0 < m → b ≠ g := by
  intro b off e h0
  obtain ⟨a', len, cap, e2, h1, h2, h3, h4⟩ := h
  cases e2
  rcases h4 with ⟨h, _⟩ | ⟨x, _, h⟩ | ⟨b', off', h, hlt, _⟩
  · rw [e] at h; cases h
  · omega
  · rw [e] at h; cases h; omega

set_option maxHeartbeats 8000000 in
theorem rmove_any (b : Bf) (n : Int) (v : Value) (w : World) (hR : BfR w v b) (hsh : Sh b) (hn : (Lit.int .i64 n).wf = true) :
    Calls Tryz.prog 22 #[v, .int .i64 n] w (RB (movB b n) w) := by
  obtain ⟨a, len, cap, rfl, hI⟩ := hR.open
  have HV := Lib.hid (fun s W (hI : ItR W s b.is) => rvalid_any b s W hI hsh)
  have HI := Lib.hid (fun (W : World) (h : Below w.heap.size w W) => hI.later h (Nat.le_refl _))
  have hsep := Lib.hid (sep_lt hI (g := w.heap.size + 1) (by omega))
  have hil := hI.len.1
  have hvp := @val_parts b
  unfold movB
  clear hR hsh hI
  obtain ⟨is, c, p⟩ := b
  simp only at *
  subst hil
  obtain ⟨W, hW⟩ : ∃ W, (w.alloc (Obj.cells #[.slice a is.length cap, .int .i64 c, .string p] 33)).alloc (Obj.cells #[.slice none 0 0, .int .i64 0, .string { data := #[] }] 33) = W := ⟨_, rfl⟩
  obtain ⟨f1, f2, f3, f4⟩ := boxes hW
  have HWW := Lib.hid hW
  have he := empty_str p
  cases hv : val ⟨is, c, p⟩
  · rw [hv] at HV
    clear hv hvp hW he
    simp only [Bool.false_and, Bool.false_eq_true, if_false]
    go_enter Tryz.func22, Tryz.ntmps22
    go_wp2_with fail
    rw [HWW.out]
    (with_reducible refine (HV.out _ W (HI.out W f3)).mono ?_)
    rintro e w3 ⟨rfl, hb3⟩
    obtain ⟨b0, b1, b2, _⟩ := box_facts ((hb3.block w.heap.size (by omega)).trans f1)
    have hy := (hb3.block (w.heap.size + 1) (by omega)).trans f2
    obtain ⟨y0, y1, y2, yf⟩ := box_facts hy
    have hbw : Below w.heap.size w w3 := f3.trans (hb3.mono (by omega))
    have HF := Lib.hid (rb_set (a := a) (m := is.length) (k := cap) (c := c) (p := p) hy (by omega) (HI.out w3 hbw) hsep.out hbw)
    clear hy hb3 f1 f2
    go_wp2
    refine bodyPost_ret (v := .agg #[.slice a is.length cap, .int .i64 c, .string p]) ?_ rfl HF.out.2
    rw [results_cell1 rfl]
    exact HF.out.1
  obtain ⟨hl, hc0, hcl, _, hp8, _⟩ := hvp hv
  rw [hv] at HV
  by_cases hp : p.size = 0
  rotate_left
  · rw [decide_eq_false hp] at he
    rw [decide_eq_false hp]
    clear hv hvp hW
    simp only [Bool.and_false, Bool.false_eq_true, if_false]
    go_enter Tryz.func22, Tryz.ntmps22
    go_wp2_with fail
    rw [HWW.out]
    (with_reducible refine (HV.out _ W (HI.out W f3)).mono ?_)
    rintro e w3 ⟨rfl, hb3⟩
    obtain ⟨b0, b1, b2, _⟩ := box_facts ((hb3.block w.heap.size (by omega)).trans f1)
    have hy := (hb3.block (w.heap.size + 1) (by omega)).trans f2
    obtain ⟨y0, y1, y2, yf⟩ := box_facts hy
    have hbw : Below w.heap.size w w3 := f3.trans (hb3.mono (by omega))
    have HF := Lib.hid (rb_set (a := a) (m := is.length) (k := cap) (c := c) (p := p) hy (by omega) (HI.out w3 hbw) hsep.out hbw)
    clear hy hb3 f1 f2
    go_wp2
    refine bodyPost_ret (v := .agg #[.slice a is.length cap, .int .i64 c, .string p]) ?_ rfl HF.out.2
    rw [results_cell1 rfl]
    exact HF.out.1
  · rw [decide_eq_true hp] at he
    rw [decide_eq_true hp]
    clear hv hvp hW
    simp only [Bool.and_true, if_true]
    go_enter Tryz.func22, Tryz.ntmps22
    go_wp2_with fail
    rw [HWW.out]
    (with_reducible refine (HV.out _ W (HI.out W f3)).mono ?_)
    rintro e w3 ⟨rfl, hb3⟩
    obtain ⟨b0, b1, b2, _⟩ := box_facts ((hb3.block w.heap.size (by omega)).trans f1)
    have hy := (hb3.block (w.heap.size + 1) (by omega)).trans f2
    obtain ⟨y0, y1, y2, yf⟩ := box_facts hy
    have hbw : Below w.heap.size w w3 := f3.trans (hb3.mono (by omega))
    clear hb3 f1 f2
    go_wp2
    have hc9 : max 0 (min (c + max (-64) (min n 64)) (is.length : Int)) = max 0 (min (c + n) is.length) := by omega
    rw [hc9]
    have hb9 : Below w.heap.size w (w3.setCell ⟨w.heap.size, 1, none⟩ (.int .i64 (max 0 (min (c + n) is.length)))) := Below.setCell hbw (p := ⟨w.heap.size, 1, none⟩) (Nat.le_refl _) _
    have hy9 : (w3.setCell ⟨w.heap.size, 1, none⟩ (.int .i64 (max 0 (min (c + n) is.length)))).heap[w.heap.size + 1]? = some (Obj.cells #[.slice none 0 0, .int .i64 0, .string { data := #[] }] 33) := by
      rw [Below.heap_setCell _ _ _ _ (by intro e; exact absurd e (by simp))]; exact hy
    have HF := rb_set (a := a) (m := is.length) (k := cap) (c := max 0 (min (c + n) is.length)) (p := p) hy9 (by omega) (HI.out _ hb9) hsep.out hb9
    refine bodyPost_ret (v := .agg #[.slice a is.length cap, .int .i64 (max 0 (min (c + n) is.length)), .string p]) ?_ rfl HF.2
    rw [results_cell1 rfl]
    exact HF.1
end Go.Proofs.YtamdlbefiggkfaaGreat.Cmp

set_option linter.unusedVariables false
set_option linter.unusedSimpArgs false
set_option maxRecDepth 100000
namespace Go.Proofs.YtamdlbefiggkfaaGreat.Cmp
open Go Go.RowKit Go.Proofs.YtamdlbefiggkfaaGreat.Kit Go.Proofs.YtamdlbefiggkfaaGreat.Utf Go.Proofs.YtamdlbefiggkfaaGreat.Rom Go.Proofs.YtamdlbefiggkfaaGreat.Aut

theorem wp_append_ritems {ops : Array Oper} {rest : List Oper} {o : Oper} {a : Act} {Q : Exit → Act → World → Prop} (hgd : o.guard = none) (s x : Operand)
    (ho : o.op = .call { callee := .builtin .append, args := #[s, x], argTypes := #[31, 31] })
    (w : World) (base : Nat) (v : Value) (n : Nat) (xs : List Value) (hs : a.eval s = v) (hown : w.ownsRow base 73 2 v n xs)
    (y : Value) (is : List It) (hx : a.eval x = y) (hR : ItR w y is) (h63 : n + is.length ≤ 1000000000000) (hbase : base ≤ w.heap.size)
    (h : ∀ v' w', w'.ownsRow base 73 2 v' (n + is.length) (xs ++ ic is) → w.grownBy w' v.ownBlock → wpList Tryz.prog ops Q rest (a.put o.dst v') w') :
    wpList Tryz.prog ops Q (o :: rest) a w := by
  refine wpList_plain hgd fun K hK => ?_
  obtain ⟨v', w', hr, h2, h3⟩ := run_append_ritems w base v n xs hown y is hR h63 hbase o.type
  unfold Oper.wp execOp
  simp only [ho, resolve, invoke, builtin, Sem.run_bind, Sem.run_pure, Result.andThen_ok, List.map_toArray, List.map_cons, List.map_nil, hs, hx, hr]
  exact hK _ _ (h v' w' h2 h3)


theorem ItR.drop_if {W : World} {g o n cap k : Nat} {is : List It} (h : ItR W (.slice (some ⟨g, o, none⟩) n cap) is) (hk : k + 1 ≤ n) :
    ItR W (.slice (if cap = k + 1 then some ⟨g, o, none⟩ else some ⟨g, o + (k + 1) * 2, none⟩) (n - (k + 1)) (cap - (k + 1))) (is.drop (k + 1)) := by
  split
  · rw [show cap - (k + 1) = 0 by omega]
    exact h.drop_end hk (by omega)
  · simpa [Addr.add_lit] using h.drop hk

set_option maxHeartbeats 8000000 in
theorem rwithout_any (is : List It) (c ck : Int) (p : ByteArray) (k : Nat) (v : Value) (w : World) (hR : BfR w v ⟨is, c, p⟩) (hk : k < is.length) (hn : is.length ≤ 1000) :
    Calls Tryz.prog 49 #[v, .int .i64 k, .int .i64 ck] w (RB ⟨is.eraseIdx k, ck, p⟩ w) := by
  obtain ⟨a, len, cap, rfl, hI⟩ := hR.open
  clear hR
  simp only at *
  have hil := hI.len.1
  have hcap := hI.len.2.1
  have hmx := hI.len.2.2
  unfold maxLen at hmx
  obtain ⟨g, o, rfl, _, _⟩ := hI.at (by omega)
  subst hil
  have HI := Lib.hid (fun (W : World) (h : Below w.heap.size w W) => hI.later h (Nat.le_refl _))
  have hsep := Lib.hid (sep_lt hI (g := w.heap.size + 1) (by omega))
  clear hI
  obtain ⟨W, hW⟩ : ∃ W, (w.alloc (Obj.cells #[.slice (some ⟨g, o, none⟩) is.length cap, .int .i64 c, .string p] 33)).alloc (Obj.cells #[.slice none 0 0, .int .i64 0, .string { data := #[] }] 33) = W := ⟨_, rfl⟩
  have HWW := Lib.hid hW
  obtain ⟨f1, f2, f3, f4⟩ := boxes hW
  clear hW
  go_enter Tryz.func49, Tryz.ntmps49
  go_wp2_with (first
    | (at_builtin; rw [HWW.out]; refine wp_append_ritems (by rfl) _ _ (by rfl) _ W.heap.size _ 0 [] (by rfl) (World.ownsRow_nil _ _ _ _) _ (is.take k) (by rfl) ((HI.out W f3).take (by omega)) (by simp; omega) (by omega) ?_; intro v2 w2 hown2 hg2; have hb2 := (Below.refl W.heap.size W).grown hg2 (Nat.le_refl _) (fun j hj => by cases hj); have hbw2 : Below w.heap.size w w2 := f3.trans (hb2.mono (by omega)); have hw2 := hb2.size; obtain ⟨b0, b1, b2, _⟩ := box_facts ((hb2.block w.heap.size (by omega)).trans f1); have hy := (hb2.block (w.heap.size + 1) (by omega)).trans f2)
    | (at_builtin; refine wp_append_ritems (by rfl) _ _ (by rfl) _ W.heap.size _ _ _ (by rfl) hown2 _ (is.drop (k + 1)) (by rfl) (by first | exact (HI.out w2 hbw2).drop_if (by omega) | exact (HI.out w2 hbw2).drop_end (by omega) (by omega)) (by simp; omega) (by omega) ?_; intro v3 w3 hown3 hg3; have hb3 := hb2.grown hg3 hw2 (fun j hj => (hown2.lt j hj).1); have hlt3 := fun j hj => (hown3.lt j hj).1; obtain ⟨hI3, hl3⟩ := items_of_own (is := is.take k ++ is.drop (k + 1)) (by rw [ic_append]; exact hown3); obtain ⟨a3, m3, k3, rfl, e3, _⟩ := id hI3; have e4 : m3 = is.length - 1 := (by rw [e3]; simp; omega); clear e3 hl3; subst e4; have hbw3 : Below w.heap.size w w3 := f3.trans (hb3.mono (by omega)); obtain ⟨c0, c1, c2, _⟩ := box_facts ((hb3.block w.heap.size (by omega)).trans f1); have hy3 := (hb3.block (w.heap.size + 1) (by omega)).trans f2; obtain ⟨y0, y1, y2, _⟩ := box_facts hy3; clear hown2 hown3 hg2 hg3 hy b0 b1 b2))
  all_goals
    have HF := rb_set (a := a3) (m := is.length - 1) (k := k3) (c := ck) (p := p) hy3 (by omega) hI3 (fun b off e h => by subst e; have := hlt3 b rfl; omega) hbw3
    rw [← List.eraseIdx_eq_take_drop_succ] at HF
    refine bodyPost_ret (v := .agg #[.slice a3 (is.length - 1) k3, .int .i64 ck, .string p]) ?_ rfl HF.2
    rw [results_cell1 rfl]
    exact HF.1
end Go.Proofs.YtamdlbefiggkfaaGreat.Cmp

set_option linter.unusedVariables false
set_option linter.unusedSimpArgs false
set_option maxRecDepth 100000
namespace Go.Proofs.YtamdlbefiggkfaaGreat.Cmp
open Go Go.RowKit Go.Proofs.YtamdlbefiggkfaaGreat.Kit Go.Proofs.YtamdlbefiggkfaaGreat.Utf Go.Proofs.YtamdlbefiggkfaaGreat.Rom Go.Proofs.YtamdlbefiggkfaaGreat.Aut

/-- Items do not lie in the box of a buffer. -/
theorem sep_box {W : World} {g : Nat} {a x : Option Addr} {m k n q : Nat} {c : Int} {z : Value} {t : TypeId} {is : List It} (h : ItR W (.slice a m k) is) (hx : W.heap[g]? = some (Obj.cells #[.slice x n q, .int .i64 c, z] t)) :
    ∀ b off, a = some ⟨b, off, none⟩ → 0 < m → b ≠ g := by
  intro b off e h0 e2
  subst e2
  have hl := h.len.1
  obtain ⟨b', off', e3, _, hc⟩ := h.at (by omega)
  rw [e] at e3
  cases e3
  obtain ⟨c1, c2⟩ := hc 0 (by omega)
  rw [cell_of_row W _ _ _ _ _ hx] at c1 c2
  match off, c1, c2 with
  | 0, c1, _ => simp at c1
  | 1, c1, _ => simp at c1
  | 2, _, c2 => simp at c2
  | (o + 3), c1, _ => simp at c1

theorem BfR.of {w : World} {s : Value} {is : List It} {c : Int} {p : ByteArray} (h : ItR w s is) : BfR w (.agg #[s, .int .i64 c, .string p]) ⟨is, c, p⟩ := ⟨s, rfl, h⟩

theorem rwithout_int (is : List It) (c ck z : Int) (p : ByteArray) (v : Value) (w : World) (hR : BfR w v ⟨is, c, p⟩) (h0 : 0 ≤ z) (hk : z < is.length) (hn : is.length ≤ 1000) :
    Calls Tryz.prog 49 #[v, .int .i64 z, .int .i64 ck] w (RB ⟨is.eraseIdx z.toNat, ck, p⟩ w) := by
  have h := rwithout_any is c ck p z.toNat v w hR (by omega) hn
  rw [Int.toNat_of_nonneg h0] at h
  exact h

set_option maxHeartbeats 8000000 in
theorem rdelete_any (b : Bf) (v : Value) (w : World) (hR : BfR w v b) (hsh : Sh b) :
    Calls Tryz.prog 20 #[v] w (RB (delB b) w) := by
  obtain ⟨a, len, cap, rfl, hI⟩ := hR.open
  have HV := Lib.hid (fun s W (hI : ItR W s b.is) => rvalid_any b s W hI hsh)
  have HI := Lib.hid (fun (W : World) (h : Below w.heap.size w W) => hI.later h (Nat.le_refl _))
  have hsep := Lib.hid (sep_lt hI (g := w.heap.size + 1) (by omega))
  have hil := hI.len.1
  have hvp := @val_parts b
  have hszp := hsh.2.1
  unfold delB
  clear hR hsh hI
  obtain ⟨is, c, p⟩ := b
  simp only at *
  subst hil
  obtain ⟨W, hW⟩ : ∃ W, (w.alloc (Obj.cells #[.slice a is.length cap, .int .i64 c, .string p] 33)).alloc (Obj.cells #[.slice none 0 0, .int .i64 0, .string { data := #[] }] 33) = W := ⟨_, rfl⟩
  obtain ⟨f1, f2, f3, f4⟩ := boxes hW
  have HWW := Lib.hid hW
  have he := empty_str p
  clear hW
  cases hv : val ⟨is, c, p⟩
  · rw [hv] at HV
    clear hv hvp
    simp only [Bool.false_and, Bool.false_eq_true, if_false]
    go_enter Tryz.func20, Tryz.ntmps20
    go_wp2_with (go_at_call 37; rw [HWW.out]; (with_reducible refine (HV.out _ W (HI.out W f3)).mono ?_); rintro e w3 ⟨rfl, hb3⟩; obtain ⟨b0, b1, b2, _⟩ := box_facts ((hb3.block w.heap.size (by omega)).trans f1); have hy := (hb3.block (w.heap.size + 1) (by omega)).trans f2; obtain ⟨y0, y1, y2, _⟩ := box_facts hy; have hbw : Below w.heap.size w w3 := f3.trans (hb3.mono (by omega)); have hw3 := hb3.size)
    have HF := rb_set (a := a) (m := is.length) (k := cap) (c := c) (p := p) hy (by omega) (HI.out _ hbw) hsep.out hbw
    refine bodyPost_ret (v := .agg #[.slice a is.length cap, .int .i64 c, .string (p)]) ?_ rfl HF.2
    rw [results_cell1 rfl]
    exact HF.1
  obtain ⟨hl, hc0, hcl, _, hp8, _⟩ := hvp hv
  rw [hv] at HV
  by_cases hc : c < is.length
  rotate_left
  · rw [decide_eq_false hc]
    clear hv hvp
    simp only [Bool.and_false, Bool.false_eq_true, if_false]
    go_enter Tryz.func20, Tryz.ntmps20
    go_wp2_with (go_at_call 37; rw [HWW.out]; (with_reducible refine (HV.out _ W (HI.out W f3)).mono ?_); rintro e w3 ⟨rfl, hb3⟩; obtain ⟨b0, b1, b2, _⟩ := box_facts ((hb3.block w.heap.size (by omega)).trans f1); have hy := (hb3.block (w.heap.size + 1) (by omega)).trans f2; obtain ⟨y0, y1, y2, _⟩ := box_facts hy; have hbw : Below w.heap.size w w3 := f3.trans (hb3.mono (by omega)); have hw3 := hb3.size)
    have HF := rb_set (a := a) (m := is.length) (k := cap) (c := c) (p := p) hy (by omega) (HI.out _ hbw) hsep.out hbw
    refine bodyPost_ret (v := .agg #[.slice a is.length cap, .int .i64 c, .string (p)]) ?_ rfl HF.2
    rw [results_cell1 rfl]
    exact HF.1
  · rw [decide_eq_true hc]
    clear hv hvp
    simp only [Bool.and_true, if_true]
    go_enter Tryz.func20, Tryz.ntmps20
    go_wp2_with (first
      | (go_at_call 37; rw [HWW.out]; (with_reducible refine (HV.out _ W (HI.out W f3)).mono ?_); rintro e w3 ⟨rfl, hb3⟩; obtain ⟨b0, b1, b2, _⟩ := box_facts ((hb3.block w.heap.size (by omega)).trans f1); have hy := (hb3.block (w.heap.size + 1) (by omega)).trans f2; obtain ⟨y0, y1, y2, _⟩ := box_facts hy; have hbw : Below w.heap.size w w3 := f3.trans (hb3.mono (by omega)); have hw3 := hb3.size)
      | (go_at_call 49; go_loud ((with_reducible refine (rwithout_int is c (c) (c) p _ w3 (BfR.of (HI.out w3 hbw)) (by omega) (by omega) (by omega)).mono ?_); rintro e w4 ⟨v4, rfl, hR4, hb4⟩; obtain ⟨a4, m4, k4, rfl, hI4⟩ := hR4.open; have hl4 := hI4.len.1; dsimp only at hl4 hI4; have hbw4 := hbw.trans (hb4.mono (by omega)); have hy4 := (hb4.block (w.heap.size + 1) (by omega)).trans hy; obtain ⟨z0, z1, z2, _⟩ := box_facts hy4; have HF4 := Lib.hid (rb_set (a := a4) (m := m4) (k := k4) (c := c) (p := p) hy4 (by omega) hI4 (sep_box hI4 hy4) hbw4); clear hl4 hI4 hR4)))
    refine bodyPost_ret (v := .agg #[.slice a4 m4 k4, .int .i64 c, .string p]) ?_ rfl HF4.out.2
    rw [results_cell1 rfl]
    exact HF4.out.1

set_option maxHeartbeats 8000000 in
theorem rback_any (b : Bf) (v : Value) (w : World) (hR : BfR w v b) (hsh : Sh b) :
    Calls Tryz.prog 18 #[v] w (RB (bacB b) w) := by
  obtain ⟨a, len, cap, rfl, hI⟩ := hR.open
  have HV := Lib.hid (fun s W (hI : ItR W s b.is) => rvalid_any b s W hI hsh)
  have HI := Lib.hid (fun (W : World) (h : Below w.heap.size w W) => hI.later h (Nat.le_refl _))
  have hsep := Lib.hid (sep_lt hI (g := w.heap.size + 1) (by omega))
  have hil := hI.len.1
  have hvp := @val_parts b
  have hszp := hsh.2.1
  unfold bacB
  clear hR hsh hI
  obtain ⟨is, c, p⟩ := b
  simp only at *
  subst hil
  obtain ⟨W, hW⟩ : ∃ W, (w.alloc (Obj.cells #[.slice a is.length cap, .int .i64 c, .string p] 33)).alloc (Obj.cells #[.slice none 0 0, .int .i64 0, .string { data := #[] }] 33) = W := ⟨_, rfl⟩
  obtain ⟨f1, f2, f3, f4⟩ := boxes hW
  have HWW := Lib.hid hW
  have he := empty_str p
  clear hW
  cases hv : val ⟨is, c, p⟩
  · rw [hv] at HV
    clear hv hvp
    simp only [Bool.false_eq_true, if_false]
    go_enter Tryz.func18, Tryz.ntmps18
    go_wp2_with (go_at_call 37; rw [HWW.out]; (with_reducible refine (HV.out _ W (HI.out W f3)).mono ?_); rintro e w3 ⟨rfl, hb3⟩; obtain ⟨b0, b1, b2, _⟩ := box_facts ((hb3.block w.heap.size (by omega)).trans f1); have hy := (hb3.block (w.heap.size + 1) (by omega)).trans f2; obtain ⟨y0, y1, y2, _⟩ := box_facts hy; have hbw : Below w.heap.size w w3 := f3.trans (hb3.mono (by omega)); have hw3 := hb3.size)
    have HF := rb_set (a := a) (m := is.length) (k := cap) (c := c) (p := p) hy (by omega) (HI.out _ hbw) hsep.out hbw
    refine bodyPost_ret (v := .agg #[.slice a is.length cap, .int .i64 c, .string (p)]) ?_ rfl HF.2
    rw [results_cell1 rfl]
    exact HF.1
  obtain ⟨hl, hc0, hcl, _, hp8, _⟩ := hvp hv
  rw [hv] at HV
  by_cases hp : p.size ≠ 0
  · rw [decide_eq_false hp] at he
    simp only [if_true, if_pos hp]
    obtain ⟨q, hq⟩ : ∃ q, p.size = q + 1 := ⟨p.size - 1, by omega⟩
    have hex : p.extract 0 q = ba ((bs p).dropLast) := by rw [ext_take, List.dropLast_eq_take, bs_len, hq]; rfl
    have q0 : (0 : Int) ≤ q := by omega
    have hpz : ((p.size : Nat) : Int) - 1 = q := by omega
    clear hv hvp
    go_enter Tryz.func18, Tryz.ntmps18
    go_wp2_with (go_at_call 37; rw [HWW.out]; (with_reducible refine (HV.out _ W (HI.out W f3)).mono ?_); rintro e w3 ⟨rfl, hb3⟩; obtain ⟨b0, b1, b2, _⟩ := box_facts ((hb3.block w.heap.size (by omega)).trans f1); have hy := (hb3.block (w.heap.size + 1) (by omega)).trans f2; obtain ⟨y0, y1, y2, _⟩ := box_facts hy; have hbw : Below w.heap.size w w3 := f3.trans (hb3.mono (by omega)); have hw3 := hb3.size)
    have hb9 : Below w.heap.size w (w3.setCell ⟨w.heap.size, 2, none⟩ (.string (ba ((bs p).dropLast)))) := Below.setCell hbw (p := ⟨w.heap.size, 2, none⟩) (Nat.le_refl _) _
    have hy9 : (w3.setCell ⟨w.heap.size, 2, none⟩ (.string (ba ((bs p).dropLast)))).heap[w.heap.size + 1]? = some (Obj.cells #[.slice none 0 0, .int .i64 0, .string { data := #[] }] 33) := by
      rw [Below.heap_setCell _ _ _ _ (by intro e; exact absurd e (by simp))]; exact hy
    have HF := rb_set (a := a) (m := is.length) (k := cap) (c := c) (p := ba ((bs p).dropLast)) hy9 (by omega) (HI.out _ hb9) hsep.out hb9
    refine bodyPost_ret (v := .agg #[.slice a is.length cap, .int .i64 c, .string (ba ((bs p).dropLast))]) ?_ rfl HF.2
    rw [results_cell1 rfl]
    exact HF.1
  · have hp0 : p.size = 0 := by omega
    rw [decide_eq_true hp0] at he
    simp only [if_true, if_neg hp]
    by_cases hc : 0 < c
    rotate_left
    · simp only [if_neg hc]
      obtain rfl : c = 0 := by omega
      clear hv hvp
      go_enter Tryz.func18, Tryz.ntmps18
      go_wp2_with (go_at_call 37; rw [HWW.out]; (with_reducible refine (HV.out _ W (HI.out W f3)).mono ?_); rintro e w3 ⟨rfl, hb3⟩; obtain ⟨b0, b1, b2, _⟩ := box_facts ((hb3.block w.heap.size (by omega)).trans f1); have hy := (hb3.block (w.heap.size + 1) (by omega)).trans f2; obtain ⟨y0, y1, y2, _⟩ := box_facts hy; have hbw : Below w.heap.size w w3 := f3.trans (hb3.mono (by omega)); have hw3 := hb3.size)
      have HF := rb_set (a := a) (m := is.length) (k := cap) (c := 0) (p := p) hy (by omega) (HI.out _ hbw) hsep.out hbw
      refine bodyPost_ret (v := .agg #[.slice a is.length cap, .int .i64 0, .string (p)]) ?_ rfl HF.2
      rw [results_cell1 rfl]
      exact HF.1
    · simp only [if_pos hc]
      have hcne : ¬ c = 0 := by omega
      clear hv hvp
      go_enter Tryz.func18, Tryz.ntmps18
      go_wp2_with (first
        | (go_at_call 37; rw [HWW.out]; (with_reducible refine (HV.out _ W (HI.out W f3)).mono ?_); rintro e w3 ⟨rfl, hb3⟩; obtain ⟨b0, b1, b2, _⟩ := box_facts ((hb3.block w.heap.size (by omega)).trans f1); have hy := (hb3.block (w.heap.size + 1) (by omega)).trans f2; obtain ⟨y0, y1, y2, _⟩ := box_facts hy; have hbw : Below w.heap.size w w3 := f3.trans (hb3.mono (by omega)); have hw3 := hb3.size)
        | (go_at_call 49; go_loud ((with_reducible refine (rwithout_int is c (c - 1) (c - 1) p _ w3 (BfR.of (HI.out w3 hbw)) (by omega) (by omega) (by omega)).mono ?_); rintro e w4 ⟨v4, rfl, hR4, hb4⟩; obtain ⟨a4, m4, k4, rfl, hI4⟩ := hR4.open; have hl4 := hI4.len.1; dsimp only at hl4 hI4; have hbw4 := hbw.trans (hb4.mono (by omega)); have hy4 := (hb4.block (w.heap.size + 1) (by omega)).trans hy; obtain ⟨z0, z1, z2, _⟩ := box_facts hy4; have HF4 := Lib.hid (rb_set (a := a4) (m := m4) (k := k4) (c := c - 1) (p := p) hy4 (by omega) hI4 (sep_box hI4 hy4) hbw4); clear hl4 hI4 hR4)))
      refine bodyPost_ret (v := .agg #[.slice a4 m4 k4, .int .i64 (c - 1), .string p]) ?_ rfl HF4.out.2
      rw [results_cell1 rfl]
      exact HF4.out.1
end Go.Proofs.YtamdlbefiggkfaaGreat.Cmp

set_option linter.unusedVariables false
set_option linter.unusedSimpArgs false
set_option maxRecDepth 100000
namespace Go.Proofs.YtamdlbefiggkfaaGreat.Cmp
open Go Go.RowKit Go.Proofs.YtamdlbefiggkfaaGreat.Kit Go.Proofs.YtamdlbefiggkfaaGreat.Utf Go.Proofs.YtamdlbefiggkfaaGreat.Rom Go.Proofs.YtamdlbefiggkfaaGreat.Aut

set_option maxHeartbeats 4000000 in
theorem rends_any (s p : ByteArray) (w : World) (hs : s.size ≤ 1048577) (hp : p.size ≤ 1048577) :
    Calls Tryz.prog 39 #[.string s, .string p] w fun e w' => e = .returned (.string (ba (endsL (bs s) (bs p)))) ∧ w' = w := by
  by_cases h : s.size < p.size
  · have e : ba (endsL (bs s) (bs p)) = s := by
      unfold endsL
      rw [if_neg (by intro hh; have := (List.isSuffixOf_iff_suffix.1 hh).length_le; rw [bs_len, bs_len] at this; omega)]
      exact ba_bs s
    rw [e]
    have h1 : (s.size : Int) - p.size < 0 := by omega
    go_enter Tryz.func39, Tryz.ntmps39
    go_wp2
    go_ret
    exact ⟨rfl, rfl⟩
  · obtain ⟨q, hq⟩ : ∃ q, s.size = p.size + q := ⟨s.size - p.size, by omega⟩
    have hz : (s.size : Int) - p.size = q := by omega
    have q0 : (0 : Int) ≤ q := by omega
    have q1 : (q : Int) ≤ s.size := by omega
    have hd : bs (s.extract q s.size) = (bs s).drop q := by rw [ext_drop, bs_ba]
    by_cases he : s.extract q s.size = p
    · have e : ba (endsL (bs s) (bs p)) = s.extract 0 q := by
        unfold endsL
        rw [if_pos (by rw [List.isSuffixOf_iff_suffix, ← he, hd]; exact List.drop_suffix _ _), bs_len, bs_len, show s.size - p.size = q by omega, ext_take]
      rw [e]
      have hb : ((s.extract q s.size).toList == p.toList) = true := by rw [istr_beq]; exact decide_eq_true he
      clear e hq h hd he
      go_enter Tryz.func39, Tryz.ntmps39
      go_wp2
      go_ret
      exact ⟨rfl, rfl⟩
    · have e : ba (endsL (bs s) (bs p)) = s := by
        unfold endsL
        rw [if_neg (by
          intro hh
          have h2 := List.suffix_iff_eq_drop.1 (List.isSuffixOf_iff_suffix.1 hh)
          rw [bs_len, bs_len, show s.size - p.size = q by omega, ← hd] at h2
          exact he (by rw [← ba_bs (s.extract q s.size), ← h2, ba_bs]))]
        exact ba_bs s
      rw [e]
      have hb : ((s.extract q s.size).toList == p.toList) = false := by rw [istr_beq]; exact decide_eq_false he
      clear e hq h hd he
      go_enter Tryz.func39, Tryz.ntmps39
      go_wp2
      go_ret
      exact ⟨rfl, rfl⟩
end Go.Proofs.YtamdlbefiggkfaaGreat.Cmp

set_option linter.unusedVariables false
set_option linter.unusedSimpArgs false
set_option maxRecDepth 100000
namespace Go.Proofs.YtamdlbefiggkfaaGreat.Cmp
open Go Go.RowKit Go.Proofs.YtamdlbefiggkfaaGreat.Kit Go.Proofs.YtamdlbefiggkfaaGreat.Utf Go.Proofs.YtamdlbefiggkfaaGreat.Rom Go.Proofs.YtamdlbefiggkfaaGreat.Aut

set_option maxHeartbeats 8000000 in
theorem rinsert_full (is : List It) (c : Int) (p raw out : ByteArray) (cs : List Int) (v : Value) (w : World) (hR : BfR w v ⟨is, c, p⟩) (hn : is.length ≤ 1000) (hs : out.size ≤ 1099511627776) (hcs : chars (bs out) = some cs) (hl : 64 < is.length + cs.length) (hm : cs.length ≤ 1099511627776) :
    Calls Tryz.prog 41 #[v, .string raw, .string out] w fun e w' => e = .returned (.tuple #[.agg #[.slice none 0 0, .int .i64 0, .string { data := #[] }], .bool false]) ∧ Below w.heap.size w w' := by
  obtain ⟨a, len, cap, rfl, hI⟩ := hR.open
  have hil := hI.len.1
  dsimp only at hil
  subst hil
  have HRU := Lib.hid (fun W => rrunes_good out W hs cs hcs)
  clear hR hcs hs
  obtain ⟨W, hW⟩ : ∃ W, (w.alloc (Obj.cells #[.slice a is.length cap, .int .i64 c, .string p] 33)).alloc (Obj.cells #[.slice none 0 0, .int .i64 0, .string { data := #[] }] 33) = W := ⟨_, rfl⟩
  have HWW := Lib.hid hW
  obtain ⟨f1, f2, f3, f4⟩ := boxes hW
  clear hW
  go_enter Tryz.func41, Tryz.ntmps41
  go_wp2_with (go_at_call 47; rw [HWW.out]; (with_reducible refine (HRU.out W).mono ?_); rintro e w3 ⟨a2, k2, rfl, hown, hlc, hb3⟩; obtain ⟨b0, b1, b2, _⟩ := box_facts ((hb3.block w.heap.size (by omega)).trans f1); have hy := (hb3.block (w.heap.size + 1) (by omega)).trans f2; obtain ⟨y0, y1, y2, _⟩ := box_facts hy; have hbw : Below w.heap.size w w3 := f3.trans (hb3.mono (by omega)); have hw3 := hb3.size)
  refine bodyPost_ret (v := .tuple #[.agg #[.slice none 0 0, .int .i64 0, .string { data := #[] }], .bool false]) ?_ rfl ⟨rfl, Below.setCell (Below.setCell (Below.setCell hbw (p := ⟨w.heap.size + 1, 0, none⟩) (by show w.heap.size ≤ w.heap.size + 1; omega) _) (p := ⟨w.heap.size + 1, 1, none⟩) (by show w.heap.size ≤ w.heap.size + 1; omega) _) (p := ⟨w.heap.size + 1, 2, none⟩) (by show w.heap.size ≤ w.heap.size + 1; omega) _⟩
  rw [results_cell_tmp rfl]
  have hz := box_set3 (y0 := .slice none 0 0) (y1 := .int .i64 0) (y2 := .string { data := #[] }) hy
  obtain ⟨q0, q1, q2, _⟩ := box_facts hz
  simp [Result.andThen, asAddr, load_rbuf q0 q1 q2]

theorem conv_one {W : World} {b off cap : Nat} {c : Int} (h : W.cell? ⟨b, off, none⟩ = some (.int .i32 c)) : (convert 79 9 (.slice (some ⟨b, off, none⟩) 1 cap)).run Tryz.prog W = .ok (.string (Utf8.encode c)) W := by
  have h2 := run_convert_runes (P := Tryz.prog) W 79 9 21 ⟨b, off, none⟩ 1 cap [c] (by simp) Tryz.underlying79 Tryz.underlying21 Tryz.underlying9 (fun j hj => by
    have e : j = 0 := by simp only [List.length_cons, List.length_nil] at hj; omega
    subst e
    exact h)
  rw [h2]
  have e : runesBytes ([c].take 1) = Utf8.encode c := by simp [runesBytes]
  rw [e]
theorem ItR.drop_ifx {W : World} {x : Addr} {n cap k : Nat} {is : List It} (h : ItR W (.slice (some x) n cap) is) (hk : k ≤ n) :
    ItR W (.slice (if cap = k then some x else some (x.add (k * 2))) (n - k) (cap - k)) (is.drop k) := by
  split
  · rw [show cap - k = 0 by omega]
    exact h.drop_end hk (by omega)
  · simpa using h.drop hk
theorem item_lit (W : World) (r o : ByteArray) (t : TypeId) : ItR (W.alloc (Obj.cells #[.string r, .string o] t)) (.slice (some ⟨W.heap.size, 0, none⟩) 1 1) [⟨r, o⟩] := by
  refine ⟨_, _, _, rfl, rfl, Nat.le_refl _, by unfold maxLen; omega, .inr (.inr ⟨W.heap.size, 0, rfl, by simp, fun i hi => ?_⟩)⟩
  have e : i = 0 := by simp only [List.length_cons, List.length_nil] at hi; omega
  subst e
  exact ⟨by rw [cell_of_row _ _ _ _ _ _ (heap_alloc_new W _)]; rfl, by rw [cell_of_row _ _ _ _ _ _ (heap_alloc_new W _)]; rfl⟩
theorem item_step (raw : ByteArray) (cs : List Int) (j : Nat) (h : j < cs.length) : (itemsL raw cs).take (j + 1) = (itemsL raw cs).take j ++ [⟨if j = 0 then raw else emp, Utf8.encode cs[j]⟩] := by
  rw [List.take_succ_eq_append_getElem (by rw [itemsL_len]; exact h)]
  congr 2
  cases cs with
  | nil => simp at h
  | cons c cs =>
    cases j with
    | zero => rfl
    | succ j => simp [itemsL, emp]

set_option maxHeartbeats 8000000 in
theorem rinsert_fits (is : List It) (c : Int) (p raw out : ByteArray) (cs : List Int) (v : Value) (w : World) (hR : BfR w v ⟨is, c, p⟩) (h0 : 0 ≤ c) (hc : c ≤ is.length) (hs : out.size ≤ 1099511627776) (hcs : chars (bs out) = some cs) (hl : is.length + cs.length ≤ 64) :
    Calls Tryz.prog 41 #[v, .string raw, .string out] w fun e w' => ∃ v', e = .returned (.tuple #[v', .bool true]) ∧ BfR w' v' (insB ⟨is, c, p⟩ (itemsL raw cs)) ∧ Below w.heap.size w w' := by
  obtain ⟨a, len, cap, rfl, hI⟩ := hR.open
  have hil := hI.len.1
  have hcap := hI.len.2.1
  have hmx := hI.len.2.2
  unfold maxLen at hmx
  dsimp only at hil hcap hmx
  subst hil
  have HI := Lib.hid (fun (W : World) (h : Below w.heap.size w W) => hI.later h (Nat.le_refl _))
  have HRU := Lib.hid (fun W => rrunes_good out W hs cs hcs)
  obtain ⟨k, rfl⟩ : ∃ k : Nat, c = k := ⟨c.toNat, by omega⟩
  have hk : k ≤ is.length := by omega
  clear hR hcs hs hI
  obtain ⟨W, hW⟩ : ∃ W, (w.alloc (Obj.cells #[.slice a is.length cap, .int .i64 k, .string p] 33)).alloc (Obj.cells #[.slice none 0 0, .int .i64 0, .string { data := #[] }] 33) = W := ⟨_, rfl⟩
  have HWW := Lib.hid hW
  obtain ⟨f1, f2, f3, f4⟩ := boxes hW
  clear hW
  go_enter Tryz.func41, Tryz.ntmps41
  go_wp2_with (first
    | (go_at_call 47; rw [HWW.out]; (with_reducible refine (HRU.out W).mono ?_); rintro e w3 ⟨a2, k2, rfl, hown, hlc, hb3⟩; have hX := (hb3.block w.heap.size (by omega)).trans f1; obtain ⟨b0, b1, b2, _⟩ := box_facts hX; have hy := (hb3.block (w.heap.size + 1) (by omega)).trans f2; obtain ⟨y0, y1, y2, _⟩ := box_facts hy; have hbw : Below w.heap.size w w3 := f3.trans (hb3.mono (by omega)); have hw3 := hb3.size; have HOW := Lib.hid hown; clear hown)
    | (at_builtin; refine wp_append_ritems (by rfl) _ _ (by rfl) _ w3.heap.size _ 0 [] (by rfl) (World.ownsRow_nil _ _ _ _) _ (is.take k) (by rfl) ((HI.out w3 hbw).take (by omega)) (by simp; omega) (by omega) ?_; intro v4 w4 hown4 hg4; have hb4 := (Below.refl w3.heap.size w3).grown hg4 (Nat.le_refl _) (fun j hj => by cases hj); have hw4 := hb4.size))
  obtain ⟨T, hT⟩ : ∃ T, is.take k = T := ⟨_, rfl⟩
  go_loopw [10, 11, 1] (fun it i r wr => ∃ j : Nat, i = .int .i64 j ∧ j ≤ cs.length ∧ r = .string (if j = 0 then raw else emp) ∧ wr.ownsRow w3.heap.size 73 2 it (k + j) (ic (is.take k ++ (itemsL raw cs).take j)) ∧ Below w3.heap.size w3 wr) (fun _ i _ _ => cs.length - (intOf i).toNat)
  case atStart => exact ⟨0, rfl, Nat.zero_le _, rfl, by simpa [len_take_i hk] using hown4, hb4⟩
  case round =>
    obtain ⟨j, rfl, hj, rfl, hown5, hb5⟩ := hrel
    have hw5 := hb5.size
    by_cases hjl : j < cs.length
    · have hrd := own_reads HOW.out
      obtain ⟨g, o, rfl, hg, hx⟩ := reads_at hrd (by omega)
      have x0 := hx j (.int .i32 cs[j]) (by rw [List.getElem?_map, List.getElem?_eq_getElem hjl]; rfl)
      rw [← hb5.cell (p := ⟨g, _, none⟩) hg] at x0
      have hcv := conv_one (cap := k2 - j) x0
      have hne : ¬ k2 = j := by omega
      have HST := Lib.hid (item_step raw cs j hjl)
      generalize cs[j] = z at x0 hcv HST
      obtain ⟨r0, hr0⟩ : ∃ r0, (if j = 0 then raw else emp) = r0 := ⟨_, rfl⟩
      rw [hr0] at HST ⊢
      clear hr0
      have hbw5 : Below w.heap.size w wr := hbw.trans (hb5.mono (by omega))
      have HO5 := Lib.hid hown5
      clear hown5
      have j0 : (0 : Int) ≤ j := by omega
      have j1 : (j : Int) < cs.length := by omega
      clear hx hrd
      go_wp2_with (at_builtin; go_loud (refine wp_append_ritems (by rfl) _ _ (by rfl) _ w3.heap.size _ (k + j) _ (by rfl) (HO5.out.alloc _) _ [⟨r0, Utf8.encode z⟩] (by rfl) (item_lit wr _ _ _) (by simp; omega) (by simp; omega) ?_; intro v6 w6 hown6 hg6; have hb6 := (hb5.alloc hb5.size _).grown hg6 (by simp; omega) (fun j hj => (HO5.out.lt j hj).1)))
      go_roundw
      case rel => exact ⟨j + 1, by go_num, by omega, by rw [if_neg (by omega)]; rfl, by rw [HST.out, ← List.append_assoc, ic_append _ [_]]; exact hown6, hb6⟩
      case measure => simp [intOf]; omega
    · obtain rfl : j = cs.length := by omega
      obtain ⟨r9, hr9⟩ : ∃ r9, (if cs.length = 0 then raw else emp) = r9 := ⟨_, rfl⟩
      rw [hr9]
      clear hr9
      have hbw5 : Below w.heap.size w wr := hbw.trans (hb5.mono (by omega))
      have HO5 := Lib.hid hown5
      obtain ⟨c0, c1, c2, _⟩ := box_facts ((hb5.block w.heap.size (by omega)).trans hX)
      have hy5 := (hb5.block (w.heap.size + 1) (by omega)).trans hy
      clear hown5 b0 b1 b2
      cases a with
      | none =>
        have hz : is = [] ∧ cap = 0 := by
          obtain ⟨a', n', c', e, g1, g2, g3, g4⟩ := HI.out wr hbw5
          cases e
          rcases g4 with ⟨_, g5, g6⟩ | ⟨x, g5, _⟩ | ⟨b, off, g5, _⟩
          · exact ⟨List.eq_nil_of_length_eq_zero g5, g6⟩
          · cases g5
          · cases g5
        obtain ⟨rfl, rfl⟩ := hz
        obtain rfl : k = 0 := by simpa using hk
        go_wp2_with (at_builtin; refine wp_append_ritems (by rfl) _ _ (by rfl) _ w3.heap.size _ (0 + cs.length) _ (by rfl) HO5.out _ (([] : List It).drop 0) (by rfl) (by first | exact ItR.nil wr | exact (HI.out wr hbw5).drop_ifx hk | exact (HI.out wr hbw5).drop_end hk (by omega) | exact (HI.out wr hbw5).drop hk) (by simp <;> omega) (by omega) ?_; intro v7 w7 hown7 hg7; have hb7 := hb5.grown hg7 hw5 (fun j hj => (HO5.out.lt j hj).1); have hlt7 := fun j hj => (hown7.lt j hj).1; have hown8 : w7.ownsRow w3.heap.size 73 2 v7 (0 + cs.length + (([] : List It).drop 0).length) (ic (([] : List It).take 0 ++ itemsL raw cs ++ ([] : List It).drop 0)) := (by rw [ic_append]; rw [List.take_of_length_le (l := itemsL raw cs) (i := cs.length) (by rw [itemsL_len]; exact Nat.le_refl _)] at hown7; exact hown7); obtain ⟨hI7, hl7⟩ := items_of_own hown8; clear hown8; obtain ⟨a7, m7, k7, rfl, e7, _⟩ := id hI7; have e8 : m7 = cs.length := (by rw [e7]; simp [itemsL_len] <;> omega); clear e7 hl7; subst e8; have hbw7 : Below w.heap.size w w7 := hbw.trans (hb7.mono (by omega)); obtain ⟨d0, d1, d2, _⟩ := box_facts ((hb7.block w.heap.size (by omega)).trans hX); have hy7 := (hb7.block (w.heap.size + 1) (by omega)).trans hy; obtain ⟨y0, y1, y2, _⟩ := box_facts hy7; clear hown7 hg7)
        all_goals
          have HF := rb_set (a := a7) (m := cs.length) (k := k7) (c := cs.length) (p := p) hy7 (by omega) hI7 (fun b off e h => by subst e; have := hlt7 b rfl; omega) hbw7
          obtain ⟨hld, v', e9, hR9, hB9⟩ := HF
          cases e9
          refine bodyPost_ret (v := .tuple #[.agg #[.slice a7 (cs.length) k7, .int .i64 cs.length, .string p], .bool true]) ?_ rfl ⟨_, rfl, by unfold insB; simpa [itemsL_len] using hR9, hB9⟩
          rw [results_cell_tmp rfl]
          show ((loadVar 33 ⟨w.heap.size + 1, 0, none⟩).run Tryz.prog _).andThen _ = _
          rw [hld]
          rfl
      | some x =>
        go_wp2_with (at_builtin; refine wp_append_ritems (by rfl) _ _ (by rfl) _ w3.heap.size _ (k + cs.length) _ (by rfl) HO5.out _ (is.drop k) (by rfl) (by first | exact (HI.out wr hbw5).drop_ifx hk | exact (HI.out wr hbw5).drop_end hk (by omega) | exact (HI.out wr hbw5).drop hk) (by simp; omega) (by omega) ?_; intro v7 w7 hown7 hg7; have hb7 := hb5.grown hg7 hw5 (fun j hj => (HO5.out.lt j hj).1); have hlt7 := fun j hj => (hown7.lt j hj).1; have hown8 : w7.ownsRow w3.heap.size 73 2 v7 (k + cs.length + (is.drop k).length) (ic (is.take k ++ itemsL raw cs ++ is.drop k)) := (by rw [ic_append]; rw [List.take_of_length_le (l := itemsL raw cs) (i := cs.length) (by rw [itemsL_len]; exact Nat.le_refl _)] at hown7; exact hown7); obtain ⟨hI7, hl7⟩ := items_of_own hown8; clear hown8; obtain ⟨a7, m7, k7, rfl, e7, _⟩ := id hI7; have e8 : m7 = is.length + cs.length := (by rw [e7]; simp [itemsL_len]; omega); clear e7 hl7; subst e8; have hbw7 : Below w.heap.size w w7 := hbw.trans (hb7.mono (by omega)); obtain ⟨d0, d1, d2, _⟩ := box_facts ((hb7.block w.heap.size (by omega)).trans hX); have hy7 := (hb7.block (w.heap.size + 1) (by omega)).trans hy; obtain ⟨y0, y1, y2, _⟩ := box_facts hy7; clear hown7 hg7)
        all_goals
          have HF := rb_set (a := a7) (m := is.length + cs.length) (k := k7) (c := k + cs.length) (p := p) hy7 (by omega) hI7 (fun b off e h => by subst e; have := hlt7 b rfl; omega) hbw7
          obtain ⟨hld, v', e9, hR9, hB9⟩ := HF
          cases e9
          refine bodyPost_ret (v := .tuple #[.agg #[.slice a7 (is.length + cs.length) k7, .int .i64 (k + cs.length), .string p], .bool true]) ?_ rfl ⟨_, rfl, by unfold insB; rw [itemsL_len]; exact hR9, hB9⟩
          rw [results_cell_tmp rfl]
          show ((loadVar 33 ⟨w.heap.size + 1, 0, none⟩).run Tryz.prog _).andThen _ = _
          rw [hld]
          rfl

end Go.Proofs.YtamdlbefiggkfaaGreat.Cmp
