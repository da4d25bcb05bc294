/-
  Joined texts: CalX, CalFl, CalSh, CalUq, Kit3, CalIs.
-/
import Derived.Test.YteelmjmiankflaaGreatDoorM10
import Derived.Test.YteelmjmiankflaaGreatDoorM2
import Derived.Lib.FieldsP
import Derived.Test.YteelmjmiankflaaGreatDoorM6
import Derived.Test.YteelmjmiankflaaGreatDoorM8
import Derived.OneCell
set_option linter.unusedVariables false
set_option linter.unusedSimpArgs false
namespace Go.Proofs.YteelmjmiankflaaGreatDoor.Cal
open Go Go.RowKit Go.Proofs.YteelmjmiankflaaGreatDoor.Kit Go.Proofs.YteelmjmiankflaaGreatDoor.Utf
open Go.Proofs.YteelmjmiankflaaGreatDoor.Num

theorem same_list (s : ByteArray) : (s.toList == s.toList) = true := by simp

theorem row_at {w : World} {a : Option Addr} {len cap : Nat} {l : List ByteArray} (h : Reads w (.slice a len cap) (l.map Value.string)) {i : Nat} (hi : i < l.length) :
    ∃ b off, a = some ⟨b, off, none⟩ ∧ w.cell? ⟨b, off + i, none⟩ = some (.string l[i]) := by
  obtain ⟨a', len', cap', e', h1', h2', h3', hx⟩ := h
  cases e'
  rw [List.length_map] at h1'
  rcases hx with ⟨_, h0, _⟩ | ⟨x, _, h0⟩ | ⟨b, off, e2, _, hx⟩
  · omega
  · omega
  · exact ⟨b, off, e2, hx i _ (by rw [List.getElem?_map, List.getElem?_eq_getElem hi]; rfl)⟩

theorem texts_eq (l : List ByteArray) (v1 v2 : Value) (w : World) (h1 : Reads w v1 (l.map Value.string)) (h2 : Reads w v2 (l.map Value.string)) :
    Calls Tryz.prog 12 #[v1, v2] w fun e w' => e = .returned (.bool true) ∧ Below w.heap.size w w' := by
  obtain ⟨a1, n1, c1, rfl, e1, k1, m1, _⟩ := id h1
  obtain ⟨a2, n2, c2, rfl, e2, k2, m2, _⟩ := id h2
  rw [List.length_map] at e1 e2
  obtain rfl : n1 = n2 := by omega
  obtain ⟨n, hn⟩ : ∃ n, l.length = n := ⟨_, rfl⟩
  rw [hn] at e1
  obtain rfl : n1 = n := e1
  unfold maxLen at m1 m2
  have H1 := Lib.hid (fun i (hi : i < l.length) => row_at h1 hi)
  have H2 := Lib.hid (fun i (hi : i < l.length) => row_at h2 hi)
  have HN := Lib.hid hn
  clear h1 h2 e2 hn
  go_enter Tryz.func12, Tryz.ntmps12
  go_wp2
  go_loopw [5] (fun iv wr => ∃ i : Nat, iv = .int .i64 i ∧ i ≤ n1 ∧ ∃ n, wr = w.drewN n) (fun iv _ => n1 - (intOf iv).toNat)
  case atStart => exact ⟨0, rfl, Nat.zero_le _, 0, rfl⟩
  case round =>
    obtain ⟨i, rfl, hi, m0, rfl⟩ := hrel
    by_cases hlt : i < n1
    · have hil : i < l.length := by rw [HN.out]; exact hlt
      obtain ⟨b1, o1, q1, x1⟩ := H1.out i hil
      obtain ⟨b2, o2, q2, x2⟩ := H2.out i hil
      subst q1
      subst q2
      obtain ⟨x, hx⟩ : ∃ x, l[i] = x := ⟨_, rfl⟩
      rw [hx] at x1 x2
      have hs := same_list x
      have i0 : (0 : Int) ≤ (i : Int) := by omega
      have i1 : (i : Int) < (n1 : Int) := by omega
      clear hx hil hi
      go_wp2
      go_quiet (fail)
      go_wp2
      go_roundw
      case rel => exact ⟨i + 1, by go_num, by omega, by first | exact ⟨_, rfl⟩ | exact ⟨_, World.drewN_drewN _ _ _⟩⟩
      case measure => simp [intOf] <;> omega
    · have : i = n1 := by omega
      subst this
      clear hlt
      go_wp2
      go_ret
      exact ⟨rfl, below_drews (Below.refl _ _) _⟩

theorem strs_map (l : List (List Int)) : strs l = (l.map tx).map Value.string := by unfold strs; rw [List.map_map]; rfl

/-- Both list the same. -/
theorem forms_both (day : Int) (hb0 : -9223372036854775808 ≤ day) : ∃ l : List ByteArray,
    (∀ w, FLaid w → Calls Tryz.prog 9 #[.int .i64 day] w fun e w' => ∃ v, e = .returned v ∧ Reads w' v (l.map Value.string) ∧ Below w.heap.size w w') ∧
    (∀ w, FLaid w → Calls Tryz.prog 36 #[.int .i64 day] w fun e w' => ∃ v, e = .returned v ∧ Reads w' v (l.map Value.string) ∧ Below w.heap.size w w') := by
  rcases dates day with ⟨h, hd⟩ | ⟨h, _⟩
  · obtain ⟨⟨g1, g2, g3, g4, g5, g6⟩, _⟩ := id hd
    obtain ⟨y, hy⟩ : ∃ y : Nat, dY day = y := ⟨(dY day).toNat, by omega⟩
    obtain ⟨m, hm⟩ : ∃ m : Nat, dM day = m := ⟨(dM day).toNat, by omega⟩
    obtain ⟨d, hdd⟩ : ∃ d : Nat, dD day = d := ⟨(dD day).toNat, by omega⟩
    rw [hy, hm, hdd] at hd
    refine ⟨(allForms day y m d).map tx, fun w hL => ?_, fun w hL => ?_⟩
    · refine (forms_at day y m d hd w hL).mono ?_
      rintro e w' ⟨v, rfl, ho, hb⟩
      rw [strs_map] at ho
      exact ⟨v, rfl, own_reads ho, hb⟩
    · refine (rforms_at day y m d hd hb0 w hL).mono ?_
      rintro e w' ⟨v, rfl, ho, hb⟩
      rw [strs_map] at ho
      exact ⟨v, rfl, own_reads ho, hb⟩
  · refine ⟨[], fun w hL => ?_, fun w hL => ?_⟩
    · refine (forms_not day h w).mono ?_
      rintro e w' ⟨rfl, hb⟩
      exact ⟨_, rfl, ⟨none, 0, 0, rfl, rfl, Nat.le_refl _, by simp [maxLen], .inl ⟨rfl, rfl, rfl⟩⟩, hb⟩
    · refine (rforms_not day h w).mono ?_
      rintro e w' ⟨rfl, rfl⟩
      exact ⟨_, rfl, ⟨none, 0, 0, rfl, rfl, Nat.le_refl _, by simp [maxLen], .inl ⟨rfl, rfl, rfl⟩⟩, Below.refl _ _⟩

end Go.Proofs.YteelmjmiankflaaGreatDoor.Cal

set_option linter.unusedVariables false
set_option linter.unusedSimpArgs false
namespace Go.Proofs.YteelmjmiankflaaGreatDoor.Cal
open Go Go.RowKit Go.Proofs.YteelmjmiankflaaGreatDoor.Kit Go.Proofs.YteelmjmiankflaaGreatDoor.Utf
open Go.Proofs.YteelmjmiankflaaGreatDoor.Num

/-- The pieces between separators, behind an open piece. -/
def flds (p : Nat → Bool) : List Int → List Int → List (List Int)
  | cur, [] => if cur = [] then [] else [cur]
  | cur, c :: cs => if p c.toNat then (if cur = [] then flds p [] cs else cur :: flds p [] cs) else flds p (cur ++ [c]) cs

theorem flds_piece (p : Nat → Bool) : ∀ (a cur cs : List Int), (∀ c ∈ a, p c.toNat = false) → flds p cur (a ++ cs) = flds p (cur ++ a) cs
  | [], cur, cs, _ => by simp
  | x :: a, cur, cs, h => by
    have h1 := h x (by simp)
    rw [List.cons_append, flds, h1]
    simp only [Bool.false_eq_true, if_false]
    rw [flds_piece p a (cur ++ [x]) cs (fun c hc => h c (by simp [hc])), List.append_assoc]; rfl
theorem flds_cons (p : Nat → Bool) (a cs : List Int) (x : Int) (ha : a ≠ []) (h : ∀ c ∈ a, p c.toNat = false) (hx : p x.toNat = true) : flds p [] (a ++ x :: cs) = a :: flds p [] cs := by
  rw [flds_piece p a [] _ h, List.nil_append, flds, hx]
  simp [ha]
theorem flds_end (p : Nat → Bool) (a : List Int) (ha : a ≠ []) (h : ∀ c ∈ a, p c.toNat = false) : flds p [] a = [a] := by
  have := flds_piece p a [] [] h
  rw [List.append_nil, List.nil_append] at this
  rw [this, flds, if_neg ha]

theorem tx_extract (a b c : List Int) : (tx (a ++ (b ++ c))).extract (encs a).length (encs (a ++ b)).length = tx b := by
  apply ba_ext
  rw [Lib.extract_data]
  show ((bs (tx (a ++ (b ++ c)))).drop (encs a).length).take ((encs (a ++ b)).length - (encs a).length) = bs (tx b)
  rw [bs_tx, bs_tx, encs_append, encs_append, encs_append, List.drop_left, List.length_append, Nat.add_sub_cancel_left, List.take_left]

theorem spans_flds (p : Nat → Bool) : ∀ (cs pre cur : List Int) (f : Nat) (st : Option Nat) (acc : List (Nat × Nat)),
    (∀ c ∈ cs, validRune c = true) → (encs cs).length ≤ f → (st = none ∧ cur = [] ∨ st = some (encs pre).length ∧ cur ≠ []) →
    (Lib.closeSpans (tx (pre ++ (cur ++ cs))) (Lib.spansFromP p (tx (pre ++ (cur ++ cs))) f (encs (pre ++ cur)).length st acc)).map (fun x => (tx (pre ++ (cur ++ cs))).extract x.1 x.2)
      = acc.map (fun x => (tx (pre ++ (cur ++ cs))).extract x.1 x.2) ++ (flds p cur cs).map tx
  | [], pre, cur, f, st, acc, _, _, hst => by
    rw [List.append_nil]
    rw [Lib.spansFromP_end p _ f _ _ _ (by rw [tx_size]; omega)]
    rcases hst with ⟨rfl, rfl⟩ | ⟨rfl, hc⟩
    · simp [Lib.closeSpans, flds]
    · have := tx_extract pre cur []
      rw [List.append_nil] at this
      simp only [Lib.closeSpans, flds, if_neg hc, List.map_append, List.map_cons, List.map_nil, tx_size, this]
  | c :: cs, pre, cur, f, st, acc, hv, hf, hst => by
    have hcv := hv c (by simp)
    have hel := enc_len c hcv
    rw [encs_cons, List.length_append] at hf
    obtain ⟨g, rfl⟩ : ∃ g, f = g + 1 := ⟨f - 1, by omega⟩
    have hsz : (encs (pre ++ cur)).length < (tx (pre ++ (cur ++ c :: cs))).size := by
      rw [tx_size, ← List.append_assoc, encs_append (pre ++ cur), List.length_append, encs_cons, List.length_append]; omega
    have hdr : (bs (tx (pre ++ (cur ++ c :: cs)))).drop (encs (pre ++ cur)).length = enc c ++ encs cs := by
      rw [bs_tx, ← List.append_assoc, encs_append (pre ++ cur), List.drop_left, encs_cons]
    have hdec := dec_good hsz (by rw [hdr]; exact dec1_enc c hcv (encs cs))
    have hnext : (encs (pre ++ cur)).length + (enc c).length = (encs (pre ++ cur ++ [c])).length := by
      rw [encs_append (pre ++ cur), List.length_append, show encs [c] = enc c by simp [encs]]
    have hvs : ∀ x ∈ cs, validRune x = true := fun x hx => hv x (by simp [hx])
    have hext := tx_extract pre cur (c :: cs)
    have ih := spans_flds p cs
    simp only [Lib.spansFromP, if_pos hsz, hdec, flds]
    rw [hnext]
    cases hp : p c.toNat with
    | true =>
      simp only [if_true]
      rcases hst with ⟨rfl, rfl⟩ | ⟨rfl, hc⟩
      · have := ih (pre ++ [c]) [] g none acc hvs (by omega) (.inl ⟨rfl, rfl⟩)
        simp only [List.append_nil, List.nil_append, List.append_assoc, List.singleton_append] at this ⊢
        rw [this]; simp
      · have := ih (pre ++ cur ++ [c]) [] g none (acc ++ [((encs pre).length, (encs (pre ++ cur)).length)]) hvs (by omega) (.inl ⟨rfl, rfl⟩)
        simp only [List.append_nil, List.nil_append, List.append_assoc, List.singleton_append, List.cons_append] at this ⊢
        rw [this, if_neg hc]
        simp only [List.map_append, List.map_cons, List.map_nil, List.append_assoc, List.singleton_append]
        rw [hext]
    | false =>
      simp only [Bool.false_eq_true, if_false]
      rcases hst with ⟨rfl, rfl⟩ | ⟨rfl, hc⟩
      · have := ih pre [c] g (some (encs pre).length) acc hvs (by omega) (.inr ⟨rfl, by simp⟩)
        simp only [List.append_nil, List.nil_append, List.append_assoc, List.singleton_append, List.cons_append] at this ⊢
        exact this
      · have := ih pre (cur ++ [c]) g (some (encs pre).length) acc hvs (by omega) (.inr ⟨rfl, by simp⟩)
        simp only [List.append_nil, List.nil_append, List.append_assoc, List.singleton_append, List.cons_append] at this ⊢
        exact this

/-- The fields of a string of characters. -/
theorem fields_tx (p : Nat → Bool) (cs : List Int) (hv : ∀ c ∈ cs, validRune c = true) : Lib.goFieldsP p (tx cs) = (flds p [] cs).map tx := by
  have := spans_flds p cs [] [] (tx cs).size none [] hv (by rw [tx_size]; exact Nat.le_refl _) (.inl ⟨rfl, rfl⟩)
  simpa [Lib.goFieldsP, Lib.spansOfP, encs] using this

end Go.Proofs.YteelmjmiankflaaGreatDoor.Cal

set_option linter.unusedVariables false
set_option linter.unusedSimpArgs false
namespace Go.Proofs.YteelmjmiankflaaGreatDoor.Cal
open Go Go.RowKit Go.Proofs.YteelmjmiankflaaGreatDoor.Kit Go.Proofs.YteelmjmiankflaaGreatDoor.Utf
open Go.Proofs.YteelmjmiankflaaGreatDoor.Num

/-- The separators. -/
def isSep (x : Nat) : Bool := decide (x = 24180 ∨ x = 26376 ∨ x = 26085 ∨ x = 47 ∨ x = 45)

/-- The characters of numbers. -/
def NA : List Int := [48, 49, 50, 51, 52, 53, 54, 55, 56, 57]
def NK : List Int := [38646, 12295, 19968, 20108, 19977, 22235, 20116, 20845, 19971, 20843, 20061, 21313, 30334, 21315, 19975, 20740, 20806, 20140]
def NC : List Int := NA ++ 20803 :: NK

theorem nk_kp : ∀ d, d ≤ 9 → ∀ u, u ≤ 3 → ∀ c ∈ kp d u, c ∈ NK := by decide
theorem nk_gu : ∀ g, g ≤ 4 → ∀ c ∈ gu g, c ∈ NK := by decide
theorem nk_uo : ∀ b d a, d ≤ 9 → a ≤ 19 → ∀ c ∈ uo kp b d a, c ∈ NK := by
  intro b d a h9 ha c hc
  unfold uo at hc
  rcases List.mem_append.1 hc with hc | hc
  · split at hc
    · simp at hc
    · exact nk_kp d h9 (a % 4) (by omega) c hc
  · split at hc
    · exact nk_gu (a / 4) (by omega) c hc
    · simp at hc
theorem kanji_NK {ds : List Nat} (hd : DS ds) : ∀ c ∈ kanjiC ds, c ∈ NK := by
  intro c hc
  unfold kanjiC at hc
  split at hc
  · rw [List.mem_singleton.1 hc]; decide
  · exact eachS_mem nk_uo ds false hd.2.2.1 hd.2.1 c hc
theorem na_of : ∀ d : Nat, d ≤ 9 → (48 + (d : Int)) ∈ NA := by decide
theorem asc_NA {ds : List Nat} (h : ∀ d ∈ ds, d ≤ 9) : ∀ c ∈ ascC ds, c ∈ NA := by
  intro c hc
  rw [ascC_map] at hc
  obtain ⟨d, hd, rfl⟩ := List.mem_map.1 hc
  exact na_of d (h d hd)
theorem map48 : ∀ (a b : List Nat), (a.map fun d : Nat => (48 + d : Int)) = (b.map fun d : Nat => (48 + d : Int)) → a = b
  | [], [], _ => rfl
  | [], _ :: _, h => by simp at h
  | _ :: _, [], h => by simp at h
  | x :: a, y :: b, h => by
    rw [List.map_cons, List.map_cons] at h
    obtain ⟨h1, h2⟩ := List.cons.inj h
    rw [map48 a b h2, show x = y by omega]
theorem asc_inj' {a b : List Nat} (h : ascC a = ascC b) : a = b := by
  rw [ascC_map, ascC_map] at h
  exact map48 a b h
theorem kanji_ne {ds : List Nat} (hd : DS ds) : kanjiC ds ≠ [] := by
  intro e
  have h0 := hd.1
  rcases complete hd (.inl rfl : Wr ds (kanjiC ds)) with h | h <;> rw [e] at h
  · rw [show readE [] = some [] by decide] at h
    rw [← Option.some.inj h] at h0; simp at h0
  · rw [show readU [] = some [] by decide] at h
    rw [← Option.some.inj h] at h0; simp at h0

/-- The number that a piece is. -/
def Nm (p : List Int) (n : Nat) : Prop := (p = [20803] ∧ n = 1) ∨ (∃ k, k ≤ 4 ∧ p = ascC (pad k n)) ∨ p = kanjiC (digs n)

theorem pad_ne (k n : Nat) : pad k n ≠ [] := by unfold pad; intro e; exact digs_ne n (List.append_eq_nil_iff.1 e).2
theorem asc_ne {ds : List Nat} (h : ds ≠ []) : ascC ds ≠ [] := by rw [ascC_map]; simpa using h
theorem Nm.ne {p : List Int} {n : Nat} (hn : n ≤ 9999) (h : Nm p n) : p ≠ [] := by
  rcases h with ⟨rfl, _⟩ | ⟨k, _, rfl⟩ | rfl
  · simp
  · exact asc_ne (pad_ne k n)
  · exact kanji_ne (digs_DS hn)
theorem Nm.chars {p : List Int} {n : Nat} (hn : n ≤ 9999) (h : Nm p n) : ∀ c ∈ p, c ∈ NC := by
  intro c hc
  rcases h with ⟨rfl, _⟩ | ⟨k, _, rfl⟩ | rfl
  · rw [List.mem_singleton.1 hc]; decide
  · exact List.mem_append_left _ (asc_NA (pad_le k n) c hc)
  · exact List.mem_append_right _ (List.mem_cons_of_mem _ (kanji_NK (digs_DS hn) c hc))
theorem na_nk : ∀ c ∈ NA, c ∉ NK := by decide
theorem Nm.unique {p : List Int} {n n' : Nat} (hn : n ≤ 9999) (hn' : n' ≤ 9999) (h : Nm p n) (h' : Nm p n') : n = n' := by
  have two : ∀ {a b k : Nat}, a ≤ 9999 → ascC (pad k b) = kanjiC (digs a) → False := by
    intro a b k ha e
    obtain ⟨c, hc⟩ := List.exists_mem_of_ne_nil _ (asc_ne (pad_ne k b))
    exact na_nk c (asc_NA (pad_le k b) c hc) (kanji_NK (digs_DS ha) c (by rw [← e]; exact hc))
  rcases h with ⟨rfl, h1⟩ | ⟨k, _, rfl⟩ | rfl
  · rcases h' with ⟨_, h2⟩ | ⟨k, _, e⟩ | e
    · rw [h1, h2]
    · exact absurd (asc_NA (pad_le k n') 20803 (by rw [← e]; simp)) (by decide)
    · exact absurd (kanji_NK (digs_DS hn') 20803 (by rw [← e]; simp)) (by decide)
  · rcases h' with ⟨e, _⟩ | ⟨k', _, e⟩ | e
    · exact absurd (asc_NA (pad_le k n) 20803 (by rw [e]; simp)) (by decide)
    · have := asc_inj' e
      rw [← valD_pad k n, ← valD_pad k' n', this]
    · exact (two hn' e).elim
  · rcases h' with ⟨e, _⟩ | ⟨k', _, e⟩ | e
    · exact absurd (kanji_NK (digs_DS hn) 20803 (by rw [e]; simp)) (by decide)
    · exact (two hn e.symm).elim
    · exact digs_inj (Num.unique (digs_DS hn) (digs_DS hn') (.inl rfl) (.inl e))

/-- An era's name, or nothing; the years before it. -/
def eP (o : Option Nat) : List Int := match o with | none => [] | some k => eN k
def eB (o : Option Nat) : Int := match o with | none => 0 | some k => eY k - 1

structure Shp (cs : List Int) (o : Option Nat) (A B C T : List Int) (x1 x2 : Int) (e m d : Nat) : Prop where
  eq : cs = eP o ++ (A ++ x1 :: (B ++ x2 :: (C ++ T)))
  na : Nm A e
  nb : Nm B m
  nc : Nm C d
  le : e ≤ 9999
  lm : m ≤ 9999
  ld : d ≤ 9999
  sep : (x1 = 24180 ∧ x2 = 26376 ∧ (T = [26085] ∨ ∃ k, k < 7 ∧ T = [26085, 40, wdC k, 41])) ∨ (o = none ∧ (x1 = 47 ∧ x2 = 47 ∨ x1 = 45 ∧ x2 = 45) ∧ T = [])
  era : ∀ k, o = some k → k < 5

theorem nm_asc (k n : Nat) (hk : k ≤ 4) : Nm (ascC (pad k n)) n := .inr (.inl ⟨k, hk, rfl⟩)
theorem nm_kan (n : Nat) : Nm (kanjiC (digs n)) n := .inr (.inr rfl)
theorem nm_one : Nm [20803] 1 := .inl ⟨rfl, rfl⟩

theorem join3 (out : Nat → Nat → List Int → List Int) (a b c : Fld) : joinC out [a, b, c] = out a.1 a.2.1 a.2.2 ++ (out b.1 b.2.1 b.2.2 ++ out c.1 c.2.1 c.2.2) := by simp [joinC]

theorem shape {day : Int} {y m d : Nat} (h : IsDate day y m d) {cs : List Int} (hc : cs ∈ yearForms day y m d) :
    ∃ o A B C T x1 x2 e, Shp cs o A B C T x1 x2 e m d ∧ (y : Int) = eB o + (e : Nat) := by
  have hy : y ≤ 9999 := by have := h.1.2.1; omega
  have hm : m ≤ 9999 := by have := h.1.2.2.2.1; omega
  have hd : d ≤ 9999 := by have := h.1.2.2.2.2.2; have := len_bounds (y : Int) (m : Int); omega
  have h7 : (day % 7).toNat < 7 := by omega
  rcases List.mem_append.1 hc with hc | hc
  · rcases List.mem_append.1 hc with hc | hc
    · simp only [firstForms, List.mem_cons, List.not_mem_nil, or_false] at hc
      rcases hc with rfl | rfl
      · refine ⟨none, ascC (pad 1 y), ascC (pad 1 m), ascC (pad 1 d), [26085], 24180, 26376, y, ⟨?_, nm_asc 1 y (by decide), nm_asc 1 m (by decide), nm_asc 1 d (by decide), hy, hm, hd, .inl ⟨rfl, rfl, .inl rfl⟩, (fun k h => by cases h)⟩, by show (y : Int) = 0 + y; omega⟩
        simp [plainF, join3, decC, eP]
      · refine ⟨none, ascC (pad 1 y), ascC (pad 1 m), ascC (pad 1 d), [26085, 40, wdC (day % 7).toNat, 41], 24180, 26376, y, ⟨?_, nm_asc 1 y (by decide), nm_asc 1 m (by decide), nm_asc 1 d (by decide), hy, hm, hd, .inl ⟨rfl, rfl, .inr ⟨_, h7, rfl⟩⟩, (fun k h => by cases h)⟩, by show (y : Int) = 0 + y; omega⟩
        simp [plainF, join3, decC, eP]
    · simp only [sepForms, List.mem_cons, List.not_mem_nil, or_false] at hc
      rcases hc with rfl | rfl
      · refine ⟨none, ascC (pad 4 y), ascC (pad 2 m), ascC (pad 2 d), [], 47, 47, y, ⟨?_, nm_asc 4 y (by decide), nm_asc 2 m (by decide), nm_asc 2 d (by decide), hy, hm, hd, .inr ⟨rfl, .inl ⟨rfl, rfl⟩, rfl⟩, (fun k h => by cases h)⟩, by show (y : Int) = 0 + y; omega⟩
        simp [sepF, join3, decC, eP]
      · refine ⟨none, ascC (pad 4 y), ascC (pad 2 m), ascC (pad 2 d), [], 45, 45, y, ⟨?_, nm_asc 4 y (by decide), nm_asc 2 m (by decide), nm_asc 2 d (by decide), hy, hm, hd, .inr ⟨rfl, .inr ⟨rfl, rfl⟩, rfl⟩, (fun k h => by cases h)⟩, by show (y : Int) = 0 + y; omega⟩
        simp [sepF, join3, decC, eP]
  · cases hk : cur day 5 with
    | none => rw [hk] at hc; simp at hc
    | some k =>
      rw [hk] at hc
      change cs ∈ eraForms k (eYear k y) m d at hc
      obtain ⟨h1, h2, h3, h4⟩ := era_year h hk
      have h5 := cur_lt hk
      obtain ⟨e, he⟩ : ∃ e, eYear k y = e := ⟨_, rfl⟩
      rw [he] at hc h2 h3 h4
      have hey : (y : Int) = eB (some k) + (e : Nat) := by
        have e1 : ye (y : Int) (some k) = y - eY k + 1 := rfl
        show (y : Int) = (eY k - 1) + e
        omega
      have hu1 : ¬ ([26376] : List Int) = [24180] := by decide
      have hu2 : ¬ ([26085] : List Int) = [24180] := by decide
      simp only [eraForms, List.mem_cons, List.not_mem_nil, or_false] at hc
      rcases hc with rfl | rfl
      · by_cases h1e : e = 1
        · subst h1e
          refine ⟨some k, [20803], ascC (pad 1 m), ascC (pad 1 d), [26085], 24180, 26376, 1, ⟨?_, nm_one, nm_asc 1 m (by decide), nm_asc 1 d (by decide), by omega, hm, hd, .inl ⟨rfl, rfl, .inl rfl⟩, fun j hj => by cases hj; exact h5⟩, hey⟩
          simp [eraF, join3, eraC, decC, eP]
        · refine ⟨some k, ascC (pad 1 e), ascC (pad 1 m), ascC (pad 1 d), [26085], 24180, 26376, e, ⟨?_, nm_asc 1 e (by decide), nm_asc 1 m (by decide), nm_asc 1 d (by decide), by omega, hm, hd, .inl ⟨rfl, rfl, .inl rfl⟩, fun j hj => by cases hj; exact h5⟩, hey⟩
          simp [eraF, join3, eraC, decC, eP, h1e]
      · by_cases h1e : e = 1
        · subst h1e
          refine ⟨some k, [20803], kanjiC (digs m), kanjiC (digs d), [26085], 24180, 26376, 1, ⟨?_, nm_one, nm_kan m, nm_kan d, by omega, hm, hd, .inl ⟨rfl, rfl, .inl rfl⟩, fun j hj => by cases hj; exact h5⟩, hey⟩
          simp [eraF, join3, eraC, kanC, eP]
        · refine ⟨some k, kanjiC (digs e), kanjiC (digs m), kanjiC (digs d), [26085], 24180, 26376, e, ⟨?_, nm_kan e, nm_kan m, nm_kan d, by omega, hm, hd, .inl ⟨rfl, rfl, .inl rfl⟩, fun j hj => by cases hj; exact h5⟩, hey⟩
          simp [eraF, join3, eraC, kanC, eP, h1e]

theorem nc_valid : ∀ c ∈ NC, validRune c = true := by decide
theorem nc_sep : ∀ c ∈ NC, isSep c.toNat = false := by decide
theorem eN_valid : ∀ k, k < 5 → ∀ c ∈ eN k, validRune c = true := by decide
theorem wd_valid : ∀ k, k < 7 → validRune (wdC k) = true := by decide

/-- What is left when the era has been cut off. -/
def tl (A B C T : List Int) (x1 x2 : Int) : List Int := A ++ x1 :: (B ++ x2 :: (C ++ T))

theorem Shp.valid_tl {cs : List Int} {o : Option Nat} {A B C T : List Int} {x1 x2 : Int} {e m d : Nat} (h : Shp cs o A B C T x1 x2 e m d) : ∀ c ∈ tl A B C T x1 x2, validRune c = true := by
  have hx : validRune x1 = true ∧ validRune x2 = true ∧ ∀ c ∈ T, validRune c = true := by
    rcases h.sep with ⟨rfl, rfl, rfl | ⟨k, hk, rfl⟩⟩ | ⟨_, ⟨rfl, rfl⟩ | ⟨rfl, rfl⟩, rfl⟩
    · exact ⟨by decide, by decide, by decide⟩
    · refine ⟨by decide, by decide, fun c hc => ?_⟩
      simp only [List.mem_cons, List.not_mem_nil, or_false] at hc
      rcases hc with rfl | rfl | rfl | rfl
      · decide
      · decide
      · exact wd_valid k hk
      · decide
    · exact ⟨by decide, by decide, by simp⟩
    · exact ⟨by decide, by decide, by simp⟩
  intro c hc
  unfold tl at hc
  simp only [List.mem_append, List.mem_cons] at hc
  rcases hc with hc | rfl | hc | rfl | hc | hc
  · exact nc_valid c (h.na.chars h.le c hc)
  · exact hx.1
  · exact nc_valid c (h.nb.chars h.lm c hc)
  · exact hx.2.1
  · exact nc_valid c (h.nc.chars h.ld c hc)
  · exact hx.2.2 c hc
theorem Shp.valid_era {cs : List Int} {o : Option Nat} {A B C T : List Int} {x1 x2 : Int} {e m d : Nat} (h : Shp cs o A B C T x1 x2 e m d) : ∀ c ∈ eP o, validRune c = true := by
  cases o with
  | none => simp [eP]
  | some k => exact eN_valid k (h.era k rfl)
theorem Shp.valid {cs : List Int} {o : Option Nat} {A B C T : List Int} {x1 x2 : Int} {e m d : Nat} (h : Shp cs o A B C T x1 x2 e m d) : ∀ c ∈ cs, validRune c = true := by
  rw [h.eq]
  intro c hc
  rcases List.mem_append.1 hc with hc | hc
  · exact h.valid_era c hc
  · exact h.valid_tl c hc
theorem Shp.flds {cs : List Int} {o : Option Nat} {A B C T : List Int} {x1 x2 : Int} {e m d : Nat} (h : Shp cs o A B C T x1 x2 e m d) : ∃ rest, Cal.flds isSep [] (tl A B C T x1 x2) = A :: B :: C :: rest := by
  have hA := h.na.ne h.le
  have hB := h.nb.ne h.lm
  have hC := h.nc.ne h.ld
  have sA : ∀ c ∈ A, isSep c.toNat = false := fun c hc => nc_sep c (h.na.chars h.le c hc)
  have sB : ∀ c ∈ B, isSep c.toNat = false := fun c hc => nc_sep c (h.nb.chars h.lm c hc)
  have sC : ∀ c ∈ C, isSep c.toNat = false := fun c hc => nc_sep c (h.nc.chars h.ld c hc)
  have hx : isSep x1.toNat = true ∧ isSep x2.toNat = true ∧ (T = [] ∨ ∃ T', T = 26085 :: T') := by
    rcases h.sep with ⟨rfl, rfl, rfl | ⟨k, hk, rfl⟩⟩ | ⟨_, ⟨rfl, rfl⟩ | ⟨rfl, rfl⟩, rfl⟩
    · exact ⟨by decide, by decide, .inr ⟨_, rfl⟩⟩
    · exact ⟨by decide, by decide, .inr ⟨_, rfl⟩⟩
    · exact ⟨by decide, by decide, .inl rfl⟩
    · exact ⟨by decide, by decide, .inl rfl⟩
  unfold tl
  rw [flds_cons _ A _ x1 hA sA hx.1, flds_cons _ B _ x2 hB sB hx.2.1]
  rcases hx.2.2 with rfl | ⟨T', rfl⟩
  · rw [List.append_nil, flds_end _ C hC sC]; exact ⟨[], rfl⟩
  · rw [flds_cons _ C _ 26085 hC sC (by decide)]; exact ⟨_, rfl⟩

/-- Eras are cut off one after the other, the earliest one first. -/
def cutB (k : Nat) (r : List UInt8 × Int) : List UInt8 × Int := if Lib.hasPrefix r.1 (encs (eN k)) = true then (r.1.drop 6, eY k - 1) else r
def cutN : Nat → List UInt8 → List UInt8 × Int
  | 0, l => (l, 0)
  | k + 1, l => cutB k (cutN k l)

theorem pre_head {a b : Int} {l m : List Int} (ha : validRune a = true) (hb : validRune b = true) (h : Lib.hasPrefix (encs (b :: m)) (encs (a :: l)) = true) : a = b := by
  unfold Lib.hasPrefix at h
  obtain ⟨t, ht⟩ := List.isPrefixOf_iff_prefix.1 h
  rw [encs_cons, encs_cons, List.append_assoc] at ht
  have h1 := dec1_enc a ha (encs l ++ t)
  rw [ht, dec1_enc b hb] at h1
  exact (Prod.mk.inj (Option.some.inj h1)).1.symm
theorem eN_form : ∀ k, k < 5 → ∃ a b, eN k = [a, b] ∧ validRune a = true ∧ a ∉ NC := by
  intro k hk
  rcases below5 hk with rfl | rfl | rfl | rfl | rfl
  · exact ⟨26126, 27835, rfl, by decide, by decide⟩
  · exact ⟨22823, 27491, rfl, by decide, by decide⟩
  · exact ⟨26157, 21644, rfl, by decide, by decide⟩
  · exact ⟨24179, 25104, rfl, by decide, by decide⟩
  · exact ⟨20196, 21644, rfl, by decide, by decide⟩
theorem eN_heads : ∀ j, j < 5 → ∀ k, k < 5 → (eN j).head? = (eN k).head? → j = k := by decide
theorem eN_size : ∀ k, k < 5 → (encs (eN k)).length = 6 := by decide

theorem no_era {c : Int} {cs : List Int} (hc : c ∈ NC) (k : Nat) (hk : k < 5) : Lib.hasPrefix (encs (c :: cs)) (encs (eN k)) = false := by
  obtain ⟨a, b, e, hv, hn⟩ := eN_form k hk
  cases h : Lib.hasPrefix (encs (c :: cs)) (encs (eN k)) with
  | false => rfl
  | true =>
    rw [e] at h
    exact absurd (by rw [pre_head hv (nc_valid c hc) h]; exact hc) hn
theorem other_era {j k : Nat} (hj : j < 5) (hk : k < 5) (hjk : j ≠ k) (cs : List Int) : Lib.hasPrefix (encs (eN j ++ cs)) (encs (eN k)) = false := by
  obtain ⟨a, b, e, hv, _⟩ := eN_form k hk
  obtain ⟨a', b', e', hv', _⟩ := eN_form j hj
  cases h : Lib.hasPrefix (encs (eN j ++ cs)) (encs (eN k)) with
  | false => rfl
  | true =>
    rw [e, e'] at h
    have := pre_head hv hv' h
    exact absurd (eN_heads j hj k hk (by rw [e, e', this]; rfl)) hjk
theorem own_era {k : Nat} (hk : k < 5) (cs : List Int) : Lib.hasPrefix (encs (eN k ++ cs)) (encs (eN k)) = true ∧ (encs (eN k ++ cs)).drop 6 = encs cs := by
  rw [encs_append]
  refine ⟨?_, ?_⟩
  · unfold Lib.hasPrefix; exact List.isPrefixOf_iff_prefix.2 ⟨_, rfl⟩
  · rw [← eN_size k hk, List.drop_left]

theorem cutB_no {k : Nat} {l : List UInt8} {z : Int} (h : Lib.hasPrefix l (encs (eN k)) = false) : cutB k (l, z) = (l, z) := by
  unfold cutB
  rw [if_neg]
  show ¬ Lib.hasPrefix l (encs (eN k)) = true
  rw [h]; decide
theorem cutB_own {k : Nat} (hk : k < 5) (cs : List Int) (z : Int) : cutB k (encs (eN k ++ cs), z) = (encs cs, eY k - 1) := by
  unfold cutB
  rw [if_pos (own_era hk cs).1]
  show ((encs (eN k ++ cs)).drop 6, eY k - 1) = _
  rw [(own_era hk cs).2]
theorem cutN_none {c : Int} {cs : List Int} (hc : c ∈ NC) : ∀ k, k ≤ 5 → cutN k (encs (c :: cs)) = (encs (c :: cs), 0)
  | 0, _ => rfl
  | k + 1, hk => by
    unfold cutN
    rw [cutN_none hc k (by omega), cutB_no (no_era hc k (by omega))]
theorem cutN_some {j : Nat} (hj : j < 5) {c : Int} {cs : List Int} (hc : c ∈ NC) : ∀ k, k ≤ 5 → cutN k (encs (eN j ++ c :: cs)) = if j < k then (encs (c :: cs), eY j - 1) else (encs (eN j ++ c :: cs), 0)
  | 0, _ => rfl
  | k + 1, hk => by
    unfold cutN
    rw [cutN_some hj hc k (by omega)]
    by_cases h : j < k
    · have h' : j < k + 1 := by omega
      rw [if_pos h, if_pos h', cutB_no (no_era hc k (by omega))]
    · by_cases e : j = k
      · subst e
        have h' : j < j + 1 := by omega
        rw [if_neg h, if_pos h', cutB_own hj]
      · have h' : ¬ j < k + 1 := by omega
        rw [if_neg h, if_neg h', cutB_no (other_era hj (by omega) e _)]

theorem Shp.head {cs : List Int} {o : Option Nat} {A B C T : List Int} {x1 x2 : Int} {e m d : Nat} (h : Shp cs o A B C T x1 x2 e m d) : ∃ c r, tl A B C T x1 x2 = c :: r ∧ c ∈ NC := by
  cases hA : A with
  | nil => exact absurd hA (h.na.ne h.le)
  | cons c r => exact ⟨c, _, rfl, h.na.chars h.le c (by rw [hA]; simp)⟩
theorem Shp.cut {cs : List Int} {o : Option Nat} {A B C T : List Int} {x1 x2 : Int} {e m d : Nat} (h : Shp cs o A B C T x1 x2 e m d) : cutN 5 (encs cs) = (encs (tl A B C T x1 x2), eB o) := by
  obtain ⟨c, r, hr, hc⟩ := h.head
  have he := h.eq
  rw [show A ++ x1 :: (B ++ x2 :: (C ++ T)) = tl A B C T x1 x2 from rfl, hr] at he
  rw [hr, he]
  cases o with
  | none => exact cutN_none hc 5 (Nat.le_refl _)
  | some j =>
    have := cutN_some (h.era j rfl) (cs := r) hc 5 (Nat.le_refl _)
    rw [if_pos (h.era j rfl)] at this
    exact this

theorem encs_inj {a b : List Int} (ha : ∀ c ∈ a, validRune c = true) (hb : ∀ c ∈ b, validRune c = true) (h : encs a = encs b) : a = b := by
  have := chars_encs ha
  rw [h, chars_encs hb] at this
  exact (Option.some.inj this).symm
theorem Shp.unique {cs : List Int} {o o' : Option Nat} {A B C T A' B' C' T' : List Int} {x1 x2 x1' x2' : Int} {e m d e' m' d' : Nat} (h : Shp cs o A B C T x1 x2 e m d) (h' : Shp cs o' A' B' C' T' x1' x2' e' m' d') : eB o = eB o' ∧ e = e' ∧ m = m' ∧ d = d' := by
  have h1 := h.cut
  rw [h'.cut] at h1
  obtain ⟨h2, h3⟩ := Prod.mk.inj h1
  have h4 := encs_inj h'.valid_tl h.valid_tl h2
  obtain ⟨r, hr⟩ := h.flds
  obtain ⟨r', hr'⟩ := h'.flds
  rw [h4, hr] at hr'
  obtain ⟨e1, hr'⟩ := List.cons.inj hr'
  obtain ⟨e2, hr'⟩ := List.cons.inj hr'
  obtain ⟨e3, _⟩ := List.cons.inj hr'
  exact ⟨h3.symm, h.na.unique h.le h'.le (by rw [e1]; exact h'.na), h.nb.unique h.lm h'.lm (by rw [e2]; exact h'.nb), h.nc.unique h.ld h'.ld (by rw [e3]; exact h'.nc)⟩

/-- s is a form with a year of the day. -/
def IsForm (s : ByteArray) (day : Int) : Prop := ∃ y m d : Nat, IsDate day y m d ∧ ∃ cs, cs ∈ yearForms day y m d ∧ s = tx cs
theorem IsForm.unique {s : ByteArray} {a b : Int} (h : IsForm s a) (h' : IsForm s b) : a = b := by
  obtain ⟨y, m, d, hd, cs, hc, rfl⟩ := h
  obtain ⟨y', m', d', hd', cs', hc', e⟩ := h'
  obtain ⟨o, A, B, C, T, x1, x2, n, hS, hy⟩ := shape hd hc
  obtain ⟨o', A', B', C', T', x1', x2', n', hS', hy'⟩ := shape hd' hc'
  obtain rfl := tx_inj hS.valid hS'.valid e
  obtain ⟨e1, rfl, rfl, rfl⟩ := hS.unique hS'
  have : (y : Int) = y' := by rw [hy, hy', e1]
  rw [hd.2, hd'.2, this]

/-- Whether a string is one of the texts. -/
def isB (s : ByteArray) (l : List (List Int)) : Bool := l.any fun c => (tx c).toList == s.toList
theorem isB_iff (s : ByteArray) (l : List (List Int)) : isB s l = true ↔ ∃ cs, cs ∈ l ∧ s = tx cs := by
  unfold isB
  rw [List.any_eq_true]
  constructor
  · rintro ⟨c, hc, h⟩
    refine ⟨c, hc, ?_⟩
    have := eq_of_beq h
    rw [ByteArray.toList_eq, ByteArray.toList_eq] at this
    exact ba_ext this.symm
  · rintro ⟨c, hc, rfl⟩
    exact ⟨c, hc, by simp⟩

theorem isForm_iff {s : ByteArray} {day : Int} {y m d : Nat} (h : IsDate day y m d) : IsForm s day ↔ isB s (yearForms day y m d) = true := by
  rw [isB_iff]
  constructor
  · rintro ⟨y', m', d', h', cs, hc, e⟩
    obtain ⟨a, b, c⟩ := h.unique h'
    obtain rfl : y = y' := by omega
    obtain rfl : m = m' := by omega
    obtain rfl : d = d' := by omega
    exact ⟨cs, hc, e⟩
  · rintro ⟨cs, hc, e⟩
    exact ⟨y, m, d, h, cs, hc, e⟩

/-- What both Parses return. -/
def ParsePost (s : ByteArray) (w : World) (e : Ending) (w' : World) : Prop :=
  ((∃ day, IsForm s day ∧ e = .returned (.tuple #[.int .i64 day, .bool true])) ∨ ((∀ day, ¬ IsForm s day) ∧ e = .returned (.tuple #[.int .i64 0, .bool false]))) ∧ Below w.heap.size w w'

theorem year_count (day : Int) (y m d : Nat) : 4 ≤ (yearForms day y m d).length ∧ (yearForms day y m d).length ≤ 6 := by
  unfold yearForms
  rcases cur day 5 with _ | k
  · show 4 ≤ 4 ∧ 4 ≤ 6; decide
  · show 4 ≤ 6 ∧ 6 ≤ 6; decide

end Go.Proofs.YteelmjmiankflaaGreatDoor.Cal

set_option linter.unusedVariables false
set_option linter.unusedSimpArgs false
namespace Go.Proofs.YteelmjmiankflaaGreatDoor.Cal
open Go Go.RowKit Go.Proofs.YteelmjmiankflaaGreatDoor.Kit Go.Proofs.YteelmjmiankflaaGreatDoor.Utf
open Go.Proofs.YteelmjmiankflaaGreatDoor.Num

/-- What tells forms apart: whether there is a bracket, a hyphen; how many strokes; whether there is a year, an era's first character, a decimal digit. -/
abbrev KT := Bool × Bool × Nat × Bool × Bool × Bool
def EH : List Int := [26126, 22823, 26157, 24179, 20196]
def kadd (a b : KT) : KT := (a.1 || b.1, a.2.1 || b.2.1, a.2.2.1 + b.2.2.1, a.2.2.2.1 || b.2.2.2.1, a.2.2.2.2.1 || b.2.2.2.2.1, a.2.2.2.2.2 || b.2.2.2.2.2)
def K (cs : List Int) : KT := (cs.any (fun c => decide (c = 40)), cs.any (fun c => decide (c = 45)), cs.countP (fun c => decide (c = 47)), cs.any (fun c => decide (c = 24180)), cs.any (fun c => decide (c ∈ EH)), cs.any (fun c => decide (c ∈ NA)))
theorem K_append (a b : List Int) : K (a ++ b) = kadd (K a) (K b) := by
  unfold K kadd
  simp only [List.any_append, List.countP_append]

theorem any_no {p : Int → Bool} {cs : List Int} (h : ∀ c ∈ cs, p c = false) : cs.any p = false := by
  rw [List.any_eq_false]; intro c hc; rw [h c hc]; decide
theorem count_no {p : Int → Bool} {cs : List Int} (h : ∀ c ∈ cs, p c = false) : cs.countP p = 0 := by
  rw [List.countP_eq_zero]; intro c hc; rw [h c hc]; decide
theorem na_k : ∀ c ∈ NA, decide (c = 40) = false ∧ decide (c = 45) = false ∧ decide (c = 47) = false ∧ decide (c = 24180) = false ∧ decide (c ∈ EH) = false := by decide
theorem nk_k : ∀ c ∈ 20803 :: NK, decide (c = 40) = false ∧ decide (c = 45) = false ∧ decide (c = 47) = false ∧ decide (c = 24180) = false ∧ decide (c ∈ EH) = false ∧ decide (c ∈ NA) = false := by decide
theorem K_asc {ds : List Nat} (h0 : ds ≠ []) (h9 : ∀ d ∈ ds, d ≤ 9) : K (ascC ds) = (false, false, 0, false, false, true) := by
  have h := asc_NA h9
  have hne := asc_ne h0
  have hN : (ascC ds).any (fun c => decide (c ∈ NA)) = true := by
    obtain ⟨c, hc⟩ := List.exists_mem_of_ne_nil _ hne
    rw [List.any_eq_true]
    exact ⟨c, hc, by simpa using h c hc⟩
  unfold K
  rw [any_no (fun c hc => (na_k c (h c hc)).1), any_no (fun c hc => (na_k c (h c hc)).2.1), count_no (fun c hc => (na_k c (h c hc)).2.2.1), any_no (fun c hc => (na_k c (h c hc)).2.2.2.1), any_no (fun c hc => (na_k c (h c hc)).2.2.2.2), hN]
theorem K_nk {cs : List Int} (h : ∀ c ∈ cs, c ∈ 20803 :: NK) : K cs = (false, false, 0, false, false, false) := by
  unfold K
  rw [any_no (fun c hc => (nk_k c (h c hc)).1), any_no (fun c hc => (nk_k c (h c hc)).2.1), count_no (fun c hc => (nk_k c (h c hc)).2.2.1), any_no (fun c hc => (nk_k c (h c hc)).2.2.2.1), any_no (fun c hc => (nk_k c (h c hc)).2.2.2.2.1), any_no (fun c hc => (nk_k c (h c hc)).2.2.2.2.2)]
theorem K_pad (k n : Nat) : K (ascC (pad k n)) = (false, false, 0, false, false, true) := K_asc (pad_ne k n) (pad_le k n)
theorem K_kan {n : Nat} (hn : n ≤ 9999) : K (kanjiC (digs n)) = (false, false, 0, false, false, false) := K_nk fun c hc => List.mem_cons_of_mem _ (kanji_NK (digs_DS hn) c hc)
theorem K_wd (k : Nat) (hk : k < 7) : K [wdC k] = (false, false, 0, false, false, false) := by
  have : k = 0 ∨ k = 1 ∨ k = 2 ∨ k = 3 ∨ k = 4 ∨ k = 5 ∨ k = 6 := by omega
  rcases this with rfl | rfl | rfl | rfl | rfl | rfl | rfl <;> rfl
theorem K_eN (k : Nat) (hk : k < 5) : K (eN k) = (false, false, 0, false, true, false) := by
  rcases below5 hk with rfl | rfl | rfl | rfl | rfl <;> rfl

def kY : List KT := [(false, false, 0, true, false, true), (true, false, 0, true, false, true), (false, false, 2, false, false, true), (false, true, 0, false, false, true)]
def kE : List KT := [(false, false, 0, true, true, true), (false, false, 0, true, true, false)]
def kL : List KT := [(false, false, 0, false, false, true), (false, false, 1, false, false, true)]

theorem K_plain (y m d : Nat) : K (plainF y m d) = (false, false, 0, true, false, true) := by
  unfold plainF
  rw [join3]
  simp only [decC, K_append, K_pad]
  decide
theorem K_sep47 (y m d : Nat) : K (sepF 47 y m d) = (false, false, 2, false, false, true) := by
  unfold sepF
  rw [join3]
  simp only [decC, K_append, K_pad]
  decide
theorem K_sep45 (y m d : Nat) : K (sepF 45 y m d) = (false, true, 0, false, false, true) := by
  unfold sepF
  rw [join3]
  simp only [decC, K_append, K_pad]
  decide
theorem K_eraD (e m d : Nat) : K (eraF decC e m d) = (false, false, 0, true, false, true) := by
  unfold eraF
  rw [join3]
  have h1 : eraC decC m 1 [26376] = ascC (pad 1 m) ++ [26376] := by unfold eraC; rw [if_neg (by simp)]; rfl
  have h2 : eraC decC d 1 [26085] = ascC (pad 1 d) ++ [26085] := by unfold eraC; rw [if_neg (by simp)]; rfl
  rw [h1, h2]
  by_cases he : e = 1
  · have h0 : eraC decC e 1 [24180] = [20803, 24180] := by unfold eraC; rw [if_pos ⟨he, rfl⟩]
    rw [h0]
    simp only [K_append, K_pad]
    decide
  · have h0 : eraC decC e 1 [24180] = ascC (pad 1 e) ++ [24180] := by unfold eraC; rw [if_neg (fun h => he h.1)]; rfl
    rw [h0]
    simp only [K_append, K_pad]
    decide
theorem K_eraK {e m d : Nat} (he9 : e ≤ 9999) (hm : m ≤ 9999) (hd : d ≤ 9999) : K (eraF kanC e m d) = (false, false, 0, true, false, false) := by
  unfold eraF
  rw [join3]
  have h1 : eraC kanC m 1 [26376] = kanjiC (digs m) ++ [26376] := by unfold eraC; rw [if_neg (by simp)]; rfl
  have h2 : eraC kanC d 1 [26085] = kanjiC (digs d) ++ [26085] := by unfold eraC; rw [if_neg (by simp)]; rfl
  rw [h1, h2]
  by_cases he : e = 1
  · have h0 : eraC kanC e 1 [24180] = [20803, 24180] := by unfold eraC; rw [if_pos ⟨he, rfl⟩]
    rw [h0]
    simp only [K_append, K_kan hm, K_kan hd]
    decide
  · have h0 : eraC kanC e 1 [24180] = kanjiC (digs e) ++ [24180] := by unfold eraC; rw [if_neg (fun h => he h.1)]; rfl
    rw [h0]
    simp only [K_append, K_kan hm, K_kan hd, K_kan he9]
    decide

theorem K_year {day : Int} {y m d : Nat} (h : IsDate day y m d) : (yearForms day y m d).map K = kY ++ (match cur day 5 with | none => [] | some _ => kE) := by
  have hm : m ≤ 9999 := by have := h.1.2.2.2.1; omega
  have hd : d ≤ 9999 := by have := h.1.2.2.2.2.2; have := len_bounds (y : Int) (m : Int); omega
  have h7 : (day % 7).toNat < 7 := by omega
  have hw : K (plainF y m d ++ [40] ++ [wdC (day % 7).toNat] ++ [41]) = (true, false, 0, true, false, true) := by
    simp only [K_append, K_plain, K_wd _ h7]
    decide
  unfold yearForms
  rw [List.map_append]
  have h4 : (firstForms (wdC (day % 7).toNat) y m d ++ sepForms y m d).map K = kY := by
    simp only [firstForms, sepForms, List.map_append, List.map_cons, List.map_nil, K_plain, hw, K_sep47, K_sep45]
    rfl
  rw [h4]
  cases hk : cur day 5 with
  | none => rfl
  | some k =>
    obtain ⟨_, _, _, h9⟩ := era_year h hk
    have h5 := cur_lt hk
    simp only [eraForms, List.map_cons, List.map_nil, K_append, K_eN k h5, K_eraD, K_eraK (e := eYear k y) (by omega) hm hd]
    rfl
theorem K_last (m d : Nat) : (lastForms m d).map K = kL := by
  have e1 : joinC decC [(m, 1, [26376]), (d, 1, [26085])] = ascC (pad 1 m) ++ [26376] ++ (ascC (pad 1 d) ++ [26085]) := by simp [joinC, decC]
  have e2 : joinC decC [(m, 1, [47]), (d, 1, [])] = ascC (pad 1 m) ++ [47] ++ (ascC (pad 1 d) ++ []) := by simp [joinC, decC]
  unfold lastForms
  rw [e1, e2]
  simp only [List.map_cons, List.map_nil, K_append, K_pad]
  decide
theorem K_all {day : Int} {y m d : Nat} (h : IsDate day y m d) : (allForms day y m d).map K = (kY ++ (match cur day 5 with | none => [] | some _ => kE)) ++ kL := by
  unfold allForms
  rw [List.map_append, K_year h, K_last]
theorem k_nodup (o : Option Nat) : ((kY ++ (match o with | none => [] | some _ => kE)) ++ kL).Nodup := by
  cases o with
  | none => show ((kY ++ []) ++ kL).Nodup; decide
  | some _ => show ((kY ++ kE) ++ kL).Nodup; decide

theorem last_valid (m d : Nat) : ∀ cs ∈ lastForms m d, ∀ c ∈ cs, validRune c = true := by
  have hp : ∀ n, ∀ c ∈ ascC (pad 1 n), validRune c = true := fun n c hc => nc_valid c (List.mem_append_left _ (asc_NA (pad_le 1 n) c hc))
  have e1 : joinC decC [(m, 1, [26376]), (d, 1, [26085])] = ascC (pad 1 m) ++ [26376] ++ (ascC (pad 1 d) ++ [26085]) := by simp [joinC, decC]
  have e2 : joinC decC [(m, 1, [47]), (d, 1, [])] = ascC (pad 1 m) ++ [47] ++ ascC (pad 1 d) := by simp [joinC, decC]
  intro cs hcs c hc
  unfold lastForms at hcs
  simp only [List.mem_cons, List.not_mem_nil, or_false] at hcs
  rcases hcs with rfl | rfl
  · rw [e1] at hc
    simp only [List.mem_append, List.mem_singleton] at hc
    rcases hc with (hc | rfl) | hc | rfl
    · exact hp m c hc
    · decide
    · exact hp d c hc
    · decide
  · rw [e2] at hc
    simp only [List.mem_append, List.mem_singleton] at hc
    rcases hc with (hc | rfl) | hc
    · exact hp m c hc
    · decide
    · exact hp d c hc
theorem year_valid {day : Int} {y m d : Nat} (h : IsDate day y m d) : ∀ cs ∈ yearForms day y m d, ∀ c ∈ cs, validRune c = true := by
  intro cs hcs
  obtain ⟨o, A, B, C, T, x1, x2, e, hS, _⟩ := shape h hcs
  exact hS.valid
theorem all_valid {day : Int} {y m d : Nat} (h : IsDate day y m d) : ∀ cs ∈ allForms day y m d, ∀ c ∈ cs, validRune c = true := by
  intro cs hcs
  rcases List.mem_append.1 hcs with hcs | hcs
  · exact year_valid h cs hcs
  · exact last_valid m d cs hcs

/-- Two forms of a day differ. -/
theorem forms_apart {day : Int} {y m d : Nat} (h : IsDate day y m d) {i k : Nat} (hki : k < i) (hi : i < (allForms day y m d).length) : ((tx ((allForms day y m d).getD i [])).toList == (tx ((allForms day y m d).getD k [])).toList) = false := by
  have hk : k < (allForms day y m d).length := by omega
  have gi : (allForms day y m d).getD i [] = (allForms day y m d)[i] := by rw [List.getD_eq_getElem?_getD, List.getElem?_eq_getElem hi]; rfl
  have gk : (allForms day y m d).getD k [] = (allForms day y m d)[k] := by rw [List.getD_eq_getElem?_getD, List.getElem?_eq_getElem hk]; rfl
  rw [gi, gk]
  cases hb : ((tx ((allForms day y m d)[i])).toList == (tx ((allForms day y m d)[k])).toList) with
  | false => rfl
  | true =>
    exfalso
    have e := eq_of_beq hb
    rw [ByteArray.toList_eq, ByteArray.toList_eq] at e
    have e2 := tx_inj (all_valid h _ (List.getElem_mem hi)) (all_valid h _ (List.getElem_mem hk)) (ba_ext e)
    have hn : ((allForms day y m d).map K).Nodup := by rw [K_all h]; exact k_nodup _
    have := List.getElem_inj (xs := (allForms day y m d).map K) (h₀ := by rw [List.length_map]; exact hi) (h₁ := by rw [List.length_map]; exact hk) hn
    have e3 : i = k := this.1 (by rw [List.getElem_map, List.getElem_map, e2])
    omega
/-- The last two are no forms with a year. -/
theorem last_no {m d : Nat} {cs : List Int} (hc : cs ∈ lastForms m d) (day : Int) : ¬ IsForm (tx cs) day := by
  rintro ⟨y', m', d', h', cs', hc', e⟩
  obtain rfl := tx_inj (last_valid m d cs hc) (year_valid h' cs' hc') e
  have h1 : K cs ∈ kL := by rw [← K_last m d]; exact List.mem_map_of_mem hc
  have h2 : K cs ∈ kY ++ (match cur day 5 with | none => [] | some _ => kE) := by rw [← K_year h']; exact List.mem_map_of_mem hc'
  have h3 : ∀ x ∈ kL, x ∉ kY ++ kE := by decide
  refine h3 _ h1 ?_
  rcases List.mem_append.1 h2 with h2 | h2
  · exact List.mem_append_left _ h2
  · cases hk : cur day 5 with
    | none => rw [hk] at h2; simp at h2
    | some k => rw [hk] at h2; exact List.mem_append_right _ h2

end Go.Proofs.YteelmjmiankflaaGreatDoor.Cal

set_option linter.unusedVariables false
set_option linter.unusedSimpArgs false
namespace Go.Proofs.YteelmjmiankflaaGreatDoor.Kit
open Go Go.RowKit

/-- The cells of an owned row: which block, what they hold, that they may be written. -/
theorem own_cells {w : World} {base e n cap : Nat} {a : Option Addr} {xs : List Value} (h : w.ownsRow base e 1 (.slice a n cap) n xs) (h0 : 0 < n) :
    ∃ g, a = some ⟨g, 0, none⟩ ∧ base ≤ g ∧ g < w.heap.size ∧ (∀ (k : Nat) x, xs[k]? = some x → w.cell? ⟨g, k, none⟩ = some x) ∧ ∀ k, w.frozen? ⟨g, k, none⟩ = false := by
  rcases h.2 with ⟨e1, h1⟩ | ⟨g, c, cur, e1, hb, hg, hnc, hcm, hcs, htake⟩
  · omega
  · cases e1
    refine ⟨g, rfl, hb, (Array.getElem?_eq_some_iff.1 hg).1, fun k x hx => ?_, fun k => by simp [World.frozen?, hg]⟩
    rw [cell_of_row w g k cur e (0, 0) hg]
    rw [← htake, List.getElem?_take] at hx
    split at hx
    · simpa using hx
    · cases hx

theorem own_set {w : World} {base e n cap g : Nat} {xs : List Value} (h : w.ownsRow base e 1 (.slice (some ⟨g, 0, none⟩) n cap) n xs) {k : Nat} (hk : k < n) (u : Value) :
    (w.setCell ⟨g, k, none⟩ u).ownsRow base e 1 (.slice (some ⟨g, 0, none⟩) n cap) n (xs.set k u) := by
  refine ⟨by rw [List.length_set]; exact h.1, ?_⟩
  rcases h.2 with ⟨e1, h1⟩ | ⟨g', c, cur, e1, hb, hg, hnc, hcm, hcs, htake⟩
  · omega
  · cases e1
    refine .inr ⟨g, cap, cur.setIfInBounds k u, rfl, hb, heap_setCell_same w g k cur e u hg, hnc, hcm, by simpa using hcs, ?_⟩
    rw [Array.toList_setIfInBounds, List.take_set, htake]

theorem own_setCell_below {w : World} {base e n : Nat} {v : Value} {xs : List Value} (h : w.ownsRow base e 1 v n xs) {p : Addr} (hp : p.block < base) (u : Value) : (w.setCell p u).ownsRow base e 1 v n xs := ownsRow_setCell_below h hp u

/-- The first k values turned by h, the others as they are. -/
def mixed (h : Int → Int) (cs : List Int) (k : Nat) : List Int := (cs.take k).map h ++ cs.drop k
theorem mixed_zero (h : Int → Int) (cs : List Int) : mixed h cs 0 = cs := by simp [mixed]
theorem mixed_len (h : Int → Int) (cs : List Int) (k : Nat) : (mixed h cs k).length = cs.length := by simp [mixed]; omega
theorem mixed_all (h : Int → Int) (cs : List Int) (k : Nat) (hk : cs.length ≤ k) : mixed h cs k = cs.map h := by simp [mixed, List.take_of_length_le hk, List.drop_of_length_le hk]
theorem mixed_get (h : Int → Int) (cs : List Int) (k : Nat) (hk : k < cs.length) : (mixed h cs k)[k]? = some cs[k] := by
  unfold mixed
  rw [List.getElem?_append_right (by simp; omega)]
  simp [Nat.min_eq_left (Nat.le_of_lt hk)]
theorem mixed_set (h : Int → Int) (cs : List Int) (k : Nat) (hk : k < cs.length) : (mixed h cs k).set k (h cs[k]) = mixed h cs (k + 1) := by
  unfold mixed
  rw [List.set_append_right _ _ (by simp; omega)]
  simp only [List.length_map, List.length_take, Nat.min_eq_left (Nat.le_of_lt hk), Nat.sub_self]
  have e2 : (cs.take (k + 1)).map h = (cs.take k).map h ++ [h cs[k]] := by rw [List.take_succ_eq_append_getElem hk, List.map_append]; rfl
  rw [e2, List.drop_eq_getElem_cons hk, List.set_cons_zero, List.append_assoc]
  rfl
theorem mixed_skip (h : Int → Int) (cs : List Int) (k : Nat) (hk : k < cs.length) (he : h cs[k] = cs[k]) : mixed h cs k = mixed h cs (k + 1) := by
  rw [← mixed_set h cs k hk, he]
  apply List.ext_getElem?
  intro i
  rw [List.getElem?_set]
  split
  · rename_i e; subst e; rw [mixed_get h cs k hk, if_pos (by rw [mixed_len]; exact hk)]
  · rfl

end Go.Proofs.YteelmjmiankflaaGreatDoor.Kit

set_option linter.unusedVariables false
set_option linter.unusedSimpArgs false
namespace Go.Proofs.YteelmjmiankflaaGreatDoor.Cal
open Go Go.RowKit Go.Proofs.YteelmjmiankflaaGreatDoor.Kit Go.Proofs.YteelmjmiankflaaGreatDoor.Utf
open Go.Proofs.YteelmjmiankflaaGreatDoor.Num

theorem all_count (day : Int) (y m d : Nat) : (allForms day y m d).length = (yearForms day y m d).length + 2 := by unfold allForms; rw [List.length_append]; rfl
theorem strs_len (l : List (List Int)) : (strs l).length = l.length := by simp [strs]

theorem runique_at (day : Int) (y m d : Nat) (h : IsDate day y m d) (hb0 : -9223372036854775808 ≤ day) (n : Nat) (hn : (yearForms day y m d).length = n) (w : World) (hL : FLaid w) :
    Calls Tryz.prog 37 #[.int .i64 day] w fun e w' => e = .returned (.int .i64 (n : Int)) ∧ Below w.heap.size w w' := by
  have H := Lib.hid (rforms_at day y m d h hb0 w hL)
  have hc := all_count day y m d
  have hy := year_count day y m d
  rw [hn] at hc hy
  obtain ⟨L, hLL⟩ : ∃ L, allForms day y m d = L := ⟨_, rfl⟩
  rw [hLL] at H hc
  obtain ⟨N, hN⟩ : ∃ N, L.length = N := ⟨_, rfl⟩
  rw [hN] at H hc
  obtain ⟨X, hX⟩ : ∃ X, strs L = X := ⟨_, rfl⟩
  rw [hX] at H
  have n2 : ¬ ((N : Int) - 2 < 0) := by omega
  have n3 : (N : Int) - 2 = n := by omega
  have n4 : max (0 : Int) ((N : Int) - 2) = n := by omega
  have hN8 : N ≤ 8 := by omega
  clear hN hX hLL hn h hL hc hy
  go_enter Tryz.func37, Tryz.ntmps37
  go_wp2_with (go_at_call 36; (with_reducible refine H.out.mono ?_); rintro e w1 ⟨v, rfl, ho, hb⟩; obtain ⟨a, cap, rfl⟩ := own_shape ho)
  go_ret
  exact ⟨by first | rfl | (congr 2; omega), hb⟩

set_option maxRecDepth 100000 in
theorem ris_at (s : ByteArray) (day : Int) (y m d : Nat) (h : IsDate day y m d) (hb0 : -9223372036854775808 ≤ day) (w : World) (hL : FLaid w) :
    Calls Tryz.prog 19 #[.string s, .int .i64 day] w fun e w' => e = .returned (.bool (isB s (yearForms day y m d))) ∧ Below w.heap.size w w' := by
  have H := Lib.hid (rforms_at day y m d h hb0 w hL)
  obtain ⟨n, hn⟩ : ∃ n, (yearForms day y m d).length = n := ⟨_, rfl⟩
  have HU := Lib.hid (runique_at day y m d h hb0 n hn)
  have hc := all_count day y m d
  have hn6 := (year_count day y m d).2
  rw [hn] at hc hn6
  obtain ⟨Y, hY⟩ : ∃ Y, yearForms day y m d = Y := ⟨_, rfl⟩
  have hsplit : strs (allForms day y m d) = strs Y ++ strs (lastForms m d) := by unfold allForms strs; rw [List.map_append, hY]
  rw [hY] at hn ⊢
  rw [hsplit] at H
  obtain ⟨N, hN⟩ : ∃ N, (allForms day y m d).length = N := ⟨_, rfl⟩
  rw [hN] at H hc
  have HG : Hid (∀ k (hk : k < n), (strs Y ++ strs (lastForms m d))[k]? = some (.string (tx (Y.getD k [])))) := Lib.hid (fun k hk => by
    rw [List.getElem?_append_left (by rw [strs_len, hn]; exact hk)]
    unfold strs
    rw [List.getElem?_map, List.getD_eq_getElem?_getD, List.getElem?_eq_getElem (by rw [hn]; exact hk)]; rfl)
  obtain ⟨X, hX⟩ : ∃ X, strs Y ++ strs (lastForms m d) = X := ⟨_, rfl⟩
  rw [hX] at H HG
  have HD : Hid ((∀ k, k < n → ((tx (Y.getD k [])).toList == s.toList) = false) → isB s Y = false) := Lib.hid (fun hno => by
    cases hb : isB s Y with
    | false => rfl
    | true =>
      unfold isB at hb
      obtain ⟨c, hc1, hc2⟩ := List.any_eq_true.1 hb
      obtain ⟨k, hk⟩ := List.mem_iff_getElem?.1 hc1
      have hkn : k < n := by rw [← hn]; exact (List.getElem?_eq_some_iff.1 hk).1
      have := hno k hkn
      rw [List.getD_eq_getElem?_getD, hk] at this
      exact absurd hc2 (by rw [show (some c).getD [] = c from rfl] at this; rw [this]; decide))
  have HI : Hid (∀ k, k < n → ((tx (Y.getD k [])).toList == s.toList) = true → isB s Y = true) := Lib.hid (fun k hk he => by
    unfold isB
    rw [List.any_eq_true]
    refine ⟨Y.getD k [], ?_, he⟩
    rw [List.getD_eq_getElem?_getD, List.getElem?_eq_getElem (by rw [hn]; exact hk)]
    exact List.getElem_mem _)
  clear hN hX hsplit hY hn h hb0
  go_enter Tryz.func19, Tryz.ntmps19
  go_wp2_with (go_at_call 36; (with_reducible refine H.out.mono ?_); rintro e w1 ⟨v, rfl, ho, hb1⟩; obtain ⟨a, cap, rfl⟩ := own_shape ho)
  obtain ⟨g, ha, _, hgs, _, _⟩ := own_cells ho (by omega)
  subst ha
  go_loopw [6] (fun iv wr => ∃ k : Nat, iv = .int .i64 k ∧ k ≤ n ∧ Hid (∀ j, j < k → ((tx (Y.getD j [])).toList == s.toList) = false) ∧ wr.ownsRow w.heap.size 9 1 (.slice (some ⟨g, 0, none⟩) N cap) N X ∧ Below w.heap.size w wr) (fun iv _ => n + 1 - (intOf iv).toNat)
  case atStart => exact ⟨0, rfl, Nat.zero_le _, Lib.hid (fun j hj => by omega), ho, hb1⟩
  case round =>
    obtain ⟨k, rfl, hk, hno, hr, hb⟩ := hrel
    have HR := Lib.hid hr
    by_cases hlt : k < n
    · have k0 : (0 : Int) ≤ k := by omega
      have k1 : (k : Int) < N := by omega
      have k2 : (k : Int) < n := by omega
      have hg := HG.out k hlt
      obtain ⟨c, hc'⟩ : ∃ c, tx (Y.getD k []) = c := ⟨_, rfl⟩
      have HNK := Lib.hid (fun (he : (c.toList == s.toList) = false) (j : Nat) (hj : j < k + 1) => show ((tx (Y.getD j [])).toList == s.toList) = false by
        by_cases e : j = k
        · rw [e, hc']; exact he
        · exact hno.out j (by omega))
      have HIK := Lib.hid (fun (he : (c.toList == s.toList) = true) => HI.out k hlt (by rw [hc']; exact he))
      rw [hc'] at hg
      have HGK := Lib.hid hg
      clear hg hc' hno hr
      cases hq : (c.toList == s.toList) with
      | true =>
        go_wp2_with (go_at_call 37; (with_reducible refine (HU.out _ (hL.next hb)).mono ?_); rintro e w2 ⟨rfl, hb2⟩; have hr2 := own_later HR.out hb2; have hcell := (hr2.cellAt k (by omega)).trans HGK.out; have hb3 := hb.trans (hb2.mono hb.size); clear hb2)
        go_ret
        exact ⟨by rw [HIK.out hq]; first | done | rfl, hb3⟩
      | false =>
        go_wp2_with (go_at_call 37; (with_reducible refine (HU.out _ (hL.next hb)).mono ?_); rintro e w2 ⟨rfl, hb2⟩; have hr2 := own_later HR.out hb2; have hcell := (hr2.cellAt k (by omega)).trans HGK.out; have hb3 := hb.trans (hb2.mono hb.size); clear hb2)
        go_roundw
        case rel => exact ⟨k + 1, by go_num, by omega, Lib.hid (HNK.out hq), hr2, hb3⟩
        case measure => simp [intOf]; omega
    · obtain rfl : k = n := by omega
      have k2 : ¬ (k : Int) < k := by omega
      go_wp2_with (go_at_call 37; (with_reducible refine (HU.out _ (hL.next hb)).mono ?_); rintro e w2 ⟨rfl, hb2⟩; have hb3 := hb.trans (hb2.mono hb.size); clear hb2)
      go_ret
      exact ⟨by rw [HD.out hno.out]; first | done | rfl, hb3⟩

end Go.Proofs.YteelmjmiankflaaGreatDoor.Cal
