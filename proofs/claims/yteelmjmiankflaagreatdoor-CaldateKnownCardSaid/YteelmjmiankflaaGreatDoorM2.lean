/-
  Joined texts: Kit, UtfS, Kit2, NumS, CalA, CalB, CalC, CalD.
-/
import Derived.WalkKit
import Derived.ProofKit
import Derived.Handy
import Derived.WalkLawsBesides
import Derived.WalkSpells
import Derived.WalkSmall
import Derived.Lib.Hide
import Derived.Lib.Strings
import Derived.Laws.Cover4
import Derived.Lib.OthersKept
import Derived.Deep.QuietTactic
import Derived.BigQuiet
import Derived.Laws.AppendOwnNone
import Derived.Lib.AppendStr
import Derived.Outline
import Derived.Test.YteelmjmiankflaaGreatDoorM1
import Derived.Shelf.Strings.BuilderK
import Derived.Test.YteelmjmiankflaaGreatDoorRows
set_option linter.unusedVariables false
set_option linter.unusedSimpArgs false
namespace Go.Proofs.YteelmjmiankflaaGreatDoor.Kit
open Go Go.RowKit

/-- The slice v reads as the values xs, each of one cell. -/
def Reads (w : World) (v : Value) (xs : List Value) : Prop :=
  ∃ a len cap, v = .slice a len cap ∧ len = xs.length ∧ len ≤ cap ∧ cap ≤ maxLen ∧
    ((a = none ∧ len = 0 ∧ cap = 0) ∨ (∃ x, a = some x ∧ len = 0) ∨ ∃ b off, a = some ⟨b, off, none⟩ ∧ b < w.heap.size ∧ ∀ i x, xs[i]? = some x → w.cell? ⟨b, off + i, none⟩ = some x)

theorem Reads.later {w w' : World} {v : Value} {xs : List Value} (h : Reads w v xs) (hb : Below w.heap.size w w') : Reads w' v xs := by
  obtain ⟨a, len, cap, rfl, hl, hc, hm, h⟩ := h
  refine ⟨a, len, cap, rfl, hl, hc, hm, ?_⟩
  rcases h with h | h | ⟨b, off, rfl, hlt, hx⟩
  · exact .inl h
  · exact .inr (.inl h)
  · exact .inr (.inr ⟨b, off, rfl, Nat.lt_of_lt_of_le hlt hb.size, fun i x hi => by rw [hb.cell (p := ⟨b, off + i, none⟩) hlt]; exact hx i x hi⟩)

theorem Reads.drewN {w : World} {v : Value} {xs : List Value} (h : Reads w v xs) (n : Nat) : Reads (w.drewN n) v xs := h

theorem own_lt {w : World} {base : Nat} {e : TypeId} {v : Value} {n : Nat} {xs : List Value} (h : w.ownsRow base e 1 v n xs) : xs.length = n := by have := h.1; omega

theorem own_reads {w : World} {base : Nat} {e : TypeId} {v : Value} {n : Nat} {xs : List Value} (h : w.ownsRow base e 1 v n xs) : Reads w v xs := by
  have hn := own_lt h
  rcases h.2 with ⟨rfl, h0⟩ | ⟨g, cap, cur, rfl, hb, hg, hnc, hcm, hcs, htake⟩
  · exact ⟨none, 0, 0, rfl, by omega, Nat.le_refl _, by simp [maxLen], .inl ⟨rfl, rfl, rfl⟩⟩
  · refine ⟨_, n, cap, rfl, hn.symm, hnc, hcm, .inr (.inr ⟨g, 0, rfl, (Array.getElem?_eq_some_iff.1 hg).1, fun i x hi => ?_⟩)⟩
    rw [Nat.zero_add]
    rw [cell_of_row w g i cur e (0, 0) hg]
    rw [← htake, List.getElem?_take] at hi
    split at hi
    · simpa using hi
    · cases hi

theorem Reads.len {w : World} {a : Option Addr} {n cap : Nat} {xs : List Value} (h : Reads w (.slice a n cap) xs) : n = xs.length ∧ n ≤ cap ∧ cap ≤ maxLen := by
  obtain ⟨a, len, cap, e, h1, h2, h3, _⟩ := h
  cases e
  exact ⟨h1, h2, h3⟩

/-- A slice of a slice, 'x[i:j]', as the walk spells it: where i is not the capacity, and where it is. -/
theorem reads_cut {w : World} {a : Option Addr} {n cap i j : Nat} {xs : List Value} (h : Reads w (.slice a n cap) xs) (hij : i ≤ j) (hj : j ≤ n) :
    Reads w (.slice (a.map (fun x => x.add i)) (j - i) (cap - i)) ((xs.take j).drop i) := by
  obtain ⟨a, len, cap, e, h1, h2, h3, hx⟩ := h
  cases e
  refine ⟨_, _, _, rfl, by simp; omega, by omega, by omega, ?_⟩
  rcases hx with ⟨rfl, rfl, rfl⟩ | ⟨x, rfl, h0⟩ | ⟨b, off, rfl, hlt, hx⟩
  · exact .inl ⟨rfl, by omega, by omega⟩
  · exact .inr (.inl ⟨_, rfl, by omega⟩)
  · refine .inr (.inr ⟨b, off + i, by simp [Addr.add_lit], hlt, fun k x hk => ?_⟩)
    rw [List.getElem?_drop, List.getElem?_take] at hk
    split at hk
    · have := hx (i + k) x hk
      rwa [← Nat.add_assoc] at this
    · cases hk
theorem reads_cut_end {w : World} {a : Option Addr} {n cap i j : Nat} {xs : List Value} (h : Reads w (.slice a n cap) xs) (hij : i ≤ j) (hj : j ≤ n) (hc : cap ≤ i) :
    Reads w (.slice a (j - i) 0) ((xs.take j).drop i) := by
  obtain ⟨a, len, cap, e, h1, h2, h3, hx⟩ := h
  cases e
  have e1 : (xs.take j).drop i = [] := List.drop_of_length_le (by simp; omega)
  refine ⟨_, _, _, rfl, by rw [e1]; simp; omega, by omega, by omega, ?_⟩
  rcases hx with ⟨rfl, rfl, rfl⟩ | ⟨x, rfl, h0⟩ | ⟨b, off, rfl, hlt, hx⟩
  · exact .inl ⟨rfl, by omega, rfl⟩
  · exact .inr (.inl ⟨_, rfl, by omega⟩)
  · exact .inr (.inr ⟨b, off, rfl, hlt, fun k x hk => by rw [e1] at hk; cases hk⟩)

/-- An owned row stays owned in a later world that keeps what lay there. -/
theorem own_later {w w' : World} {base : Nat} {e : TypeId} {size : Nat} {v : Value} {n : Nat} {xs : List Value} (h : w.ownsRow base e size v n xs) (hb : Below w.heap.size w w') : w'.ownsRow base e size v n xs := by
  refine ⟨h.1, ?_⟩
  rcases h.2 with hn | ⟨g, cap, cur, rfl, hbg, hgg, rest⟩
  · exact .inl hn
  · refine .inr ⟨g, cap, cur, rfl, hbg, ?_, rest⟩
    rw [hb.block g (Array.getElem?_eq_some_iff.1 hgg).1]
    exact hgg

theorem own_base {w : World} {base base' : Nat} {e : TypeId} {size : Nat} {v : Value} {n : Nat} {xs : List Value} (h : w.ownsRow base e size v n xs) (hb : base' ≤ base) : w.ownsRow base' e size v n xs := by
  refine ⟨h.1, ?_⟩
  rcases h.2 with hn | ⟨g, cap, cur, rfl, hbg, rest⟩
  · exact .inl hn
  · exact .inr ⟨g, cap, cur, rfl, by omega, rest⟩

/-- A string's iterator that is moved on leaves an owned row owned. -/
theorem own_iterAt {w : World} {B e size n : Nat} {v : Value} {xs : List Value} {k : Nat} {s : ByteArray} {pos : Nat} (h : w.ownsRow B e size v n xs) (hk : w.heap[k]? = some (.stringIter s pos)) (pos' : Nat) : (w.iterAt k s pos').ownsRow B e size v n xs := by
  refine ⟨h.1, ?_⟩
  rcases h.2 with h0 | ⟨g, cap, cur, hv, hb, hg, rest⟩
  · exact .inl h0
  · refine .inr ⟨g, cap, cur, hv, hb, ?_, rest⟩
    rw [Lib.iterAt_other _ _ _ _ _ (fun e => by subst e; rw [hk] at hg; cases hg)]
    exact hg

theorem iter_grown {w w' : World} {B e size n : Nat} {v : Value} {xs : List Value} {k : Nat} {s : ByteArray} {pos : Nat} (hown : w.ownsRow B e size v n xs) (hk : w.heap[k]? = some (.stringIter s pos)) (hg : w.grownBy w' v.ownBlock) : w'.heap[k]? = some (.stringIter s pos) := by
  rw [hg.block k (Array.getElem?_eq_some_iff.1 hk).1 ?_]
  · exact hk
  · intro e1
    rcases hown.2 with ⟨rfl, _⟩ | ⟨g, cap, cur, rfl, hb, hgg, rest⟩
    · simp [Value.ownBlock] at e1
    · simp [Value.ownBlock] at e1
      subst e1
      rw [hk] at hgg
      cases hgg

theorem iter_alloc {w : World} {k : Nat} {s : ByteArray} {pos : Nat} (hk : w.heap[k]? = some (.stringIter s pos)) (o : Obj) : (w.alloc o).heap[k]? = some (.stringIter s pos) := by
  rw [Below.heap_alloc w o k (Array.getElem?_eq_some_iff.1 hk).1]; exact hk

/-- Behind an append to a row of the call's own. -/
theorem below_own {B : Nat} {a w w' : World} {base : Nat} {e : TypeId} {size : Nat} {v : Value} {n : Nat} {xs : List Value} (h : Below B a w) (hown : w.ownsRow base e size v n xs) (hB : B ≤ base) (hB2 : B ≤ w.heap.size) (hg : w.grownBy w' v.ownBlock) : Below B a w' :=
  h.grown hg hB2 (fun k hk => by have := hown.lt k hk; omega)

/-- Bytes as cells. -/
def u8s (l : List UInt8) : List Value := l.map fun b => Value.int .u8 b.toNat
theorem strCells_u8s (s : ByteArray) : Lib.strCells s = u8s s.data.toList := rfl
theorem u8s_len (l : List UInt8) : (u8s l).length = l.length := by simp [u8s]
theorem u8s_append (a b : List UInt8) : u8s (a ++ b) = u8s a ++ u8s b := by simp [u8s]
theorem u8s_oneCell (l : List UInt8) : ∀ u ∈ u8s l, u.oneCell' = true := by
  intro u hu
  simp only [u8s, List.mem_map] at hu
  obtain ⟨b, _, rfl⟩ := hu
  rfl

/-- A block of one cell that the call has just laid is a row of its own. -/
theorem own_one (w : World) (x : Value) (e : TypeId) (base : Nat) (hb : base ≤ w.heap.size) : (w.alloc (.cells #[x] e)).ownsRow base e 1 (.slice (some ⟨w.heap.size, 0, none⟩) 1 1) 1 [x] :=
  ⟨rfl, .inr ⟨w.heap.size, 1, #[x], rfl, hb, heap_alloc_new w _, Nat.le_refl _, by simp [maxLen], rfl, by simp⟩⟩

theorem own_one_at (w : World) (x : Value) (e : TypeId) (base B : Nat) (hB : B = w.heap.size) (hb : base ≤ w.heap.size) : (w.alloc (.cells #[x] e)).ownsRow base e 1 (.slice (some ⟨B, 0, none⟩) 1 1) 1 [x] := by
  subst hB; exact own_one w x e base hb

theorem foldl_push (l : List UInt8) : ∀ r : ByteArray, (((l.map fun b => (b.toNat : Int)).foldl (fun r n => r.push (UInt8.ofNat n.toNat)) r)).data.toList = r.data.toList ++ l := by
  induction l with
  | nil => intro r; simp
  | cons b l ih =>
    intro r
    simp only [List.map_cons, List.foldl_cons]
    rw [ih]
    simp
theorem ba_ext {a b : ByteArray} (h : a.data.toList = b.data.toList) : a = b := by
  have h2 := Array.toList_inj.1 h
  cases a; cases b
  simp only at h2
  rw [h2]

/-- A row of bytes that the call owns, made a string. -/
theorem conv_bytes {P : Program} {w : World} {base : Nat} {v : Value} {n : Nat} {l : List UInt8} {src dst e : TypeId} (h : w.ownsRow base e 1 v n (u8s l))
    (hs : P.underlying src = some (.slice e)) (he : P.underlying e = some (.int .u8)) (hd : P.underlying dst = some .string) :
    (convert src dst v).run P w = .ok (.string ⟨l.toArray⟩) w := by
  have hn := own_lt h
  rw [u8s_len] at hn
  rcases h.2 with ⟨rfl, h0⟩ | ⟨g, cap, cur, rfl, hb, hg, hnc, hcm, hcs, htake⟩
  · have : l = [] := List.eq_nil_of_length_eq_zero (by omega)
    subst this
    rw [run_convert_bytes_string w src dst e _ _ _ hs he hd]
    rfl
  · rw [run_convert_bytes_string w src dst e _ _ _ hs he hd]
    rw [run_bytesToString w ⟨g, 0, none⟩ n cap (l.map fun b => (b.toNat : Int))]
    · congr 2
      apply ba_ext
      rw [foldl_push]
      simp
    · have hx := run_loadCells_list (P := P) (w := w) ⟨g, 0, none⟩ (u8s l) (h.cells (g := g) rfl)
      rw [u8s_len, hn] at hx
      rw [hx]
      simp [u8s]

theorem reads_lit (w : World) (xs : Array Value) (e : TypeId) (B n : Nat) (hB : B = w.heap.size) (hn : n = xs.size) (hm : n ≤ maxLen) : Reads (w.alloc (.cells xs e)) (.slice (some ⟨B, 0, none⟩) n n) xs.toList := by
  subst hB
  refine ⟨_, n, n, rfl, by rw [hn]; simp, Nat.le_refl _, hm, .inr (.inr ⟨w.heap.size, 0, rfl, by simp, fun i x hi => ?_⟩)⟩
  rw [World.cell?_alloc_at _ _ _ _ rfl]
  rw [Nat.zero_add]
  rw [← Array.getElem?_toList]; exact hi

/-- What the frame of a row tells of a slice of integers that came in: nil, or a row of 'cap' cells, of which the first 'len' are its elements. -/
def IsRow (k : IntKind) (w : World) (a : Option Addr) (len cap : Nat) (zs : List Int) : Prop :=
  (a = none ∧ len = 0 ∧ cap = 0 ∧ zs = []) ∨
  ∃ x, a = some x ∧ len ≤ cap ∧ cap ≤ maxLen ∧ zs.length = cap ∧ (∀ i, i < zs.length → w.cell? (x.add i) = some (.int k (zs.getD i 0))) ∧ ∀ n ∈ zs, (Lit.int k n).wf = true

theorem IsRow.reads {k : IntKind} {w : World} {a : Option Addr} {len cap : Nat} {zs : List Int} (h : IsRow k w a len cap zs) : Reads w (.slice a len cap) ((zs.take len).map (Value.int k)) := by
  rcases h with ⟨rfl, rfl, rfl, rfl⟩ | ⟨x, rfl, hl, hm, hz, hcell, hwf⟩
  · exact ⟨none, 0, 0, rfl, rfl, Nat.le_refl _, Nat.zero_le _, .inl ⟨rfl, rfl, rfl⟩⟩
  · refine ⟨_, len, cap, rfl, by simp; omega, hl, hm, ?_⟩
    by_cases h0 : len = 0
    · exact .inr (.inl ⟨x, rfl, h0⟩)
    · obtain ⟨b, off, spot⟩ := x
      have h1 := hcell 0 (by omega)
      have hspot : spot = none := by simpa [Addr.add] using World.cell?_spot h1
      subst hspot
      refine .inr (.inr ⟨b, off, rfl, World.block_lt_of_cell? w _ h1, fun i y hi => ?_⟩)
      rw [List.getElem?_map, List.getElem?_take] at hi
      split at hi
      · rename_i hil
        have h2 := hcell i (by omega)
        rw [Addr.add_lit] at h2
        rw [List.getElem?_eq_getElem (by omega)] at hi
        simp only [Option.map_some, Option.some.injEq] at hi
        rw [h2, ← hi, List.getD_eq_getElem?_getD, List.getElem?_eq_getElem (by omega)]; rfl
      · cases hi

theorem map_cast_len {α : Type} (f : α → Value) (l : List α) : (l.map f).length = l.length := by simp

theorem ret_int {k : IntKind} {a b : Int} (h : a = b) : Ending.returned (.int k a) = .returned (.int k b) := by rw [h]
theorem ret_bool {a b : Bool} (h : a = b) : Ending.returned (.bool a) = .returned (.bool b) := by rw [h]
theorem ret_string {a b : ByteArray} (h : a = b) : Ending.returned (.string a) = .returned (.string b) := by rw [h]

end Go.Proofs.YteelmjmiankflaaGreatDoor.Kit

set_option linter.unusedVariables false
set_option linter.unusedSimpArgs false
namespace Go.Proofs.YteelmjmiankflaaGreatDoor.Utf
open Go Go.RowKit Go.Proofs.YteelmjmiankflaaGreatDoor.Kit

/-- The bytes of a string. -/
abbrev bs (s : ByteArray) : List UInt8 := s.data.toList
theorem bs_len (s : ByteArray) : (bs s).length = s.size := by rw [Array.length_toList]; rfl
theorem drop_ne {s : ByteArray} {pos : Nat} (hp : pos < s.size) : (bs s).drop pos ≠ [] := by
  intro e; have := congrArg List.length e; rw [List.length_drop, bs_len] at this; simp at this; omega
theorem dec_bad {s : ByteArray} {pos : Nat} (hp : pos < s.size) (h : dec1 ((bs s).drop pos) = none) : Utf8.decode s pos = (65533, 1) := by
  rw [decode_eq s pos (by omega)]
  unfold dec1 at h
  rw [if_neg (drop_ne hp)] at h
  split at h
  · assumption
  · cases h
theorem dec_good {s : ByteArray} {pos : Nat} {c : Int} {n : Nat} (hp : pos < s.size) (h : dec1 ((bs s).drop pos) = some (c, n)) : Utf8.decode s pos = (c.toNat, n) := by
  rw [decode_eq s pos (by omega)]
  obtain ⟨hv, hn, hl⟩ := dec1_some h
  rw [hl, decL_enc c hv, hn]

theorem map_nil (o : Option (List Int)) : o = o.map ([] ++ ·) := by cases o <;> rfl
theorem runes_len {s : ByteArray} {pre : List Int} {pos : Nat} {c : Int} {n : Nat} (hc : chars (bs s) = (chars ((bs s).drop pos)).map (pre ++ ·)) (hd : dec1 ((bs s).drop pos) = some (c, n)) :
    chars (bs s) = (chars ((bs s).drop (pos + n))).map ((pre ++ [c]) ++ ·) := by
  rw [hc, chars_step hd, List.drop_drop]
  cases chars ((bs s).drop (pos + n)) <;> simp

end Go.Proofs.YteelmjmiankflaaGreatDoor.Utf

set_option linter.unusedVariables false
set_option linter.unusedSimpArgs false
namespace Go.Proofs.YteelmjmiankflaaGreatDoor.Kit
open Go Go.RowKit

theorem IsRow.news {k : IntKind} {w w' : World} {x : Addr} {len cap : Nat} {zs : List Int} (h : IsRow k w (some x) len cap zs) (hb : Below w.heap.size w w') :
    ∀ j u, ((zs.take len).map (Value.int k))[j]? = some u → w'.cell? (x.add j) = some u := by
  rcases h with ⟨h, _⟩ | ⟨y, hy, hl, hm, hz, hcell, hwf⟩
  · cases h
  · obtain rfl := Option.some.inj hy
    intro j u hu
    rw [List.getElem?_map, List.getElem?_take] at hu
    split at hu
    · rename_i hj
      have hjz : j < zs.length := by omega
      have h2 := hcell j hjz
      rw [List.getElem?_eq_getElem hjz] at hu
      simp only [Option.map_some, Option.some.injEq] at hu
      rw [hb.cell (World.block_lt_of_cell? w _ h2), h2, ← hu, List.getD_eq_getElem?_getD, List.getElem?_eq_getElem hjz]; rfl
    · cases hu

theorem IsRow.len {k : IntKind} {w : World} {a : Option Addr} {len cap : Nat} {zs : List Int} (h : IsRow k w a len cap zs) : len ≤ cap ∧ cap ≤ maxLen ∧ zs.length = cap := by
  rcases h with ⟨rfl, rfl, rfl, rfl⟩ | ⟨y, hy, hl, hm, hz, hcell, hwf⟩
  · exact ⟨Nat.le_refl _, Nat.zero_le _, rfl⟩
  · exact ⟨hl, hm, hz⟩

theorem IsRow.wf {k : IntKind} {w : World} {a : Option Addr} {len cap : Nat} {zs : List Int} (h : IsRow k w a len cap zs) : ∀ n ∈ zs, (Lit.int k n).wf = true := by
  rcases h with ⟨rfl, rfl, rfl, rfl⟩ | ⟨y, hy, hl, hm, hz, hcell, hwf⟩
  · intro n hn; cases hn
  · exact hwf

/-- An empty block that the call has just laid is a row of its own. -/
theorem own_empty (w : World) (e : TypeId) (base B size : Nat) (hB : B = w.heap.size) (hb : base ≤ w.heap.size) : (w.alloc (.cells #[] e)).ownsRow base e size (.slice (some ⟨B, 0, none⟩) 0 0) 0 [] := by
  subst hB
  exact World.ownsRow_made w #[] 0 hb (Nat.zero_le _) (by simp)

theorem ints_oneCell (k : IntKind) (l : List Int) : ∀ u ∈ l.map (Value.int k), u.oneCell' = true := by
  intro u hu
  obtain ⟨n, _, rfl⟩ := List.mem_map.1 hu
  rfl

/-- wpList_append_own at an operation that has a guard which says yes. -/
theorem wpList_append_own_g {P : Program} (w : World) {ops : Array Oper} {rest : List Oper} {o : Oper} {a : Act} {Q : Exit → Act → World → Prop} (hw : Region.wanted o (yielded ops a.tmps) = true) (s x : Operand) (t : TypeId)
    (ho : o.op = .call { callee := .builtin .append, args := #[s, x], argTypes := #[t, t] })
    (base : Nat) (e : TypeId) (i : TypeInfo) (z : Value) (size bytes : Nat) (ht : P.underlying t = some (.slice e)) (hi : P.info? e = some i) (hz : i.zero = some z)
    (hsize : i.size = size) (hby : i.bytes = bytes) (hzs : z.cells.size = size) (hsz : 0 < size)
    (v : Value) (n : Nat) (xs : List Value) (hs : a.eval s = v) (hown : w.ownsRow base e size v n xs)
    (ad : Addr) (m c : Nat) (news : List Value) (hx : a.eval x = .slice (some ad) m c) (hl : news.length = m * size) (hnews : ∀ j u, news[j]? = some u → w.cell? (ad.add j) = some u) (h1 : ∀ u ∈ news, u.oneCell' = true)
    (h63 : n + m ≤ maxLen) (hbytes : (n + m) * bytes ≤ 140737488355328) (hbase : base ≤ w.heap.size)
    (h : ∀ v' w', w'.ownsRow base e size v' (n + m) (xs ++ news) → w.grownBy w' v.ownBlock → (v' = .slice none 0 0 ↔ v = .slice none 0 0 ∧ m = 0) → wpList P ops Q rest (a.put o.dst v') w') : wpList P ops Q (o :: rest) a w :=
  wpList_step fun K hK => by rw [if_pos hw]; exact wp_append_own w s x t ho base e i z size bytes ht hi hz hsize hby hzs hsz v n xs hs hown ad m c news hx hl hnews h1 h63 hbytes hbase fun v' w' h2 h3 h4 => hK _ _ (h v' w' h2 h3 h4)

end Go.Proofs.YteelmjmiankflaaGreatDoor.Kit

set_option linter.unusedVariables false
set_option linter.unusedSimpArgs false
namespace Go.Proofs.YteelmjmiankflaaGreatDoor.Num
open Go Go.RowKit Go.Proofs.YteelmjmiankflaaGreatDoor.Kit Go.Proofs.YteelmjmiankflaaGreatDoor.Utf

/-- The string of characters. -/
def tx (cs : List Int) : ByteArray := ⟨(encs cs).toArray⟩
theorem bs_tx (cs : List Int) : bs (tx cs) = encs cs := by simp [bs, tx]
theorem tx_nil : tx [] = { data := #[] } := rfl
theorem tx_append (a b : List Int) : tx a ++ tx b = tx (a ++ b) := by
  apply ba_ext
  show (tx a ++ tx b).data.toList = encs (a ++ b)
  rw [encs_append]
  simp [tx, ByteArray.data_append]
theorem tx_size (cs : List Int) : (tx cs).size = (encs cs).length := by rw [← bs_len, bs_tx]
theorem tx_cells (cs : List Int) : Lib.strCells (tx cs) = Lib.byteCells (encs cs) := by
  show (tx cs).data.toList.map _ = _
  have : (tx cs).data.toList = encs cs := bs_tx cs
  rw [this]; rfl
theorem tx_inj {a b : List Int} (ha : ∀ c ∈ a, validRune c = true) (hb : ∀ c ∈ b, validRune c = true) (h : tx a = tx b) : a = b := by
  have h1 : encs a = encs b := by rw [← bs_tx, ← bs_tx, h]
  have := chars_encs ha
  rw [h1, chars_encs hb] at this
  exact (Option.some.inj this).symm
theorem tx_eq_iff {a b : List Int} (ha : ∀ c ∈ a, validRune c = true) (hb : ∀ c ∈ b, validRune c = true) : tx a = tx b ↔ a = b := ⟨tx_inj ha hb, fun h => by rw [h]⟩
theorem byteCells_append (a b : List UInt8) : Lib.byteCells (a ++ b) = Lib.byteCells a ++ Lib.byteCells b := by simp [Lib.byteCells]

/-- The string of digits. -/
def dg (ds : List Nat) : ByteArray := ⟨(ds.map fun d => UInt8.ofNat (48 + d)).toArray⟩
theorem bs_dg (ds : List Nat) : bs (dg ds) = ds.map fun d => UInt8.ofNat (48 + d) := by simp [bs, dg]
theorem dg_size (ds : List Nat) : (dg ds).size = ds.length := by rw [← bs_len, bs_dg]; simp
theorem dg_enc (d : Nat) (h : d ≤ 9) : enc (48 + (d : Int)) = [UInt8.ofNat (48 + d)] := by
  have : ∀ d : Nat, d ≤ 9 → enc (48 + (d : Int)) = [UInt8.ofNat (48 + d)] := by decide
  exact this d h
theorem dg_tx (ds : List Nat) (h : ∀ d ∈ ds, d ≤ 9) : dg ds = tx (ascC ds) := by
  apply ba_ext
  show bs (dg ds) = bs (tx (ascC ds))
  rw [bs_dg, bs_tx, ascC_map]
  induction ds with
  | nil => rfl
  | cons d ds ih =>
    rw [List.map_cons, List.map_cons, encs_cons, dg_enc d (h d (by simp)), ih (fun x hx => h x (by simp [hx]))]; rfl

/-- Whether a string is decimal digits, and which. -/
def isDec (s : ByteArray) : Bool := decide (1 ≤ (bs s).length) && decide ((bs s).length ≤ 20) && (decide ((bs s).length = 1) || decide ((bs s).head? ≠ some 48)) && (bs s).all fun b => decide (48 ≤ b.toNat ∧ b.toNat ≤ 57)
def ofDg (s : ByteArray) : List Nat := (bs s).map fun b => b.toNat - 48
theorem ofDg_dg (ds : List Nat) (h : ∀ d ∈ ds, d ≤ 9) : ofDg (dg ds) = ds := by
  unfold ofDg
  rw [bs_dg, List.map_map]
  conv => rhs; rw [← List.map_id ds]
  apply List.map_congr_left
  intro d hd
  have := h d hd
  show (UInt8.ofNat (48 + d)).toNat - 48 = d
  rw [toNat_ofNat _ (by omega)]; omega
theorem isDec_iff (s : ByteArray) : isDec s = true ↔ DS (ofDg s) ∧ s = dg (ofDg s) := by
  unfold isDec DS
  simp only [Bool.and_eq_true, Bool.or_eq_true, decide_eq_true_eq, List.all_eq_true]
  have hlen : (ofDg s).length = (bs s).length := by simp [ofDg]
  constructor
  · rintro ⟨⟨⟨h1, h20⟩, h0⟩, hall⟩
    have es : s = dg (ofDg s) := by
      apply ba_ext
      show bs s = bs (dg (ofDg s))
      rw [bs_dg]
      unfold ofDg
      rw [List.map_map]
      conv => lhs; rw [← List.map_id (bs s)]
      apply List.map_congr_left
      intro b hb
      have := hall b hb
      show b = UInt8.ofNat (48 + (b.toNat - 48))
      rw [show 48 + (b.toNat - 48) = b.toNat by omega]
      simp
    refine ⟨⟨by omega, by omega, ?_, ?_⟩, es⟩
    · intro d hd
      unfold ofDg at hd
      obtain ⟨b, hb, rfl⟩ := List.mem_map.1 hd
      have := hall b hb; omega
    · intro hh
      cases hb : bs s with
      | nil => rw [hb] at h1; simp at h1
      | cons b t =>
        have hbm := hall b (by rw [hb]; simp)
        have e1 : ofDg s = (b.toNat - 48) :: t.map fun b => b.toNat - 48 := by unfold ofDg; rw [hb]; rfl
        rw [e1] at hh ⊢
        simp at hh
        have e2 : b.toNat = 48 := by omega
        have e3 : b = 48 := by apply UInt8.toNat_inj.1; rw [e2]; rfl
        rw [hb] at h0
        rcases h0 with h0 | h0
        · have : t = [] := by cases t with
            | nil => rfl
            | cons => simp at h0
          subst this
          simp [e2]
        · exact absurd (by rw [e3]; rfl) h0
  · rintro ⟨⟨h1, h20, h9, h0⟩, es⟩
    refine ⟨⟨⟨by rw [← hlen]; exact h1, by rw [← hlen]; exact h20⟩, ?_⟩, ?_⟩
    · by_cases hl : (bs s).length = 1
      · exact .inl hl
      · right
        intro hh
        have e1 : (ofDg s).head? = some 0 := by
          unfold ofDg
          rw [List.head?_map, hh]; rfl
        have := h0 e1
        exact hl (by rw [← hlen, this]; rfl)
    · intro b hb
      rw [es, bs_dg] at hb
      obtain ⟨d, hd, rfl⟩ := List.mem_map.1 hb
      have := h9 d hd
      rw [toNat_ofNat _ (by omega)]; omega
theorem isDec_dg {ds : List Nat} (h : DS ds) : isDec (dg ds) = true := by
  rw [isDec_iff, ofDg_dg ds h.2.2.1]; exact ⟨h, rfl⟩

/-! ### What a range over any string meets -/
theorem decode_big {s : ByteArray} {pos : Nat} (hp : pos < s.size) (h : 128 ≤ (s[pos]'hp).toNat) : 128 ≤ (Utf8.decode s pos).1 := by
  have e0 : (bs s).drop pos = (s[pos]'hp) :: (bs s).drop (pos + 1) := by
    rw [List.drop_eq_getElem_cons (by rw [bs_len]; exact hp)]
    rfl
  cases hd : dec1 ((bs s).drop pos) with
  | none => rw [dec_bad hp hd]; decide
  | some p =>
    obtain ⟨c, n⟩ := p
    rw [dec_good hp hd]
    obtain ⟨hv, hn, hl⟩ := dec1_some hd
    have hvv := (valid_iff c).1 hv
    show 128 ≤ c.toNat
    rcases enc_forms c hv with ⟨h1, e⟩ | ⟨h1, _, e⟩ | ⟨h1, _, e⟩ | ⟨h1, _, e⟩
    · rw [hl, e] at e0
      have := List.cons.inj e0
      have h2 := congrArg UInt8.toNat this.1
      rw [toNat_ofNat _ (by omega)] at h2
      omega
    · omega
    · omega
    · omega

/-! ### Builders beside other work -/
theorem builder_kept {T e : TypeId} {B b : Nat} {bs : List Value} {w w' : World} (h : Lib.IsBuilderF T e B b bs w) (hk : ∀ k, B ≤ k → k < w.heap.size → w'.heap[k]? = w.heap[k]?) : Lib.IsBuilderF T e B b bs w' := by
  have one : ∀ p, Lib.BuilderAtF T e B b p bs w → Lib.BuilderAtF T e B b p bs w' := by
    rintro p ⟨hB, v, hb, hown, hne⟩
    refine ⟨hB, v, ?_, ⟨hown.1, ?_⟩, hne⟩
    · rw [hk b hB (Array.getElem?_eq_some_iff.1 hb).1]; exact hb
    · rcases hown.2 with hn | ⟨g, cap, cur, fz, hv, hbg, hg, rest⟩
      · exact .inl hn
      · exact .inr ⟨g, cap, cur, fz, hv, hbg, by rw [hk g hbg (Array.getElem?_eq_some_iff.1 hg).1]; exact hg, rest⟩
  exact h.elim (fun x => .inl (one _ x)) (fun x => .inr (one _ x))

/-- A builder that has just been made. -/
theorem builder_new (T e : TypeId) (w : World) (b : Nat) (hb : b = w.heap.size) : Lib.IsBuilderF T e b b [] (w.alloc (.cells #[.pointer none, .slice none 0 0] T)) := by
  subst hb
  exact .inl ⟨Nat.le_refl _, .slice none 0 0, (by show (w.heap.push _)[w.heap.size]? = _; simp), World.ownsRowF_nil _ _ _ _, by simp [Value.ownBlock]⟩

end Go.Proofs.YteelmjmiankflaaGreatDoor.Num

set_option linter.unusedVariables false
set_option linter.unusedSimpArgs false
namespace Go.Proofs.YteelmjmiankflaaGreatDoor.Cal
open Go Go.RowKit Go.Proofs.YteelmjmiankflaaGreatDoor.Kit Go.Proofs.YteelmjmiankflaaGreatDoor.Utf
open Go.Proofs.YteelmjmiankflaaGreatDoor.Num (tx)

/-- The weekdays' characters. -/
def wdC (d : Nat) : Int := [26085, 26376, 28779, 27700, 26408, 37329, 22303].getD d 0

/-- The tables of caldate that every law lists. -/
structure CLaid (w : World) : Prop where
  size : 3 ≤ w.heap.size
  md : ∀ m : Nat, m < 12 → w.cell? ⟨2, m, none⟩ = some (.int .i64 (mlen (m + 1)))
  wd : ∀ d : Nat, d < 7 → w.cell? ⟨1, d, none⟩ = some (.string (tx [wdC d]))

theorem CLaid.below {B : Nat} {w w' : World} (h : CLaid w) (hb : Below B w w') (hB : 3 ≤ B) : CLaid w' := by
  have c : ∀ g i, g < 3 → w'.cell? ⟨g, i, none⟩ = w.cell? ⟨g, i, none⟩ := fun g i hg => hb.cell (p := ⟨g, i, none⟩) (show g < B by omega)
  refine ⟨Nat.le_trans h.size hb.size, fun m hm => ?_, fun d hd => ?_⟩ <;> rw [c _ _ (by decide)]
  · exact h.md m hm
  · exact h.wd d hd
theorem CLaid.next {w w' : World} (h : CLaid w) (hb : Below w.heap.size w w') : CLaid w' := h.below hb h.size

theorem daysThrough_at (y : Int) (h0 : 0 ≤ y) (h : y ≤ 9999) (w : World) :
    Calls Tryz.prog 25 #[.int .i64 y] w fun e w' => e = .returned (.int .i64 (DT y)) ∧ w' = w := by
  have e4 : y.tdiv 4 = y / 4 := Int.tdiv_eq_ediv_of_nonneg h0
  have e100 : y.tdiv 100 = y / 100 := Int.tdiv_eq_ediv_of_nonneg h0
  have e400 : y.tdiv 400 = y / 400 := Int.tdiv_eq_ediv_of_nonneg h0
  go_enter Tryz.func25, Tryz.ntmps25
  go_wp2
  go_ret
  exact ⟨by unfold DT; rfl, rfl⟩

theorem daysIn_at (y m : Int) (h1 : 1 ≤ y) (h2 : y ≤ 9999) (h3 : 1 ≤ m) (h4 : m ≤ 12) (w : World) (hL : CLaid w) :
    Calls Tryz.prog 24 #[.int .i64 y, .int .i64 m] w fun e w' => e = .returned (.int .i64 (len y m)) ∧ ∃ n, w' = w.drewN n := by
  have hc := hL.md (m - 1).toNat (by omega)
  rw [show ((m - 1).toNat : Int) + 1 = m by omega] at hc
  by_cases hm : m = 2
  · subst hm
    have hc' : w.cell? ⟨2, 1, none⟩ = some (.int .i64 28) := hc
    clear hc
    have b1 := DT_bounds (y := y) (by omega) h2
    have b2 := DT_bounds (y := y - 1) (by omega) (by omega)
    have e : 28 + DT y - DT (y - 1) - 365 = len y 2 := by have := DT_step y; unfold len; simp [mlen]; omega
    have c1 := daysThrough_at y (by omega) h2
    have c2 := daysThrough_at (y - 1) (by omega) (by omega)
    generalize DT y = A at *
    generalize DT (y - 1) = B at *
    have E := Lib.hid e
    clear e
    go_enter Tryz.func24, Tryz.ntmps24
    go_wp2_with (fail)

    go_quiet (first | (go_at_call 25; with_reducible refine Calls.quiet_of_same (c1 _)) | (go_at_call 25; with_reducible refine Calls.quiet_of_same (c2 _)))
    go_wp2
    go_ret
    exact ⟨by rw [← E.out]; rfl, nq, rfl⟩
  · have hn : (m == 2) = false := by simpa using hm
    have e : mlen m = len y m := by unfold len; rw [if_neg hm]; omega
    have E := Lib.hid e
    have hb := @mlen_bounds m
    generalize mlen m = L at *
    clear hm e
    rw [show (m - 1).toNat = m.toNat - 1 by omega] at hc
    have hx0 : 0 ≤ m - 1 := by omega
    have hx1 : m - 1 < 12 := by omega
    go_enter Tryz.func24, Tryz.ntmps24
    go_wp2
    go_ret
    exact ⟨by rw [← E.out]; rfl, by first | exact ⟨0, rfl⟩ | exact ⟨1, rfl⟩⟩

theorem below_drews {B : Nat} {w w' : World} (h : Below B w w') (n : Nat) : Below B w (w'.drewN n) := h.trans ⟨rfl, rfl, rfl, Nat.le_refl _, fun _ _ => rfl⟩
theorem CLaid.drews {w : World} (h : CLaid w) (n : Nat) : CLaid (w.drewN n) := ⟨h.size, h.md, h.wd⟩

/-- The number of a day that exists. -/
theorem day_is (y m d : Int) (h : Valid y m d) (w : World) (hL : CLaid w) :
    Calls Tryz.prog 10 #[.int .i64 y, .int .i64 m, .int .i64 d] w fun e w' => e = .returned (.tuple #[.int .i64 (num y m d), .bool true]) ∧ Below w.heap.size w w' := by
  have hr := h.range
  obtain ⟨h1, h2, h3, h4, h5, h6⟩ := h
  have c0 := fun W (hW : CLaid W) => daysIn_at y m h1 h2 h3 h4 W hW
  have c1 := fun (k : Int) (hk1 : 1 ≤ k) (hk2 : k ≤ 12) W (hW : CLaid W) => daysIn_at y k h1 h2 hk1 hk2 W hW
  have c2 := daysThrough_at (y - 1) (by omega) (by omega)
  have b2 := DT_bounds (y := y - 1) (by omega) (by omega)
  have b3 := fun (k : Int) (h : 1 ≤ k) (h' : k ≤ 13) => bef_bounds y h h'
  have hlp := lp_01 y
  have hB := bef_one y
  have hS := fun (k : Int) (h : 1 ≤ k) (h' : k ≤ 12) => bef_step y h h'
  have hlb := fun k => len_bounds y k
  unfold num at hr ⊢
  generalize hA : DT (y - 1) = A at *
  generalize hl : len y m = l at *
  have LL := len_bounds y m
  rw [hl] at LL
  have t1 : decide (y < 1) = false := by simp; omega
  have t2 : decide (9999 < y) = false := by simp; omega
  have t3 : decide (m < 1) = false := by simp; omega
  have t4 : decide (12 < m) = false := by simp; omega
  have t5 : decide (d < 1) = false := by simp; omega
  have t6 : decide (l < d) = false := by simp; omega
  rw [show A + bef y m + d = A + d + bef y m by omega]
  go_enter Tryz.func10, Tryz.ntmps10
  go_wp2_with (first
    | (go_at_call 24; (with_reducible refine (c0 _ hL).mono ?_); rintro e w1 ⟨rfl, n, rfl⟩)
    | (go_at_call 25; (with_reducible refine (c2 _).mono ?_); rintro e w1 ⟨rfl, rfl⟩))
  go_loopw [8, 9] (fun D b wr => ∃ k : Int, b = .int .i64 k ∧ 1 ≤ k ∧ k ≤ m ∧ D = .int .i64 (A + d + bef y k) ∧ ∃ q, wr = w.drewN q) (fun _ b _ => (m - intOf b).toNat)
  case atStart => exact ⟨1, rfl, Int.le_refl _, h3, by rw [hB, Int.add_zero], n, rfl⟩
  case round =>
    obtain ⟨k, rfl, hk1, hkm, rfl, q, rfl⟩ := hrel
    have hb := b3 k hk1 (by omega)
    by_cases hlt : k < m
    · have hs := Lib.hid (hS k hk1 (by omega))
      have hl2 := hlb k
      have cc := c1 k hk1 (by omega)
      generalize bef y k = b at *
      generalize len y k = l2 at *
      go_wp2_with (go_at_call 24; (with_reducible refine (cc _ (hL.drews _)).mono ?_); rintro e w1 ⟨rfl, n1, rfl⟩)
      go_roundw
      case rel => exact ⟨k + 1, rfl, by omega, by omega, by rw [hs.out, Int.add_assoc], q + n1, rfl⟩
      case measure => simp [intOf]; omega
    · obtain rfl : k = m := by omega
      go_wp2
      go_ret2
      exact ⟨rfl, below_drews (Below.refl _ w) q⟩

/-- There is no such day. -/
theorem day_not (y m d : Int) (h : ¬ Valid y m d) (w : World) (hL : CLaid w) :
    Calls Tryz.prog 10 #[.int .i64 y, .int .i64 m, .int .i64 d] w fun e w' => e = .returned (.tuple #[.int .i64 0, .bool false]) ∧ Below w.heap.size w w' := by
  by_cases h1 : y < 1
  · clear h
    go_enter Tryz.func10, Tryz.ntmps10
    go_wp2
    go_ret2
    exact ⟨rfl, Below.refl _ _⟩
  by_cases h2 : 9999 < y
  · clear h
    go_enter Tryz.func10, Tryz.ntmps10
    go_wp2
    go_ret2
    exact ⟨rfl, Below.refl _ _⟩
  by_cases h3 : m < 1
  · clear h
    go_enter Tryz.func10, Tryz.ntmps10
    go_wp2
    go_ret2
    exact ⟨rfl, Below.refl _ _⟩
  by_cases h4 : 12 < m
  · clear h
    go_enter Tryz.func10, Tryz.ntmps10
    go_wp2
    go_ret2
    exact ⟨rfl, Below.refl _ _⟩
  by_cases h5 : d < 1
  · clear h
    go_enter Tryz.func10, Tryz.ntmps10
    go_wp2
    go_ret2
    exact ⟨rfl, Below.refl _ _⟩
  have h6 : len y m < d := by
    by_cases h6 : len y m < d
    · exact h6
    · exact absurd ⟨by omega, by omega, by omega, by omega, by omega, by omega⟩ h
  have c0 := fun W (hW : CLaid W) => daysIn_at y m (by omega) (by omega) (by omega) (by omega) W hW
  have hl := len_bounds y m
  generalize len y m = l at *
  clear h
  go_enter Tryz.func10, Tryz.ntmps10
  go_wp2_with (go_at_call 24; (with_reducible refine (c0 _ hL).mono ?_); rintro e w1 ⟨rfl, n, rfl⟩)
  go_ret2
  exact ⟨rfl, below_drews (Below.refl _ _) n⟩

end Go.Proofs.YteelmjmiankflaaGreatDoor.Cal

set_option linter.unusedVariables false
set_option linter.unusedSimpArgs false
namespace Go.Proofs.YteelmjmiankflaaGreatDoor.Cal
open Go Go.RowKit Go.Proofs.YteelmjmiankflaaGreatDoor.Kit Go.Proofs.YteelmjmiankflaaGreatDoor.Utf
open Go.Proofs.YteelmjmiankflaaGreatDoor.Num (tx)

theorem exists_yes (day : Int) (h1 : 1 ≤ day) (h2 : day ≤ 3652059) (w : World) :
    Calls Tryz.prog 38 #[.int .i64 day] w fun e w' => e = .returned (.bool true) ∧ w' = w := by
  have t1 : decide ((1 : Int) ≤ day) = true := by simpa using h1
  have t2 : decide (day ≤ 3652059) = true := by simpa using h2
  clear h1 h2
  go_enter Tryz.func38, Tryz.ntmps38
  go_wp2
  go_ret
  exact ⟨rfl, rfl⟩
theorem exists_no (day : Int) (h : ¬ (1 ≤ day ∧ day ≤ 3652059)) (w : World) :
    Calls Tryz.prog 38 #[.int .i64 day] w fun e w' => e = .returned (.bool false) ∧ w' = w := by
  by_cases h1 : 1 ≤ day
  · have t1 : decide ((1 : Int) ≤ day) = true := by simpa using h1
    have t2 : decide (day ≤ 3652059) = false := by simp; omega
    clear h1 h
    go_enter Tryz.func38, Tryz.ntmps38
    go_wp2
    go_ret
    exact ⟨rfl, rfl⟩
  · have t1 : decide ((1 : Int) ≤ day) = false := by simpa using h1
    clear h1 h
    go_enter Tryz.func38, Tryz.ntmps38
    go_wp2
    go_ret
    exact ⟨rfl, rfl⟩

/-- What is searched for: whether the year i or one before it has the day. -/
theorem date1 (day i : Int) (h0 : 0 ≤ i) (hi : i ≤ 9999) (c : Nat) (w : World) (hc : w.cell? ⟨c, 0, none⟩ = some (.int .i64 day)) (b : Bool) (hb : decide (day ≤ DT i) = b) :
    Calls Tryz.prog 40 #[.int .i64 i, .pointer (some ⟨c, 0, none⟩)] w fun e w' => e = .returned (.bool b) ∧ ∃ n, w' = w.drewN n := by
  have c1 := daysThrough_at i h0 hi
  have HB := Lib.hid hb
  generalize DT i = A at *
  clear hb
  go_enter Tryz.func40, Tryz.ntmps40
  go_wp2_with (fail)
  go_quiet (first | (go_at_call 25; with_reducible refine Calls.quiet_of_same (c1 _)))
  go_wp2
  go_ret
  exact ⟨by rw [← HB.out]; rfl, nq, rfl⟩

theorem search_at (day y : Int) (h1 : 1 ≤ y) (h2 : y ≤ 9999) (h3 : DT (y - 1) < day) (h4 : day ≤ DT y) (c : Nat) (w : World) (hc : w.cell? ⟨c, 0, none⟩ = some (.int .i64 day)) :
    Calls Tryz.prog 39 #[.int .i64 9999, .func (.func 40) #[] #[.pointer (some ⟨c, 0, none⟩)]] w fun e w' => e = .returned (.int .i64 y) ∧ ∃ n, w' = w.drewN n := by
  have eg : ∀ args w, (callFunc 40 args).run Tryz.prog w = .ok (.enter 40 args) w := fun _ _ => by kernel_rfl
  have HF := Lib.hid (fun (i : Int) (h0 : 0 ≤ i) (hi : i ≤ 9999) (n : Nat) => date1 day i h0 hi c (w.drewN n) hc (decide (y ≤ i)) (by
    by_cases h : y ≤ i
    · have := DT_mono h; simp [h]; omega
    · have := DT_mono (show i ≤ y - 1 by omega); simp [h]; omega))
  clear h3 h4 hc
  go_enter Tryz.func39, Tryz.ntmps39
  go_wp2
  go_loopw [5, 6] (fun s5 s6 wr => ∃ (lo hi : Int) (q : Nat), s5 = .int .i64 lo ∧ s6 = .int .i64 hi ∧ 0 ≤ lo ∧ lo ≤ y ∧ y ≤ hi ∧ hi ≤ 9999 ∧ wr = w.drewN q) (fun s5 s6 _ => (intOf s6 - intOf s5).toNat)
  case atStart => exact ⟨0, 9999, 0, rfl, rfl, by omega, by omega, by omega, by omega, rfl⟩
  case round =>
    obtain ⟨lo, hi, q, rfl, rfl, hlo, hly, hyh, hh, rfl⟩ := hrel
    by_cases hlt : lo < hi
    · obtain ⟨h, hh2⟩ : ∃ h, h = (lo + hi) / 2 := ⟨_, rfl⟩
      have cc := HF.out h (by omega) (by omega) q
      by_cases hp : y ≤ h
      · rw [show decide (y ≤ h) = true by simpa using hp] at cc
        rw [hh2] at cc
        go_wp2_with (go_at_fn 40; refine cc.mono ?_; rintro e w' ⟨rfl, n, rfl⟩)
        go_roundw
        case rel => exact ⟨lo, (lo + hi) / 2, q + n, rfl, rfl, hlo, hly, by omega, by omega, rfl⟩
        case measure => simp [intOf]; omega
      · rw [show decide (y ≤ h) = false by simpa using hp] at cc
        rw [hh2] at cc
        go_wp2_with (go_at_fn 40; refine cc.mono ?_; rintro e w' ⟨rfl, n, rfl⟩)
        go_roundw
        case rel => exact ⟨(lo + hi) / 2 + 1, hi, q + n, rfl, rfl, by omega, by omega, hyh, hh, rfl⟩
        case measure => simp [intOf]; omega
    · obtain rfl : lo = y := by omega
      go_wp2
      go_ret
      exact ⟨rfl, q, rfl⟩

end Go.Proofs.YteelmjmiankflaaGreatDoor.Cal

set_option linter.unusedVariables false
set_option linter.unusedSimpArgs false
namespace Go.Proofs.YteelmjmiankflaaGreatDoor.Cal
open Go Go.RowKit Go.Proofs.YteelmjmiankflaaGreatDoor.Kit Go.Proofs.YteelmjmiankflaaGreatDoor.Utf
open Go.Proofs.YteelmjmiankflaaGreatDoor.Num (tx)

theorem cell_box (w : World) (v : Value) (t : TypeId) (n : Nat) : ((w.alloc (.cells #[v] t)).drewN n).cell? ⟨w.heap.size, 0, none⟩ = some v := by
  show (w.alloc (.cells #[v] t)).cell? ⟨w.heap.size, 0, none⟩ = some v
  rw [World.cell?_alloc_at _ _ _ _ rfl]; rfl

theorem results_tmp4 {fn : Func} {t u v x : Tmp} (h : fn.results = #[.tmp t, .tmp u, .tmp v, .tmp x]) (tmps : Array Value) (P : Program) (w : World) :
    (results fn tmps).run P w = .ok (.tuple #[tmps.getD t undef, tmps.getD u undef, tmps.getD v undef, tmps.getD x undef]) w := by
  simp [results, h]

/-- The date of a day that exists. -/
theorem date_is (day y m d : Int) (h : IsDate day y m d) (w : World) (hL : CLaid w) :
    Calls Tryz.prog 20 #[.int .i64 day] w fun e w' => e = .returned (.tuple #[.int .i64 y, .int .i64 m, .int .i64 d, .bool true]) ∧ Below w.heap.size w w' := by
  have hr := h.range
  have hy := h.1.in_year
  rw [← h.2] at hy
  obtain ⟨⟨h1, h2, h3, h4, h5, h6⟩, e0⟩ := h
  have e1 : day - DT (y - 1) = bef y m + d := by unfold num at e0; omega
  clear e0
  have HE := Lib.hid (exists_yes day hr.1 hr.2)
  have b2 := DT_bounds (y := y - 1) (by omega) (by omega)
  have HS := Lib.hid (search_at day y h1 h2 hy.1 hy.2)
  have HT := Lib.hid (daysThrough_at (y - 1) (by omega) (by omega))
  have HI := Lib.hid (fun (k : Int) (hk1 : 1 ≤ k) (hk2 : k ≤ 12) W (hW : CLaid W) => daysIn_at y k h1 h2 hk1 hk2 W hW)
  have HB := Lib.hid (bef_one y)
  have HM := Lib.hid (fun (a b : Int) (x1 : 1 ≤ a) (x2 : a ≤ b) (x3 : b ≤ 13) => bef_mono y x1 x2 x3)
  have HP := Lib.hid (fun (k : Int) (x1 : 1 ≤ k) (x2 : k ≤ 12) => bef_step y x1 x2)
  have HN := Lib.hid (fun (k : Int) => len_bounds y k)
  have b3 := bef_bounds y h3 (by omega : m ≤ 13)
  have b4 := lp_01 y
  have H6 := Lib.hid h6
  have LL := len_bounds y m
  obtain ⟨A, hA⟩ : ∃ A, DT (y - 1) = A := ⟨_, rfl⟩
  rw [hA] at HT b2 e1
  have hd31 : d ≤ 31 := by omega
  clear hA hy h6 LL
  have hW1 : CLaid (w.alloc (.cells #[.int .i64 day] 3)) := hL.next ((Below.refl _ w).alloc (Nat.le_refl _) _)
  have hb1 : Below w.heap.size w (w.alloc (.cells #[.int .i64 day] 3)) := (Below.refl _ w).alloc (Nat.le_refl _) _
  have hc1 := fun n => cell_box w (.int .i64 day) 3 n
  obtain ⟨r1, r2⟩ := hr
  go_enter Tryz.func20, Tryz.ntmps20
  go_wp2_with (first
    | (go_at_call 38; (with_reducible refine (HE.out _).mono ?_); rintro e w1 ⟨rfl, rfl⟩)
    | (go_at_call 39; refine (HS.out _ _ (hc1 0)).mono ?_; rintro e w1 ⟨rfl, n, rfl⟩))
  have hc2 := hc1 n
  have hL2 := hW1.drews n
  have hb2 := below_drews hb1 n
  obtain ⟨W, hW⟩ : ∃ W, (w.alloc (.cells #[.int .i64 day] 3)).drewN n = W := ⟨_, rfl⟩
  rw [hW] at hc2 hL2 hb2 ⊢
  clear hW hc1 hW1 hb1 hL
  go_quiet (first | (go_at_call 25; with_reducible refine Calls.quiet_of_same (HT.out _)))
  clear hc2 r1 r2 e1
  go_wp2
  go_loopw [3, 4] (fun M D wr => ∃ (k : Int) (q : Nat), M = .int .i64 k ∧ D = .int .i64 (bef y m + d - bef y k) ∧ 1 ≤ k ∧ k ≤ m ∧ wr = W.drewN q) (fun M _ _ => (m - intOf M).toNat)
  case atStart => exact ⟨1, _, rfl, by rw [HB.out, Int.sub_zero], by omega, h3, rfl⟩
  case round =>
    obtain ⟨k, q, rfl, rfl, hk1, hkm, rfl⟩ := hrel
    have cc := HI.out k hk1 (by omega)
    have hl2 := HN.out k
    have b5 := bef_bounds y hk1 (by omega : k ≤ 13)
    by_cases hlt : k < m
    · have hs := HP.out k hk1 (by omega)
      have hm := HM.out (k + 1) m (by omega) (by omega) (by omega)
      have hg : len y k < bef y m + d - bef y k := by omega
      have HS2 := Lib.hid (show bef y m + d - bef y k - len y k = bef y m + d - bef y (k + 1) by omega)
      clear hs hm
      go_wp2_with (go_at_call 24; (with_reducible refine (cc _ (hL2.drews _)).mono ?_); rintro e w1 ⟨rfl, n1, rfl⟩)
      go_roundw
      case rel => exact ⟨k + 1, _, rfl, by rw [HS2.out], by omega, by omega, rfl⟩
      case measure => simp [intOf]; omega
    · obtain rfl : k = m := by omega
      have h7 := H6.out
      have hd : bef y k + d - bef y k = d := by omega
      rw [hd]
      clear hd
      go_wp2_with (go_at_call 24; (with_reducible refine (cc _ (hL2.drews _)).mono ?_); rintro e w1 ⟨rfl, n1, rfl⟩)
      (try simp only [Exit.inBlock, Exit.then]); refine bodyPost_ret (results_tmp4 rfl _ _ _) rfl ?_
      exact ⟨rfl, below_drews hb2 _⟩

theorem date_not (day : Int) (h : ¬ (1 ≤ day ∧ day ≤ 3652059)) (w : World) :
    Calls Tryz.prog 20 #[.int .i64 day] w fun e w' => e = .returned (.tuple #[.int .i64 0, .int .i64 0, .int .i64 0, .bool false]) ∧ Below w.heap.size w w' := by
  have HE := Lib.hid (exists_no day h)
  have hb1 : Below w.heap.size w (w.alloc (.cells #[.int .i64 day] 3)) := (Below.refl _ w).alloc (Nat.le_refl _) _
  have hc1 := cell_box w (.int .i64 day) 3 0
  clear h
  go_enter Tryz.func20, Tryz.ntmps20
  go_wp2_with (go_at_call 38; (with_reducible refine (HE.out _).mono ?_); rintro e w1 ⟨rfl, rfl⟩)
  (try simp only [Exit.inBlock, Exit.then]); refine bodyPost_ret (results_tmp4 rfl _ _ _) rfl ?_
  exact ⟨rfl, hb1⟩

theorem weekday_is (day : Int) (h1 : 1 ≤ day) (h2 : day ≤ 3652059) (w : World) (hL : CLaid w) :
    Calls Tryz.prog 21 #[.int .i64 day] w fun e w' => e = .returned (.tuple #[.string (tx [wdC (day % 7).toNat]), .bool true]) ∧ Below w.heap.size w w' := by
  have HE := Lib.hid (exists_yes day h1 h2)
  have hm : day.tmod 7 = day % 7 := Int.tmod_eq_emod_of_nonneg (by omega)
  have hc := hL.wd (day % 7).toNat (by omega)
  obtain ⟨r, hr⟩ : ∃ r, day % 7 = r := ⟨_, rfl⟩
  have x0 : 0 ≤ r := by omega
  have x1 : r < 7 := by omega
  rw [hr] at hm hc ⊢
  clear hr h1 h2
  go_enter Tryz.func21, Tryz.ntmps21
  go_wp2_with (go_at_call 38; (with_reducible refine (HE.out _).mono ?_); rintro e w1 ⟨rfl, rfl⟩)
  go_ret2
  exact ⟨rfl, by first | exact Below.refl _ _ | exact below_drews (Below.refl _ _) _⟩
theorem weekday_not (day : Int) (h : ¬ (1 ≤ day ∧ day ≤ 3652059)) (w : World) :
    Calls Tryz.prog 21 #[.int .i64 day] w fun e w' => e = .returned (.tuple #[.string { data := #[] }, .bool false]) ∧ Below w.heap.size w w' := by
  have HE := Lib.hid (exists_no day h)
  clear h
  go_enter Tryz.func21, Tryz.ntmps21
  go_wp2_with (go_at_call 38; (with_reducible refine (HE.out _).mono ?_); rintro e w1 ⟨rfl, rfl⟩)
  go_ret2
  exact ⟨rfl, Below.refl _ _⟩

end Go.Proofs.YteelmjmiankflaaGreatDoor.Cal

set_option linter.unusedVariables false
set_option linter.unusedSimpArgs false
namespace Go.Proofs.YteelmjmiankflaaGreatDoor.Cal
open Go Go.RowKit Go.Proofs.YteelmjmiankflaaGreatDoor.Kit Go.Proofs.YteelmjmiankflaaGreatDoor.Utf
open Go.Proofs.YteelmjmiankflaaGreatDoor.Num (tx)

theorem lp_test (y : Int) : (lp y == 1) = (y % 4 == 0 && (!(y % 100 == 0) || y % 400 == 0)) := by
  unfold lp
  by_cases h4 : y % 4 = 0
  · by_cases h100 : y % 100 = 0
    · by_cases h400 : y % 400 = 0
      · simp [h4, h100, h400]
      · simp [h4, h100, h400]
    · simp [h4, h100]
  · simp [h4]
theorem rleap_at (y : Int) (h0 : 0 ≤ y) (w : World) :
    Calls Tryz.prog 52 #[.int .i64 y] w fun e w' => e = .returned (.bool (lp y == 1)) ∧ w' = w := by
  have e4 : y.tmod 4 = y % 4 := Int.tmod_eq_emod_of_nonneg h0
  have e100 : y.tmod 100 = y % 100 := Int.tmod_eq_emod_of_nonneg h0
  have e400 : y.tmod 400 = y % 400 := Int.tmod_eq_emod_of_nonneg h0
  have hp := lp_test y
  have b1 : 0 ≤ y % 4 ∧ y % 4 < 4 := by omega
  have b2 : 0 ≤ y % 100 ∧ y % 100 < 100 := by omega
  have b3 : 0 ≤ y % 400 ∧ y % 400 < 400 := by omega
  obtain ⟨a, ha⟩ : ∃ a, y % 4 = a := ⟨_, rfl⟩
  obtain ⟨b, hb⟩ : ∃ b, y % 100 = b := ⟨_, rfl⟩
  obtain ⟨c, hc⟩ : ∃ c, y % 400 = c := ⟨_, rfl⟩
  rw [ha] at e4 hp b1
  rw [hb] at e100 hp b2
  rw [hc] at e400 hp b3
  clear ha hb hc
  have HP := Lib.hid hp
  clear hp
  cases t1 : (a == 0)
  · go_enter Tryz.func52, Tryz.ntmps52
    go_wp2
    go_ret
    exact ⟨by rw [HP.out, t1]; rfl, rfl⟩
  · cases t2 : (b == 0)
    · go_enter Tryz.func52, Tryz.ntmps52
      have t3 : (b != 0) = true := by simp [bne, t2]
      go_wp2
      go_ret
      exact ⟨by rw [HP.out, t1, t2]; rfl, rfl⟩
    · have t3 : (b != 0) = false := by simp [bne, t2]
      cases t4 : (c == 0)
      · go_enter Tryz.func52, Tryz.ntmps52
        go_wp2
        go_ret
        exact ⟨by rw [HP.out, t1, t2, t4]; rfl, rfl⟩
      · go_enter Tryz.func52, Tryz.ntmps52
        go_wp2
        go_ret
        exact ⟨by rw [HP.out, t1, t2, t4]; rfl, rfl⟩

theorem rlength_at (y m : Int) (h0 : 0 ≤ y) (h1 : 1 ≤ m) (h2 : m ≤ 12) (w : World) :
    Calls Tryz.prog 35 #[.int .i64 y, .int .i64 m] w fun e w' => e = .returned (.int .i64 (len y m)) ∧ w' = w := by
  by_cases hm : m = 2
  · subst hm
    have c := rleap_at y h0
    have hl := lp_01 y
    have e : len y 2 = 28 + lp y := by simp [len, mlen]
    rw [e]
    cases t : (lp y == 1)
    · rw [t] at c
      have e0 : lp y = 0 := by simp at t; omega
      rw [e0]
      clear e e0 t hl
      go_enter Tryz.func35, Tryz.ntmps35
      go_wp2_with (go_at_call 52; (with_reducible refine (c _).mono ?_); rintro e w1 ⟨rfl, rfl⟩)
      go_ret
      exact ⟨rfl, rfl⟩
    · rw [t] at c
      have e0 : lp y = 1 := by simpa using t
      rw [e0]
      clear e e0 t hl
      go_enter Tryz.func35, Tryz.ntmps35
      go_wp2_with (go_at_call 52; (with_reducible refine (c _).mono ?_); rintro e w1 ⟨rfl, rfl⟩)
      go_ret
      exact ⟨rfl, rfl⟩
  · have e : len y m = mlen m := by unfold len; rw [if_neg hm]; omega
    rw [e]
    clear e
    rcases months h1 h2 with rfl | rfl | rfl | rfl | rfl | rfl | rfl | rfl | rfl | rfl | rfl | rfl <;> first | (exact absurd rfl hm) | skip
    all_goals
      go_enter Tryz.func35, Tryz.ntmps35
      go_wp2
      go_ret
      exact ⟨rfl, rfl⟩

theorem rday_is (y m d : Int) (h : Valid y m d) (w : World) :
    Calls Tryz.prog 18 #[.int .i64 y, .int .i64 m, .int .i64 d] w fun e w' => e = .returned (.tuple #[.int .i64 (num y m d), .bool true]) ∧ w' = w := by
  have hr := h.range
  obtain ⟨h1, h2, h3, h4, h5, h6⟩ := h
  have HI := Lib.hid (fun (k : Int) (hk1 : 1 ≤ k) (hk2 : k ≤ 12) W => rlength_at y k (by omega) hk1 hk2 W)
  have b2 := DT_bounds (y := y - 1) (by omega) (by omega)
  have HB3 := Lib.hid (fun (k : Int) (h : 1 ≤ k) (h' : k ≤ 13) => bef_bounds y h h')
  have hlp := lp_01 y
  have HB := Lib.hid (bef_one y)
  have HS := Lib.hid (fun (k : Int) (h : 1 ≤ k) (h' : k ≤ 12) => bef_step y h h')
  have HN := Lib.hid (fun k => len_bounds y k)
  have e4 : (y - 1).tdiv 4 = (y - 1) / 4 := Int.tdiv_eq_ediv_of_nonneg (by omega)
  have e100 : (y - 1).tdiv 100 = (y - 1) / 100 := Int.tdiv_eq_ediv_of_nonneg (by omega)
  have e400 : (y - 1).tdiv 400 = (y - 1) / 400 := Int.tdiv_eq_ediv_of_nonneg (by omega)
  have LL := len_bounds y m
  have hd31 : d ≤ 31 := by omega
  have c0 := HI.out m h3 h4
  obtain ⟨z, hz⟩ : ∃ z, y - 1 = z := ⟨_, rfl⟩
  obtain ⟨A, hA⟩ : ∃ A, DT z = A := ⟨_, rfl⟩
  have eA : 365 * z + z / 4 - z / 100 + z / 400 = A := hA
  have hzz : 0 ≤ z ∧ z ≤ 9998 := by omega
  have hnum : num y m d = A + bef y m + d := by unfold num; rw [hz, hA]
  rw [hz] at e4 e100 e400 b2
  rw [hA] at b2
  rw [hnum] at hr ⊢
  clear hnum hA
  go_enter Tryz.func18, Tryz.ntmps18
  go_wp2_with (go_at_call 35; (with_reducible refine (c0 _).mono ?_); rintro e w1 ⟨rfl, rfl⟩)
  clear e4 e100 e400 eA c0
  go_loopw [8, 9] (fun D b wr => ∃ k : Int, b = .int .i64 k ∧ 1 ≤ k ∧ k ≤ m ∧ D = .int .i64 (A + bef y k) ∧ wr = w1) (fun _ b _ => (m - intOf b).toNat)
  case atStart => exact ⟨1, rfl, Int.le_refl _, h3, by rw [HB.out, Int.add_zero], rfl⟩
  case round =>
    obtain ⟨k, rfl, hk1, hkm, rfl, rfl⟩ := hrel
    have hb := HB3.out k hk1 (by omega)
    by_cases hlt : k < m
    · have hs := Lib.hid (HS.out k hk1 (by omega))
      have hl2 := HN.out k
      have cc := HI.out k hk1 (by omega)
      go_wp2_with (go_at_call 35; (with_reducible refine (cc _).mono ?_); rintro e w1 ⟨rfl, rfl⟩)
      go_roundw
      case rel => exact ⟨k + 1, rfl, by omega, by omega, by rw [hs.out, Int.add_assoc], trivial⟩
      case measure => simp [intOf]; omega
    · obtain rfl : k = m := by omega
      go_wp2
      go_ret2
      exact ⟨rfl, rfl⟩

theorem rday_not (y m d : Int) (h : ¬ Valid y m d) (w : World) :
    Calls Tryz.prog 18 #[.int .i64 y, .int .i64 m, .int .i64 d] w fun e w' => e = .returned (.tuple #[.int .i64 0, .bool false]) ∧ w' = w := by
  by_cases h1 : y < 1
  · clear h
    go_enter Tryz.func18, Tryz.ntmps18
    go_wp2
    go_ret2
    exact ⟨rfl, rfl⟩
  by_cases h2 : 9999 < y
  · clear h
    go_enter Tryz.func18, Tryz.ntmps18
    go_wp2
    go_ret2
    exact ⟨rfl, rfl⟩
  by_cases h3 : m < 1
  · clear h
    go_enter Tryz.func18, Tryz.ntmps18
    go_wp2
    go_ret2
    exact ⟨rfl, rfl⟩
  by_cases h4 : 12 < m
  · clear h
    go_enter Tryz.func18, Tryz.ntmps18
    go_wp2
    go_ret2
    exact ⟨rfl, rfl⟩
  by_cases h5 : d < 1
  · clear h
    go_enter Tryz.func18, Tryz.ntmps18
    go_wp2
    go_ret2
    exact ⟨rfl, rfl⟩
  have h6 : len y m < d := by
    by_cases h6 : len y m < d
    · exact h6
    · exact absurd ⟨by omega, by omega, by omega, by omega, by omega, by omega⟩ h
  have c0 := fun W => rlength_at y m (by omega) (by omega) (by omega) W
  have hl := len_bounds y m
  generalize len y m = l at *
  clear h
  go_enter Tryz.func18, Tryz.ntmps18
  go_wp2_with (go_at_call 35; (with_reducible refine (c0 _).mono ?_); rintro e w1 ⟨rfl, rfl⟩)
  go_ret2
  exact ⟨rfl, rfl⟩

end Go.Proofs.YteelmjmiankflaaGreatDoor.Cal
