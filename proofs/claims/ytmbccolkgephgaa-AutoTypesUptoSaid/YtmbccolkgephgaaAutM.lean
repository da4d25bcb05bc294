/-
  Maps of the model as functions, whatever their keys and elements; the automaton's memory. Of no function.
-/
import Derived.Test.YtmbccolkgephgaaAutBfs
import Derived.Test.YtmbccolkgephgaaRomG
import Derived.Test.YtmbccolkgephgaaRomU
set_option linter.unusedVariables false
set_option linter.unusedSimpArgs false
set_option maxRecDepth 100000
namespace Go.Proofs.Ytmbccolkgephgaa.Aut
open Go Go.RowKit Go.Proofs.Ytmbccolkgephgaa.Kit Go.Proofs.Ytmbccolkgephgaa.Utf Go.Proofs.Ytmbccolkgephgaa.Rom Go.Maps Go.ChangeMaps Go.WideMaps

/-- An element as it stands. -/
def heldR (v : Value) : Option (DataW Value × List MemPlace) := some (.held v, [])

section
variable {κ : Type} {kt : TypeId} {ek : κ → Value}

/-- Block b is a map of at most n entries that holds f. -/
def MapF (kt : TypeId) (ek : κ → Value) (w : World) (b n : Nat) (f : κ → Option Value) : Prop :=
  ∃ D : DataW Value, w.ownsMap Try.prog kt heldR b n D ∧ ∀ x l, keyOf Try.prog kt (ek x) = some l → Maps.has D l = (f x).isSome ∧ ∀ z, D.atKey l (.held z) = .held ((f x).getD z)

theorem MapF.made (w : World) : MapF kt ek (w.alloc (.map #[] 0)) w.heap.size 0 (fun _ => none) :=
  ⟨.map [], World.ownsMap_made _ _ _ _, fun x l h => ⟨rfl, fun z => by simp [DataW.atKey]⟩⟩
theorem MapF.lt {w : World} {b n : Nat} {f : κ → Option Value} (h : MapF kt ek w b n f) : b < w.heap.size := let ⟨_, h, _⟩ := h; h.lt
theorem MapF.kept {w w' : World} {b n : Nat} {f : κ → Option Value} {row : Option Nat} (h : MapF kt ek w b n f) (hg : w.grownBy w' row) (hne : some b ≠ row) : MapF kt ek w' b n f := by
  obtain ⟨D, h1, h2⟩ := h
  exact ⟨D, h1.kept hg hne, h2⟩
theorem MapF.alloc {w : World} {b n : Nat} {f : κ → Option Value} (h : MapF kt ek w b n f) (o : Obj) : MapF kt ek (w.alloc o) b n f := h.kept (World.grownBy_alloc w o none) (by simp)
theorem MapF.block {w w' : World} {b n : Nat} {f : κ → Option Value} (h : MapF kt ek w b n f) (hb : w'.heap[b]? = w.heap[b]?) : MapF kt ek w' b n f := by
  obtain ⟨D, ⟨es, clock, h1, h2, h3, h4⟩, h5⟩ := h
  exact ⟨D, ⟨es, clock, by rw [hb]; exact h1, h2, h3, h4⟩, h5⟩
theorem MapF.later {w w' : World} {b n B : Nat} {f : κ → Option Value} (h : MapF kt ek w b n f) (hb : Below B w w') (hB : b < B) : MapF kt ek w' b n f := h.block (hb.block b hB)
theorem MapF.is_map {w : World} {b n : Nat} {f : κ → Option Value} (h : MapF kt ek w b n f) : ∃ es c, w.heap[b]? = some (.map es c) := by
  obtain ⟨D, ⟨es, clock, h1, _⟩, _⟩ := h
  exact ⟨es, clock, h1⟩
theorem MapF.mono {w : World} {b n m : Nat} {f : κ → Option Value} (h : MapF kt ek w b n f) (hm : n ≤ m) : MapF kt ek w b m f := by
  obtain ⟨D, h1, h2⟩ := h
  exact ⟨D, h1.mono hm, h2⟩
theorem MapF.ext {w : World} {b n : Nat} {f g : κ → Option Value} (h : MapF kt ek w b n f) (hfg : ∀ x, (keyOf Try.prog kt (ek x)).isSome = true → f x = g x) : MapF kt ek w b n g := by
  obtain ⟨D, h1, h2⟩ := h
  exact ⟨D, h1, fun x l hl => by rw [← hfg x (by rw [hl]; rfl)]; exact h2 x l hl⟩

theorem MapF.get {w : World} {b n : Nat} {f : κ → Option Value} (h : MapF kt ek w b n f) (K : Keyed Try.prog kt) {t e : TypeId} (ht : Try.prog.underlying t = some (.map kt e)) {z : Value} (hz : (zeroValue e).run Try.prog w = .ok z w) {x : κ} {l : Lit} (hk : keyOf Try.prog kt (ek x) = some l) :
    (Instr.lookup t (.map (some b)) (ek x) false).run Try.prog w = .ok ((f x).getD z) w := by
  obtain ⟨D, h1, h2⟩ := h
  obtain ⟨v, ps, hrun, hv⟩ := h1.lookup K ht hz (show heldR z = some (.held z, []) from rfl) hk
  rw [(h2 x l hk).2 z] at hv
  unfold heldR at hv
  simp only [Option.some.injEq, Prod.mk.injEq, DataW.held.injEq] at hv
  rw [hrun, hv.1]
theorem MapF.look {w : World} {b n : Nat} {f : κ → Option Value} (h : MapF kt ek w b n f) (K : Keyed Try.prog kt) {t e : TypeId} (ht : Try.prog.underlying t = some (.map kt e)) {z : Value} (hz : (zeroValue e).run Try.prog w = .ok z w) {x : κ} {l : Lit} (hk : keyOf Try.prog kt (ek x) = some l) :
    (Instr.lookup t (.map (some b)) (ek x) true).run Try.prog w = .ok (.tuple #[(f x).getD z, .bool (f x).isSome]) w := by
  obtain ⟨D, h1, h2⟩ := h
  obtain ⟨v, ps, hrun, hv⟩ := h1.look_ok K ht hz (show heldR z = some (.held z, []) from rfl) hk
  rw [(h2 x l hk).2 z] at hv
  unfold heldR at hv
  simp only [Option.some.injEq, Prod.mk.injEq, DataW.held.injEq] at hv
  rw [hrun, hv.1, (h2 x l hk).1]
def upd [DecidableEq κ] (f : κ → Option Value) (x : κ) (v : Value) : κ → Option Value := fun y => if y = x then some v else f y
theorem MapF.put [DecidableEq κ] {w : World} {b n : Nat} {f : κ → Option Value} (h : MapF kt ek w b n f) (K : Keyed Try.prog kt) (hinj : ∀ x y, ek x = ek y → x = y) {t e : TypeId} (ht : Try.prog.underlying t = some (.map kt e)) (hn : n < maxLen) {x : κ} {l : Lit} (hk : keyOf Try.prog kt (ek x) = some l) (v : Value) :
    ∃ w', (Instr.mapUpdate t (.map (some b)) (ek x) v).run Try.prog w = .ok () w' ∧ MapF kt ek w' b (n + 1) (upd f x v) ∧ w.grownBy w' (some b) := by
  obtain ⟨D, h1, h2⟩ := h
  obtain ⟨w', hrun, hown, hg⟩ := h1.update K ht hn hk (show heldR v = some (.held v, []) from rfl)
  refine ⟨w', hrun, ⟨_, hown, fun y l' hy => ?_⟩, hg⟩
  have hT := h1.tidy K
  unfold upd
  by_cases e1 : y = x
  · subst e1
    rw [hk] at hy; cases hy
    rw [if_pos rfl]
    exact ⟨by rw [has_put_same hT.isMap (K.key hk)]; rfl, fun z => by rw [atKey_put_same hT.isMap (K.key hk)]; rfl⟩
  · have e2 : l' ≠ l := fun e => e1 (hinj _ _ (K.inj (e ▸ hy) hk))
    rw [if_neg e1]
    exact ⟨by rw [has_put_other e2]; exact (h2 y l' hy).1, fun z => by rw [atKey_put_other e2]; exact (h2 y l' hy).2 z⟩
end

/-! ### strings as keys -/
def eS (s : ByteArray) : Value := .string s
theorem eS_inj : ∀ x y, eS x = eS y → x = y := fun x y h => by injection h
theorem key_str {s : ByteArray} (h : s.size ≤ maxLen) : keyOf Try.prog 9 (eS s) = some (.string s.data.toList) := Go.WideMaps.keyOf_string_mk Try.underlying9 h

/-! ### the automaton -/
def rulesF (rs : List Rule) (x : ByteArray) : Option Value := if (findL rs x).2 then some (ragg (findL rs x).1) else none
def longF (rs : List Rule) (x : ByteArray) : Option Value := if longL rs x && decide (x.size ≠ 0) then some (.bool true) else none
/-- Block a is an automaton of the rules; it and its maps lie below B. -/
def AutoAt (B : Nat) (w : World) (a : Nat) (rs : List Rule) : Prop :=
  ∃ br bl n m, w.heap[a]? = some (.cells #[.map (some br), .map (some bl)] 55 (0, 0)) ∧ a < B ∧ br < B ∧ bl < B ∧ MapF 9 eS w br n (rulesF rs) ∧ MapF 9 eS w bl m (longF rs)
theorem AutoAt.later {B : Nat} {w w' : World} {a : Nat} {rs : List Rule} (h : AutoAt B w a rs) {B' : Nat} (hb : Below B' w w') (hB : B ≤ B') : AutoAt B w' a rs := by
  obtain ⟨br, bl, n, m, h1, h2, h3, h4, h5, h6⟩ := h
  exact ⟨br, bl, n, m, by rw [hb.block a (by omega)]; exact h1, h2, h3, h4, h5.later hb (by omega), h6.later hb (by omega)⟩
theorem AutoAt.mono {B B' : Nat} {w : World} {a : Nat} {rs : List Rule} (h : AutoAt B w a rs) (hB : B ≤ B') : AutoAt B' w a rs := by
  obtain ⟨br, bl, n, m, h1, h2, h3, h4, h5, h6⟩ := h
  exact ⟨br, bl, n, m, h1, by omega, by omega, by omega, h5, h6⟩
theorem zeroRule (w : World) : (zeroValue 32).run Try.prog w = .ok (ragg noRule) w := by kernel_rfl
/-- What the walk asks of an automaton: of this world, and of later ones. -/
theorem AutoAt.use {B : Nat} {w : World} {a : Nat} {rs : List Rule} (h : AutoAt B w a rs) : ∃ br bl, w.cell? ⟨a, 0, none⟩ = some (.map (some br)) ∧ w.cell? ⟨a, 1, none⟩ = some (.map (some bl)) ∧ a < B ∧
    Hid (∀ x : ByteArray, x.size ≤ maxLen → ∀ W, Below B w W → (Instr.lookup 52 (.map (some br)) (.string x) true).run Try.prog W = .ok (.tuple #[ragg (if (findL rs x).2 then (findL rs x).1 else noRule), .bool (findL rs x).2]) W) ∧
    Hid (∀ x : ByteArray, x.size ≤ maxLen → x.size ≠ 0 → ∀ W, Below B w W → (Instr.lookup 53 (.map (some bl)) (.string x) false).run Try.prog W = .ok (.bool (longL rs x)) W) := by
  obtain ⟨br, bl, n, m, h1, h2, h3, h4, h5, h6⟩ := h
  refine ⟨br, bl, by rw [cell_of_row w _ 0 _ _ _ h1]; rfl, by rw [cell_of_row w _ 1 _ _ _ h1]; rfl, h2, Lib.hid fun x hx W hW => ?_, Lib.hid fun x hx h0 W hW => ?_⟩
  · have := (h5.later hW h3).look law_str Try.underlying52 (zeroRule W) (key_str hx)
    unfold eS at this
    rw [this]
    unfold rulesF
    cases (findL rs x).2 <;> rfl
  · have := (h6.later hW h4).get law_str Try.underlying53 (zeroBool W) (key_str hx)
    unfold eS at this
    rw [this]
    unfold longF
    rw [decide_eq_true h0, Bool.and_true]
    cases longL rs x <;> rfl

theorem heap_two (w : World) (a b : Obj) : ((w.alloc a).alloc b).heap[w.heap.size]? = some a ∧ ((w.alloc a).alloc b).heap[w.heap.size + 1]? = some b := by
  refine ⟨?_, ?_⟩
  · have h := (Below.refl (w.heap.size + 1) (w.alloc a)).alloc (by simp) b
    rw [h.block w.heap.size (by omega)]
    exact heap_alloc_new w a
  · have h := heap_alloc_new (w.alloc a) b
    rw [World.size_alloc] at h
    exact h

end Go.Proofs.Ytmbccolkgephgaa.Aut
