/-
  Joined texts: CalS, CalT, CalU, CalV, NumF.
-/
import Derived.Test.YteelmjmiankflaaGreatDoorM5
import Derived.Deep.RegionLaw
import Derived.Deep.AppendLies
set_option linter.unusedVariables false
set_option linter.unusedSimpArgs false
namespace Go.Proofs.YteelmjmiankflaaGreatDoor.Cal
open Go Go.RowKit Go.Proofs.YteelmjmiankflaaGreatDoor.Kit Go.Proofs.YteelmjmiankflaaGreatDoor.Utf
open Go.Proofs.YteelmjmiankflaaGreatDoor.Num

theorem frow3 (W W' : World) (n1 k1 : Nat) (u1 : List Int) (n2 k2 : Nat) (u2 : List Int) (n3 k3 : Nat) (u3 : List Int) (t : TypeId) (g : Nat) (fz : Nat × Nat)
    (h : W'.heap[g]? = some (.cells #[.int .i64 n1, .int .i64 k1, .string (tx u1), .int .i64 n2, .int .i64 k2, .string (tx u2), .int .i64 n3, .int .i64 k3, .string (tx u3)] t fz)) :
    FRow g [(n1, k1, u1), (n2, k2, u2), (n3, k3, u3)] W' := by
  have hc : ∀ j, W'.cell? ⟨g, j, none⟩ = (#[Value.int .i64 n1, .int .i64 k1, .string (tx u1), .int .i64 n2, .int .i64 k2, .string (tx u2), .int .i64 n3, .int .i64 k3, .string (tx u3)] : Array Value)[j]? := fun j => cell_of_row W' g j _ t fz h
  intro i f hf j v hv
  rw [hc]
  match i, hf with
  | 0, hf =>
    obtain rfl := Option.some.inj hf
    match j, hv with
    | 0, hv => exact hv
    | 1, hv => exact hv
    | 2, hv => exact hv
    | j + 3, hv => cases hv
  | 1, hf =>
    obtain rfl := Option.some.inj hf
    match j, hv with
    | 0, hv => exact hv
    | 1, hv => exact hv
    | 2, hv => exact hv
    | j + 3, hv => cases hv
  | 2, hf =>
    obtain rfl := Option.some.inj hf
    match j, hv with
    | 0, hv => exact hv
    | 1, hv => exact hv
    | 2, hv => exact hv
    | j + 3, hv => cases hv
  | i + 3, hf => cases hf
theorem frow2 (W' : World) (n1 k1 : Nat) (u1 : List Int) (n2 k2 : Nat) (u2 : List Int) (t : TypeId) (g : Nat) (fz : Nat × Nat)
    (h : W'.heap[g]? = some (.cells #[.int .i64 n1, .int .i64 k1, .string (tx u1), .int .i64 n2, .int .i64 k2, .string (tx u2)] t fz)) :
    FRow g [(n1, k1, u1), (n2, k2, u2)] W' := by
  have hc : ∀ j, W'.cell? ⟨g, j, none⟩ = (#[Value.int .i64 n1, .int .i64 k1, .string (tx u1), .int .i64 n2, .int .i64 k2, .string (tx u2)] : Array Value)[j]? := fun j => cell_of_row W' g j _ t fz h
  intro i f hf j v hv
  rw [hc]
  match i, hf with
  | 0, hf =>
    obtain rfl := Option.some.inj hf
    match j, hv with
    | 0, hv => exact hv
    | 1, hv => exact hv
    | 2, hv => exact hv
    | j + 3, hv => cases hv
  | 1, hf =>
    obtain rfl := Option.some.inj hf
    match j, hv with
    | 0, hv => exact hv
    | 1, hv => exact hv
    | 2, hv => exact hv
    | j + 3, hv => cases hv
  | i + 2, hf => cases hf

theorem dec_len : ∀ n k u, n ≤ 9999 → k ≤ 4 → u ∈ unitL → (encs (decC n k u)).length ≤ 400 := by
  intro n k u hn hk hu
  unfold decC
  rw [encs_append, List.length_append, asc_len _ (pad_le k n)]
  have := pad_len hn hk
  have := unit_len u hu
  omega
theorem kan_len : ∀ n k u, n ≤ 9999 → k ≤ 4 → u ∈ unitL → (encs (kanC n k u)).length ≤ 400 := by
  intro n k u hn hk hu
  unfold kanC
  have h1 := size_kanji (digs_DS hn)
  rw [tx_size] at h1
  rw [encs_append, List.length_append]
  have := unit_len u hu
  omega
theorem era_len (out : Nat → Nat → List Int → List Int) (h : ∀ n k u, n ≤ 9999 → k ≤ 4 → u ∈ unitL → (encs (out n k u)).length ≤ 400) : ∀ n k u, n ≤ 9999 → k ≤ 4 → u ∈ unitL → (encs (eraC out n k u)).length ≤ 400 := by
  intro n k u hn hk hu
  unfold eraC
  split
  · decide
  · exact h n k u hn hk hu

/-- Numbers and digits of fields as the walk spells them. -/
def Three (n1 k1 : Nat) (u1 : List Int) (n2 k2 : Nat) (u2 : List Int) (n3 k3 : Nat) (u3 : List Int) : List Fld := [(n1, k1, u1), (n2, k2, u2), (n3, k3, u3)]

theorem join3_at {F : FuncId} {caps : Array Value} {out : Nat → Nat → List Int → List Int} {Inv : World → Prop} (hF : FieldFn F caps out Inv) (eF : ∀ args w, (callFunc F args).run Tryz.prog w = .ok (.enter F args) w)
    (hlen : ∀ n k u, n ≤ 9999 → k ≤ 4 → u ∈ unitL → (encs (out n k u)).length ≤ 400) (n1 k1 : Nat) (u1 : List Int) (n2 k2 : Nat) (u2 : List Int) (n3 k3 : Nat) (u3 : List Int) (h1 : FOk (n1, k1, u1)) (h2 : FOk (n2, k2, u2)) (h3 : FOk (n3, k3, u3))
    (y1 y2 y3 z1 z2 z3 : Int) (s1 s2 s3 : ByteArray) (ey1 : y1 = n1) (ey2 : y2 = n2) (ey3 : y3 = n3) (ez1 : z1 = k1) (ez2 : z2 = k2) (ez3 : z3 = k3) (es1 : s1 = tx u1) (es2 : s2 = tx u2) (es3 : s3 = tx u3)
    (g : Nat) (W : World) (t : TypeId) (fz : Nat × Nat) (hg : W.heap[g]? = some (.cells #[.int .i64 y1, .int .i64 z1, .string s1, .int .i64 y2, .int .i64 z2, .string s2, .int .i64 y3, .int .i64 z3, .string s3] t fz)) (hL : FLaid W) (hI : Inv W)
    (hst : ∀ W1 W2, Inv W1 → Below W.heap.size W1 W2 → W.heap.size ≤ W1.heap.size → Inv W2) :
    Calls Tryz.prog 22 #[.func (.func F) #[] caps, .slice (some ⟨g, 0, none⟩) 3 3] W fun e w' => e = .returned (.string (tx (joinC out [(n1, k1, u1), (n2, k2, u2), (n3, k3, u3)]))) ∧ Below W.heap.size W w' := by
  subst ey1 ey2 ey3 ez1 ez2 ez3 es1 es2 es3
  refine join_at F caps out Inv hF eF hlen [(n1, k1, u1), (n2, k2, u2), (n3, k3, u3)] ?_ 3 rfl (by decide) g W (frow3 W W n1 k1 u1 n2 k2 u2 n3 k3 u3 t g fz hg) (Array.getElem?_eq_some_iff.1 hg).1 hL hI hst
  intro f hf
  simp only [List.mem_cons, List.not_mem_nil, or_false] at hf
  rcases hf with rfl | rfl | rfl
  · exact h1
  · exact h2
  · exact h3
theorem join2_at {F : FuncId} {caps : Array Value} {out : Nat → Nat → List Int → List Int} {Inv : World → Prop} (hF : FieldFn F caps out Inv) (eF : ∀ args w, (callFunc F args).run Tryz.prog w = .ok (.enter F args) w)
    (hlen : ∀ n k u, n ≤ 9999 → k ≤ 4 → u ∈ unitL → (encs (out n k u)).length ≤ 400) (n1 k1 : Nat) (u1 : List Int) (n2 k2 : Nat) (u2 : List Int) (h1 : FOk (n1, k1, u1)) (h2 : FOk (n2, k2, u2))
    (y1 y2 z1 z2 : Int) (s1 s2 : ByteArray) (ey1 : y1 = n1) (ey2 : y2 = n2) (ez1 : z1 = k1) (ez2 : z2 = k2) (es1 : s1 = tx u1) (es2 : s2 = tx u2)
    (g : Nat) (W : World) (t : TypeId) (fz : Nat × Nat) (hg : W.heap[g]? = some (.cells #[.int .i64 y1, .int .i64 z1, .string s1, .int .i64 y2, .int .i64 z2, .string s2] t fz)) (hL : FLaid W) (hI : Inv W)
    (hst : ∀ W1 W2, Inv W1 → Below W.heap.size W1 W2 → W.heap.size ≤ W1.heap.size → Inv W2) :
    Calls Tryz.prog 22 #[.func (.func F) #[] caps, .slice (some ⟨g, 0, none⟩) 2 2] W fun e w' => e = .returned (.string (tx (joinC out [(n1, k1, u1), (n2, k2, u2)]))) ∧ Below W.heap.size W w' := by
  subst ey1 ey2 ez1 ez2 es1 es2
  refine join_at F caps out Inv hF eF hlen [(n1, k1, u1), (n2, k2, u2)] ?_ 2 rfl (by decide) g W (frow2 W n1 k1 u1 n2 k2 u2 t g fz hg) (Array.getElem?_eq_some_iff.1 hg).1 hL hI hst
  intro f hf
  simp only [List.mem_cons, List.not_mem_nil, or_false] at hf
  rcases hf with rfl | rfl
  · exact h1
  · exact h2

end Go.Proofs.YteelmjmiankflaaGreatDoor.Cal

set_option linter.unusedVariables false
set_option linter.unusedSimpArgs false
namespace Go.Proofs.YteelmjmiankflaaGreatDoor.Cal
open Go Go.RowKit Go.Proofs.YteelmjmiankflaaGreatDoor.Kit Go.Proofs.YteelmjmiankflaaGreatDoor.Utf
open Go.Proofs.YteelmjmiankflaaGreatDoor.Num

def plainF (y m d : Nat) : List Int := joinC decC [(y, 1, [24180]), (m, 1, [26376]), (d, 1, [26085])]
def sepF (c : Int) (y m d : Nat) : List Int := joinC decC [(y, 4, [c]), (m, 2, [c]), (d, 2, [])]
def eraF (out : Nat → Nat → List Int → List Int) (e m d : Nat) : List Int := joinC (eraC out) [(e, 1, [24180]), (m, 1, [26376]), (d, 1, [26085])]
def firstForms (wd : Int) (y m d : Nat) : List (List Int) := [plainF y m d, plainF y m d ++ [40] ++ [wd] ++ [41]]
def sepForms (y m d : Nat) : List (List Int) := [sepF 47 y m d, sepF 45 y m d]
def eraForms (k e m d : Nat) : List (List Int) := [eN k ++ eraF decC e m d, eN k ++ eraF kanC e m d]
def eYear (k y : Nat) : Nat := (ye y (some k)).toNat
def yearForms (day : Int) (y m d : Nat) : List (List Int) :=
  (firstForms (wdC (day % 7).toNat) y m d ++ sepForms y m d) ++ (match cur day 5 with | none => [] | some k => eraForms k (eYear k y) m d)
def strs (l : List (List Int)) : List Value := l.map fun c => Value.string (tx c)

theorem cur_le {day : Int} : ∀ {n k : Nat}, cur day n = some k → eF k ≤ day
  | 0, k, h => by cases h
  | n + 1, k, h => by
    unfold cur at h
    split at h
    · cases h; assumption
    · exact cur_le h
theorem era_year {day : Int} {y m d : Nat} (h : IsDate day y m d) {k : Nat} (hk : cur day 5 = some k) : eY k ≤ y ∧ ye (y : Int) (some k) = (eYear k y : Nat) ∧ 1 ≤ eYear k y ∧ eYear k y ≤ 8132 := by
  have h5 := cur_lt hk
  have hle := cur_le hk
  have hv := (eF_valid k h5).in_year
  have hy := h.1.in_year
  rw [← h.2] at hy
  have hb := eY_bounds k h5
  have hle2 : eY k ≤ y := by
    by_cases hc : eY k ≤ (y : Int)
    · exact hc
    · exfalso
      have := DT_mono (show (y : Int) ≤ eY k - 1 by omega)
      have e : num (eY k) (eM k) (eD k) = eF k := rfl
      rw [e] at hv
      omega
  have e1 : ye (y : Int) (some k) = y - eY k + 1 := rfl
  have := h.1.2.1
  refine ⟨hle2, ?_, ?_, ?_⟩ <;> unfold eYear <;> rw [e1] <;> omega

theorem string_info : (Tryz.prog.info? 9).map (fun i => (i.zero, i.size, i.bytes)) = some (some (.string { data := #[] }), 1, 16) := by kernel_rfl

theorem joinC_len (out : Nat → Nat → List Int → List Int) (h : ∀ n k u, n ≤ 9999 → k ≤ 4 → u ∈ unitL → (encs (out n k u)).length ≤ 400) : ∀ fs : List Fld, (∀ f ∈ fs, FOk f) → (encs (joinC out fs)).length ≤ 400 * fs.length
  | [], _ => by simp [joinC, encs]
  | f :: fs, hf => by
    have := joinC_len out h fs (fun g hg => hf g (List.mem_cons_of_mem _ hg))
    obtain ⟨o1, o2, o3⟩ := hf f List.mem_cons_self
    have h1 := h f.1 f.2.1 f.2.2 o1 o2 o3
    show (encs (out f.1 f.2.1 f.2.2 ++ joinC out fs)).length ≤ _
    rw [encs_append, List.length_append, List.length_cons]
    omega
theorem ok3 {n1 n2 n3 k1 k2 k3 : Nat} {u1 u2 u3 : List Int} (h1 : n1 ≤ 9999) (h2 : n2 ≤ 9999) (h3 : n3 ≤ 9999) (hk1 : k1 ≤ 4) (hk2 : k2 ≤ 4) (hk3 : k3 ≤ 4) (hu1 : u1 ∈ unitL) (hu2 : u2 ∈ unitL) (hu3 : u3 ∈ unitL) : ∀ f ∈ ([(n1, k1, u1), (n2, k2, u2), (n3, k3, u3)] : List Fld), FOk f := by
  intro f hf
  simp only [List.mem_cons, List.not_mem_nil, or_false] at hf
  rcases hf with rfl | rfl | rfl
  · exact ⟨h1, hk1, hu1⟩
  · exact ⟨h2, hk2, hu2⟩
  · exact ⟨h3, hk3, hu3⟩

/-- Month and day of the month lie in boxes. -/
def mC (m : Nat) : Array Value := #[.int .i64 m, .int .i64 1, .string { data := #[230, 156, 136] }]
def dC (d : Nat) : Array Value := #[.int .i64 d, .int .i64 1, .string { data := #[230, 151, 165] }]
def MB (p m d : Nat) (w : World) : Prop := w.heap[p]? = some (.cells (mC m) 47) ∧ w.heap[p + 1]? = some (.cells (dC d) 47)
theorem MB.below {B p m d : Nat} {w w' : World} (h : MB p m d w) (hb : Below B w w') (hB : p + 1 < B) : MB p m d w' := ⟨by rw [hb.block _ (by omega)]; exact h.1, by rw [hb.block _ hB]; exact h.2⟩
theorem MB.lt {p m d : Nat} {w : World} (h : MB p m d w) : p + 1 < w.heap.size := (Array.getElem?_eq_some_iff.1 h.2).1
theorem MB.next {p m d : Nat} {w w' : World} (h : MB p m d w) (hb : Below w.heap.size w w') : MB p m d w' := h.below hb h.lt

/-- What holds behind each step of formsWithYear. -/
structure At (w0 : World) (p m d : Nat) (w : World) : Prop where
  laid : FLaid w
  box : MB p m d w
  bel : Below w0.heap.size w0 w
  le : w0.heap.size ≤ p
theorem At.next {w0 w w' : World} {p m d : Nat} (h : At w0 p m d w) (hb : Below w.heap.size w w') : At w0 p m d w' := ⟨h.laid.next hb, h.box.next hb, h.bel.trans (hb.mono h.bel.size), h.le⟩
theorem At.alloc {w0 w : World} {p m d : Nat} (h : At w0 p m d w) (o : Obj) : At w0 p m d (w.alloc o) := h.next ((Below.refl _ w).alloc (Nat.le_refl _) _)
theorem At.drew {w0 w : World} {p m d : Nat} (h : At w0 p m d w) : At w0 p m d w.drew := h.next (Below.refl _ w).drew
theorem At.own {w0 w w' : World} {p m d : Nat} (h : At w0 p m d w) (hL : FLaid w0) (hb : Below (p + 2) w w') : At w0 p m d w' := by
  have hb' : Below w0.heap.size w0 w' := h.bel.trans (hb.mono (by have := h.le; omega))
  exact ⟨hL.next hb', h.box.below hb (by omega), hb', h.le⟩
theorem own_row (w : World) (xs : Array Value) (e : TypeId) (base n : Nat) (hn : xs.size = n) (hm : n ≤ maxLen) (hb : base ≤ w.heap.size) : (w.alloc (.cells xs e)).ownsRow base e 1 (.slice (some ⟨w.heap.size, 0, none⟩) n n) n xs.toList := by
  subst hn
  exact ⟨by simp, .inr ⟨w.heap.size, xs.size, xs, rfl, hb, heap_alloc_new w _, Nat.le_refl _, hm, by simp, by rw [Nat.mul_one]; exact List.take_of_length_le (by simp)⟩⟩

theorem own_shape {w : World} {B e : Nat} {v : Value} {n : Nat} {xs : List Value} (h : w.ownsRow B e 1 v n xs) : ∃ a cap, v = .slice a n cap := by
  rcases h.2 with ⟨rfl, rfl⟩ | ⟨g, cap, cur, rfl, _⟩
  · exact ⟨none, 0, rfl⟩
  · exact ⟨_, cap, rfl⟩

def sepc (k : Nat) : Int := [47, 45].getD k 0
def sepB (k : Nat) : ByteArray := tx [sepc k]
theorem index_sep (k : Nat) (hk : k < 2) (w : World) : (Instr.index 59 (.agg #[.string { data := #[47] }, .string { data := #[45] }]) (.int .i64 k)).run Tryz.prog w = .ok (.string (sepB k)) w := by
  rcases (by omega : k = 0 ∨ k = 1) with rfl | rfl <;> kernel_rfl
theorem sep_unit : ∀ k, k < 2 → [sepc k] ∈ unitL := by decide
theorem sep_take (y m d k : Nat) (hk : k < 2) : (sepForms y m d).take (k + 1) = (sepForms y m d).take k ++ [sepF (sepc k) y m d] := by
  rcases (by omega : k = 0 ∨ k = 1) with rfl | rfl <;> rfl

/-- The row of the first form's fields. -/
abbrev firstC (y m d : Nat) : Array Value := #[.int .i64 y, .int .i64 1, .string { data := #[229, 185, 180] }, .int .i64 m, .int .i64 1, .string { data := #[230, 156, 136] }, .int .i64 d, .int .i64 1, .string { data := #[230, 151, 165] }]
abbrev firstW (y m d : Nat) (w1 : World) : World := ((w1.alloc (.cells (mC m) 47)).alloc (.cells (dC d) 47)).alloc (.cells (firstC y m d) 47)
theorem first_at {w w1 : World} {y m d : Nat} (hL : FLaid w) (hb1 : Below w.heap.size w w1) : At w w1.heap.size m d (firstW y m d w1) ∧ (firstW y m d w1).heap[w1.heap.size + 1 + 1]? = some (.cells (firstC y m d) 47) := by
  have s1 := size_alloc w1 (.cells (mC m) 47)
  have s2 := size_alloc (w1.alloc (.cells (mC m) 47)) (.cells (dC d) 47)
  have hbx : Below w1.heap.size w1 (firstW y m d w1) := (((Below.refl _ w1).alloc (Nat.le_refl _) _).alloc (by rw [s1]; omega) _).alloc (by rw [s2, s1]; omega) _
  refine ⟨⟨(hL.next hb1).next hbx, ⟨?_, ?_⟩, hb1.trans (hbx.mono hb1.size), hb1.size⟩, ?_⟩
  · rw [heap_alloc_old _ _ (by rw [s2, s1]; omega), heap_alloc_old _ _ (by rw [s1]; omega)]; exact heap_alloc_new _ _
  · rw [heap_alloc_old _ _ (by rw [s2, s1]; omega), ← s1]; exact heap_alloc_new _ _
  · rw [← s1, ← s2]; exact heap_alloc_new _ _

/-- The two ways in which a day of an era is written. -/
def eraFn (j : Nat) : FuncId := [23, 32].getD j 0
def outJ (j : Nat) : Nat → Nat → List Int → List Int := if j = 0 then decC else kanC
theorem eraFn_fn (j : Nat) (hj : j < 2) : FieldFn (eraFn j) #[] (outJ j) (fun _ => True) := by
  rcases (by omega : j = 0 ∨ j = 1) with rfl | rfl
  · exact decimal_fn
  · exact kanji_fn
theorem outJ_len (j : Nat) (hj : j < 2) : ∀ n k u, n ≤ 9999 → k ≤ 4 → u ∈ unitL → (encs (outJ j n k u)).length ≤ 400 := by
  rcases (by omega : j = 0 ∨ j = 1) with rfl | rfl
  · exact dec_len
  · exact kan_len
theorem eraFn_enter (j : Nat) (hj : j < 2) : ∀ args w, (callFunc (eraFn j) args).run Tryz.prog w = .ok (.enter (eraFn j) args) w := by
  rcases (by omega : j = 0 ∨ j = 1) with rfl | rfl
  · intro args w
    show (callFunc 23 args).run Tryz.prog w = .ok (.enter 23 args) w
    kernel_rfl
  · intro args w
    show (callFunc 32 args).run Tryz.prog w = .ok (.enter 32 args) w
    kernel_rfl
theorem index_era2 (j : Nat) (hj : j < 2) (w : World) : (Instr.index 60 (.agg #[.func (.func 23) #[] #[], .func (.func 32) #[] #[]]) (.int .i64 j)).run Tryz.prog w = .ok (.func (.func (eraFn j)) #[] #[]) w := by
  rcases (by omega : j = 0 ∨ j = 1) with rfl | rfl <;> kernel_rfl
theorem era_take (k e m d j : Nat) (hj : j < 2) : (eraForms k e m d).take (j + 1) = (eraForms k e m d).take j ++ [eN k ++ eraF (outJ j) e m d] := by
  rcases (by omega : j = 0 ∨ j = 1) with rfl | rfl <;> rfl

theorem join_era (j : Nat) (hj : j < 2) (e m d : Nat) (he : e ≤ 9999) (hm : m ≤ 9999) (hd : d ≤ 9999) (W : World) (p g : Nat) (t t2 : TypeId) (fz fz2 : Nat × Nat) (hp : W.heap[p]? = some (.cells #[.func (.func (eraFn j)) #[] #[]] t2 fz2))
    (hg : W.heap[g]? = some (.cells #[.int .i64 e, .int .i64 1, .string { data := #[229, 185, 180] }, .int .i64 m, .int .i64 1, .string { data := #[230, 156, 136] }, .int .i64 d, .int .i64 1, .string { data := #[230, 151, 165] }] t fz)) (hL : FLaid W) :
    Calls Tryz.prog 22 #[.func (.func 50) #[] #[.pointer (some ⟨p, 0, none⟩)], .slice (some ⟨g, 0, none⟩) 3 3] W fun e' w' => e' = .returned (.string (tx (eraF (outJ j) e m d))) ∧ Below W.heap.size W w' := by
  have u0 : tx [24180] = { data := #[229, 185, 180] } := by decide +kernel
  have u1 : tx [26376] = { data := #[230, 156, 136] } := by decide +kernel
  have u2 : tx [26085] = { data := #[230, 151, 165] } := by decide +kernel
  have hps : p < W.heap.size := (Array.getElem?_eq_some_iff.1 hp).1
  exact join3_at (inEra1_fn (eraFn j) (outJ j) (eraFn_fn j hj) (eraFn_enter j hj) p) (fun _ _ => by kernel_rfl) (era_len _ (outJ_len j hj)) e 1 [24180] m 1 [26376] d 1 [26085]
    ⟨he, by show 1 ≤ 4; decide, by show [24180] ∈ unitL; decide⟩ ⟨hm, by show 1 ≤ 4; decide, by show [26376] ∈ unitL; decide⟩ ⟨hd, by show 1 ≤ 4; decide, by show [26085] ∈ unitL; decide⟩
    e m d 1 1 1 _ _ _ rfl rfl rfl rfl rfl rfl u0.symm u1.symm u2.symm g W t fz hg hL (by rw [cell_of_row W p 0 _ t2 fz2 hp]; rfl)
    (fun W1 W2 h hb _ => by rw [hb.cell (p := ⟨p, 0, none⟩) hps]; exact h)
theorem eraF_len (j : Nat) (hj : j < 2) (e m d : Nat) (he : e ≤ 9999) (hm : m ≤ 9999) (hd : d ≤ 9999) : (encs (eraF (outJ j) e m d)).length ≤ 1200 :=
  joinC_len (eraC (outJ j)) (era_len _ (outJ_len j hj)) [(e, 1, [24180]), (m, 1, [26376]), (d, 1, [26085])] (ok3 he hm hd (by decide) (by decide) (by decide) (by decide) (by decide) (by decide))
theorem eN_len : ∀ k, k < 5 → (encs (eN k)).length ≤ 6 := by decide

/-- The months' and days' boxes, cell by cell. -/
theorem box_cells {p m d : Nat} {w : World} (h : MB p m d w) : w.cell? ⟨p, 0, none⟩ = some (.int .i64 m) ∧ w.cell? ⟨p, 1, none⟩ = some (.int .i64 1) ∧ w.cell? ⟨p, 2, none⟩ = some (.string { data := #[230, 156, 136] }) ∧
    w.cell? ⟨p + 1, 0, none⟩ = some (.int .i64 d) ∧ w.cell? ⟨p + 1, 1, none⟩ = some (.int .i64 1) ∧ w.cell? ⟨p + 1, 2, none⟩ = some (.string { data := #[230, 151, 165] }) := by
  have a := fun j => cell_of_row w p j _ _ _ h.1
  have b := fun j => cell_of_row w (p + 1) j _ _ _ h.2
  exact ⟨a 0, a 1, a 2, b 0, b 1, b 2⟩

/-- The last call of a round, whichever of both blocks was laid first. -/
abbrev eraC9 (e m d : Nat) : Array Value := #[.int .i64 e, .int .i64 1, .string { data := #[229, 185, 180] }, .int .i64 m, .int .i64 1, .string { data := #[230, 156, 136] }, .int .i64 d, .int .i64 1, .string { data := #[230, 151, 165] }]
theorem era_worlds {w0 w : World} {p : Nat} (j : Nat) (hj : j < 2) (e m d : Nat) (he : e ≤ 9999) (hm : m ≤ 9999) (hd : d ≤ 9999) (h : At w0 p m d w) :
    (Calls Tryz.prog 22 #[.func (.func 50) #[] #[.pointer (some ⟨w.heap.size, 0, none⟩)], .slice (some ⟨w.heap.size + 1, 0, none⟩) 3 3] ((w.alloc (.cells #[.func (.func (eraFn j)) #[] #[]] 45)).alloc (.cells (eraC9 e m d) 47)).drew
      fun e' w' => e' = .returned (.string (tx (eraF (outJ j) e m d))) ∧ Below w.heap.size w.drew w') ∧
    (Calls Tryz.prog 22 #[.func (.func 50) #[] #[.pointer (some ⟨w.heap.size + 1, 0, none⟩)], .slice (some ⟨w.heap.size, 0, none⟩) 3 3] ((w.alloc (.cells (eraC9 e m d) 47)).alloc (.cells #[.func (.func (eraFn j)) #[] #[]] 45)).drew
      fun e' w' => e' = .returned (.string (tx (eraF (outJ j) e m d))) ∧ Below w.heap.size w.drew w') := by
  have hd1 := h.drew
  have hs : w.drew.heap.size = w.heap.size := rfl
  constructor
  · have s1 := size_alloc w.drew (.cells #[.func (.func (eraFn j)) #[] #[]] 45)
    have hb : Below w.heap.size w.drew ((w.drew.alloc (.cells #[.func (.func (eraFn j)) #[] #[]] 45)).alloc (.cells (eraC9 e m d) 47)) := ((Below.refl _ w.drew).alloc (Nat.le_refl _) _).alloc (by rw [s1, hs]; omega) _
    refine (join_era j hj e m d he hm hd _ w.heap.size (w.heap.size + 1) 47 45 (0, 0) (0, 0) ?_ ?_ ((hd1.alloc _).alloc _).laid).mono fun e' w' hq => ⟨hq.1, hb.trans (hq.2.mono (by rw [size_alloc, s1, hs]; omega))⟩
    · rw [heap_alloc_old _ _ (by rw [s1, hs]; omega)]; exact heap_alloc_new _ _
    · rw [show w.heap.size + 1 = (w.drew.alloc (.cells #[.func (.func (eraFn j)) #[] #[]] 45)).heap.size by rw [s1, hs]]; exact heap_alloc_new _ _
  · have s1 := size_alloc w.drew (.cells (eraC9 e m d) 47)
    have hb : Below w.heap.size w.drew ((w.drew.alloc (.cells (eraC9 e m d) 47)).alloc (.cells #[.func (.func (eraFn j)) #[] #[]] 45)) := ((Below.refl _ w.drew).alloc (Nat.le_refl _) _).alloc (by rw [s1, hs]; omega) _
    refine (join_era j hj e m d he hm hd _ (w.heap.size + 1) w.heap.size 47 45 (0, 0) (0, 0) ?_ ?_ ((hd1.alloc _).alloc _).laid).mono fun e' w' hq => ⟨hq.1, hb.trans (hq.2.mono (by rw [size_alloc, s1, hs]; omega))⟩
    · rw [show w.heap.size + 1 = (w.drew.alloc (.cells (eraC9 e m d) 47)).heap.size by rw [s1, hs]]; exact heap_alloc_new _ _
    · rw [heap_alloc_old _ _ (by rw [s1, hs]; omega)]; exact heap_alloc_new _ _

set_option maxHeartbeats 8000000 in
theorem formsY_at (day : Int) (y m d : Nat) (h : IsDate day y m d) (w : World) (hL : FLaid w) :
    Calls Tryz.prog 15 #[.int .i64 day] w fun e w' => ∃ v, e = .returned v ∧ w'.ownsRow w.heap.size 9 1 v (yearForms day y m d).length (strs (yearForms day y m d)) ∧ Below w.heap.size w w' := by
  have hr := h.range
  have hv := h.1
  obtain ⟨v1, v2, v3, v4, v5, v6⟩ := hv
  have v7 := (len_bounds y m).2
  have by1 : y ≤ 9999 := by omega
  have bm1 : m ≤ 9999 := by omega
  have bd1 : d ≤ 9999 := by omega
  have HD := Lib.hid (fun W hW => date_is day y m d h W hW)
  have HWd := Lib.hid (fun W hW => weekday_is day hr.1 hr.2 W hW)
  have HE := Lib.hid (fun W hW => era_is day y m d h W hW)
  have u0 : tx [24180] = { data := #[229, 185, 180] } := by decide +kernel
  have u1 : tx [26376] = { data := #[230, 156, 136] } := by decide +kernel
  have u2 : tx [26085] = { data := #[230, 151, 165] } := by decide +kernel
  have o1 : FOk (y, 1, [24180]) := ⟨by1, by show 1 ≤ 4; decide, by show [24180] ∈ unitL; decide⟩
  have o2 : FOk (m, 1, [26376]) := ⟨bm1, by show 1 ≤ 4; decide, by show [26376] ∈ unitL; decide⟩
  have o3 : FOk (d, 1, [26085]) := ⟨bd1, by show 1 ≤ 4; decide, by show [26085] ∈ unitL; decide⟩
  have HJ1 := Lib.hid (fun (g : Nat) (W : World) (t : TypeId) (fz : Nat × Nat) hg (hW : FLaid W) => join3_at decimal_fn (fun _ _ => by kernel_rfl) dec_len y 1 [24180] m 1 [26376] d 1 [26085] o1 o2 o3 y m d 1 1 1 _ _ _ rfl rfl rfl rfl rfl rfl u0.symm u1.symm u2.symm g W t fz hg hW trivial (fun _ _ _ _ _ => trivial))
  have hPl := joinC_len decC dec_len [(y, 1, [24180]), (m, 1, [26376]), (d, 1, [26085])] (ok3 by1 bm1 bd1 (by decide) (by decide) (by decide) (by decide) (by decide) (by decide))
  have hP : joinC decC [(y, 1, [24180]), (m, 1, [26376]), (d, 1, [26085])] = plainF y m d := rfl
  rw [hP] at HJ1 hPl
  have hPl2 : (encs (plainF y m d)).length ≤ 1200 := hPl
  have e0 : tx [] = { data := #[] } := rfl
  have HJ2 := Lib.hid (fun (k : Nat) (hk : k < 2) (g : Nat) (W : World) (t : TypeId) (fz : Nat × Nat) hg (hW : FLaid W) => join3_at decimal_fn (fun _ _ => by kernel_rfl) dec_len y 4 [sepc k] m 2 [sepc k] d 2 [] ⟨by1, by show 4 ≤ 4; decide, sep_unit k hk⟩ ⟨bm1, by show 2 ≤ 4; decide, sep_unit k hk⟩ ⟨bd1, by show 2 ≤ 4; decide, by show ([] : List Int) ∈ unitL; decide⟩ y m d 4 2 2 (sepB k) (sepB k) _ rfl rfl rfl rfl rfl rfl rfl rfl e0.symm g W t fz hg hW trivial (fun _ _ _ _ _ => trivial))
  have hQ : ∀ k, joinC decC [(y, 4, [sepc k]), (m, 2, [sepc k]), (d, 2, [])] = sepF (sepc k) y m d := fun k => rfl
  simp only [hQ] at HJ2
  clear e0 hQ
  obtain ⟨i0, hi, hz0, hz1, hz2⟩ := info_parts string_info
  have e40 : tx [40] = { data := #[40] } := by decide +kernel
  have e41 : tx [41] = { data := #[41] } := by decide +kernel
  have wl : (encs [wdC (day % 7).toNat]).length ≤ 4 := by
    have : (day % 7).toNat < 7 := by omega
    have hall : ∀ k, k < 7 → (encs [wdC k]).length ≤ 4 := by decide
    exact hall _ this
  have hx1 := add_tx (plainF y m d) [40] (by have : (encs [40]).length = 1 := by decide
                                             omega)
  have hx2 := add_tx (plainF y m d ++ [40]) [wdC (day % 7).toNat] (by
    have : (encs [40]).length = 1 := by decide
    rw [encs_append, List.length_append]; omega)
  have hx3 := add_tx (plainF y m d ++ [40] ++ [wdC (day % 7).toNat]) [41] (by
    have h1 : (encs [40]).length = 1 := by decide
    have h2 : (encs [41]).length = 1 := by decide
    rw [encs_append, encs_append, List.length_append, List.length_append]; omega)
  rw [e40] at hx1
  rw [e41] at hx3
  have HYF := Lib.hid (show yearForms day y m d = ([plainF y m d, plainF y m d ++ [40] ++ [wdC (day % 7).toNat] ++ [41]] ++ sepForms y m d) ++ (match cur day 5 with | none => [] | some k => eraForms k (eYear k y) m d) from rfl)
  generalize wdC (day % 7).toNat = wd at *
  generalize hPg : plainF y m d = P at *
  obtain ⟨Pa, hPa⟩ : ∃ Pa, P ++ [40] = Pa := ⟨_, rfl⟩
  rw [hPa] at hx1 hx2 hx3 HYF
  obtain ⟨Pb, hPb⟩ : ∃ Pb, Pa ++ [wd] = Pb := ⟨_, rfl⟩
  rw [hPb] at hx2 hx3 HYF
  obtain ⟨P2, hP2⟩ : ∃ P2, Pb ++ [41] = P2 := ⟨_, rfl⟩
  rw [hP2] at hx3 HYF
  clear u0 u1 u2 v6 v7 hPl hPl2 hP hPg hP2 hPa hPb wl e40 e41 o1 o2 o3
  go_enter Tryz.func15, Tryz.ntmps15
  go_wp2_with (first
    | (go_at_call 20; (with_reducible refine (HD.out _ hL.era.base).mono ?_); rintro e w1 ⟨rfl, hb1⟩
       obtain ⟨hat3, hg3⟩ := first_at (y := y) (m := m) (d := d) hL hb1
       have HG3 := Lib.hid hg3
       have HA3 := Lib.hid hat3
       clear hg3 hat3 hb1)
    | (go_at_call 22; refine (HJ1.out _ _ _ _ HG3.out HA3.out.laid).mono ?_; rintro e w3 ⟨rfl, hb3⟩
       have HA4 := Lib.hid (HA3.out.next hb3)
       clear hb3 HG3 HA3)
    | (go_at_call 21; (with_reducible refine (HWd.out _ HA4.out.laid.era.base).mono ?_); rintro e w4 ⟨rfl, hb4⟩
       have HA5 := Lib.hid (HA4.out.next hb4)
       clear hb4 HA4))
  obtain ⟨p, hp⟩ : ∃ p, w1.heap.size = p := ⟨_, rfl⟩
  rw [hp] at HA5 ⊢
  clear hp
  have hAt := (HA5.out.alloc (.cells #[.string (tx P), .string (tx P2)] 9))
  have hps : p + 2 ≤ w4.heap.size := HA5.out.box.lt
  have hown := own_row w4 #[.string (tx P), .string (tx P2)] 9 (p + 2) 2 rfl (by unfold maxLen; decide) hps
  have hslt : p + 2 ≤ (w4.alloc (.cells #[.string (tx P), .string (tx P2)] 9)).heap.size := hAt.box.lt
  obtain ⟨g, hg⟩ : ∃ g, w4.heap.size = g := ⟨_, rfl⟩
  rw [hg] at hown ⊢
  obtain ⟨W, hW⟩ : ∃ W, w4.alloc (.cells #[.string (tx P), .string (tx P2)] 9) = W := ⟨_, rfl⟩
  rw [hW] at hAt hown hslt ⊢
  clear hg hW hps HA5 hx1 hx2 hx3 HJ1 HD HWd
  have HX := Lib.hid (fun k hk W => index_sep k hk W)
  go_loopw [12, 14, 50] (fun v _ i wr => ∃ k : Nat, i = .int .i64 k ∧ k ≤ 2 ∧ At w p m d wr ∧ wr.ownsRow (p + 2) 9 1 v (2 + k) (strs ([P, P2] ++ (sepForms y m d).take k))) (fun _ _ i _ => 2 - (intOf i).toNat)
  case atStart => exact ⟨0, rfl, by omega, hAt, hown⟩
  case round =>
    obtain ⟨k, rfl, hk, hat, ho⟩ := hrel
    by_cases hk2 : k < 2
    · have hx := HX.out k hk2
      have hj := HJ2.out k hk2
      have HT := Lib.hid (sep_take y m d k hk2)
      have hat5 := hat.alloc (.cells #[.int .i64 y, .int .i64 4, .string (sepB k), .int .i64 m, .int .i64 2, .string (sepB k), .int .i64 d, .int .i64 2, .string { data := #[] }] 47)
      have hg5 := heap_alloc_new wr (.cells #[.int .i64 y, .int .i64 4, .string (sepB k), .int .i64 m, .int .i64 2, .string (sepB k), .int .i64 d, .int .i64 2, .string { data := #[] }] 47)
      have ho5 := ho.alloc (.cells #[.int .i64 y, .int .i64 4, .string (sepB k), .int .i64 m, .int .i64 2, .string (sepB k), .int .i64 d, .int .i64 2, .string { data := #[] }] 47)
      have HJ3 := Lib.hid (hj _ _ _ _ hg5 hat5.laid)
      have HA5 := Lib.hid hat5
      have HO5 := Lib.hid ho5
      obtain ⟨x, hxx⟩ : ∃ x, sepF (sepc k) y m d = x := ⟨_, rfl⟩
      rw [hxx] at HJ3 HT
      obtain ⟨B, hBk⟩ : ∃ B, sepB k = B := ⟨_, rfl⟩
      simp only [hBk] at hx HJ3 HA5 HO5
      obtain ⟨a, cap, hv⟩ := own_shape ho
      subst hv
      have hk0 : (k : Int) < 2 := by omega
      clear hat5 hg5 ho5 hat ho hxx hBk hj
      go_wp2_with (first
        | (go_at_call 22; refine HJ3.out.mono ?_; rintro e w6 ⟨rfl, hb6⟩
           have ho6 := own_later HO5.out hb6
           have HA6 := Lib.hid (HA5.out.next hb6)
           have hp6 : p + 2 ≤ w6.heap.size := HA6.out.box.lt
           clear hb6 HO5 HA5 HJ3)
        | (at_builtin; refine wpList_append_own _ rfl _ _ _ rfl (p + 2) 9 i0 (.string { data := #[] }) 1 16 Tryz.underlying26 hi hz0 hz1 hz2 rfl (by decide) _ (2 + k) (strs ([P, P2] ++ (sepForms y m d).take k)) rfl (ho6.alloc _) ⟨w6.heap.size, 0, none⟩ 1 1 [.string (tx x)] rfl rfl (cell_one_new _ _ _) ?c2 ?c3 ?c4 ?c5 ?_))
      case c2 => simp [Value.oneCell']
      case c3 => unfold maxLen; omega
      case c4 => omega
      case c5 => rw [size_alloc]; omega
      intro v' w7 hown7 hg7 hiff
      clear hiff
      have hb7 := below_own (Below.refl (p + 2) (w6.alloc (.cells #[.string (tx x)] 9))) (ho6.alloc _) (Nat.le_refl _) (by rw [size_alloc]; omega) hg7
      have hat7 := (HA6.out.alloc (.cells #[.string (tx x)] 9)).own hL hb7
      have hown8 : w7.ownsRow (p + 2) 9 1 v' (2 + (k + 1)) (strs ([P, P2] ++ (sepForms y m d).take (k + 1))) := by
        rw [HT.out, ← List.append_assoc, strs, List.map_append]; exact hown7
      clear hown7 hg7 ho6 hb7 HA6 HT
      go_wp2
      go_roundw
      case rel => exact ⟨k + 1, by go_num, by omega, hat7, hown8⟩
      case measure => simp [intOf] <;> omega
    · obtain rfl : k = 2 := by omega
      have hfull : (sepForms y m d).take 2 = sepForms y m d := rfl
      rw [hfull] at ho
      obtain ⟨a, cap, hv⟩ := own_shape ho
      subst hv
      have HA := Lib.hid hat
      have hfin : (2 : Int) + 2 = 4 := rfl
      clear hat hfull HX HJ2
      rcases hc : cur day 5 with _ | q
      · rw [hc] at HE
        have HY2 := Lib.hid (show yearForms day y m d = [P, P2] ++ sepForms y m d by rw [HYF.out, hc]; exact List.append_nil _)
        clear hc HYF
        go_wp2_with (go_at_call 11; refine (HE.out _ HA.out.laid.era).mono ?_; rintro e w8 ⟨rfl, hb8⟩)
        go_ret
        exact ⟨_, rfl, by rw [HY2.out]; exact own_base (own_later ho hb8) (by have := HA.out.le; omega), (HA.out.next hb8).bel⟩
      · obtain ⟨ey1, ey2, ey3, ey4⟩ := era_year h hc
        have hq5 := cur_lt hc
        have HY2 := Lib.hid (show yearForms day y m d = ([P, P2] ++ sepForms y m d) ++ eraForms q (eYear q y) m d by rw [HYF.out, hc])
        rw [hc, ey2] at HE
        obtain ⟨E, hE⟩ : ∃ E, eYear q y = E := ⟨_, rfl⟩
        rw [hE] at HE HY2 ey3 ey4
        have HN := Lib.hid (eN_len q hq5)
        have hnm : nm (some q) = tx (eN q) := rfl
        rw [hnm] at HE
        clear hc HYF hE hnm ey1 ey2
        go_wp2_with (go_at_call 11; refine (HE.out _ HA.out.laid.era).mono ?_; rintro e w8 ⟨rfl, hb8⟩)
        have ho8 := own_later ho hb8
        have hat8 := HA.out.next hb8
        clear ho hb8 HA HE
        go_loopw [12, 19, 75] (fun v _ i wr => ∃ j : Nat, i = .int .i64 j ∧ j ≤ 2 ∧ At w p m d wr ∧ wr.ownsRow (p + 2) 9 1 v (4 + j) (strs (([P, P2] ++ sepForms y m d) ++ (eraForms q E m d).take j))) (fun _ _ i _ => 2 - (intOf i).toNat)
        case atStart => exact ⟨0, rfl, by omega, hat8, by simpa using ho8⟩
        case round =>
          obtain ⟨j, rfl, hj, hat, ho⟩ := hrel
          by_cases hj2 : j < 2
          · have hx := index_era2 j hj2
            have HT := Lib.hid (era_take q E m d j hj2)
            have hadd := add_tx (eN q) (eraF (outJ j) E m d) (by have := HN.out; have := eraF_len j hj2 E m d (by omega) bm1 bd1; omega)
            have HW1 := Lib.hid (inEra_at (eraFn j))
            obtain ⟨hA, hB⟩ := era_worlds j hj2 E m d (by omega) bm1 bd1 hat
            have HA := Lib.hid hA
            have HB := Lib.hid hB
            have cbox := hat.box
            obtain ⟨c0, c1, c2, c3, c4, c5⟩ := box_cells hat.box
            obtain ⟨e0, e1, e2, e3, e4, e5⟩ := box_cells (hat.alloc (.cells #[.func (.func (eraFn j)) #[] #[]] 45)).box
            obtain ⟨x, hxx⟩ : ∃ x, eraF (outJ j) E m d = x := ⟨_, rfl⟩
            rw [hxx] at hadd HA HB HT
            obtain ⟨x2, hx2⟩ : ∃ x2, eN q ++ x = x2 := ⟨_, rfl⟩
            rw [hx2] at hadd HT
            obtain ⟨F, hF⟩ : ∃ F, eraFn j = F := ⟨_, rfl⟩
            simp only [hF] at hx HW1 HA HB e0 e1 e2 e3 e4 e5
            obtain ⟨a, cap, hv⟩ := own_shape ho
            subst hv
            have HO := Lib.hid ho
            have HAt := Lib.hid hat
            have hj0 : (j : Int) < 2 := by omega
            clear hxx hx2 hF ho hat cbox hA hB
            go_wp2
            trace "BEFORE"
            go_region_law (first
              | (go_simp; go_at_call 33; (refine (HW1.out _).mono ?_); rintro e w9 ⟨rfl, rfl⟩)
              | (go_simp; go_at_call 22; (first | with_reducible refine HA.out.mono ?_ | with_reducible refine HB.out.mono ?_); rintro e w10 ⟨rfl, hb10⟩
                 have hb11 : Below wr.heap.size wr w10 := (Below.refl _ wr).drew.trans hb10
                 have ho10 := own_later HO.out hb11
                 have HA10 := Lib.hid (HAt.out.next hb11)
                 have hp10 : p + 2 ≤ w10.heap.size := HA10.out.box.lt
                 clear hb10 hb11)
              | (refine step_append_lies _ (by rfl) (.tmp 78) (.tmp 89) 26 (by rfl) (p + 2) 9 i0 (.string { data := #[] }) 1 16 Tryz.underlying26 hi hz0 hz1 hz2 rfl (by decide) (.slice a (4 + j) cap) (4 + j) _ (by rfl) (ho10.alloc _) ⟨w10.heap.size, 0, none⟩ 1 1 [.string (tx x2)] (by rfl) (by rfl) (cell_one_new _ _ _) (by simp [Value.oneCell']) (by decide) (by unfold maxLen; omega) (by omega) (by rw [size_alloc]; omega) (w10.heap.size + 1) (by rw [size_alloc]) ?_
                 intro g2 cap2 w11 hown11 hg11 hat11 hlt11))
            all_goals
              have hb12 := below_own (Below.refl (p + 2) (w10.alloc (.cells #[.string (tx x2)] 9))) (ho10.alloc _) (Nat.le_refl _) (by rw [size_alloc]; omega) hg11
              have hat12 := (HA10.out.alloc (.cells #[.string (tx x2)] 9)).own hL hb12
              have hown12 : w11.ownsRow (p + 2) 9 1 (.slice (some ⟨g2, 0, none⟩) (4 + (j + 1)) cap2) (4 + (j + 1)) (strs (([P, P2] ++ sepForms y m d) ++ (eraForms q E m d).take (j + 1))) := by
                rw [HT.out, ← List.append_assoc, strs, List.map_append]; exact hown11
              clear hown11 hg11 hat11 hlt11 ho10 hb12 HA10 HT
              go_wp2
              go_roundw
              case rel => exact ⟨j + 1, by go_num, by omega, hat12, hown12⟩
              case measure => simp [intOf] <;> omega
          · obtain rfl : j = 2 := by omega
            have hfull : (eraForms q E m d).take 2 = eraForms q E m d := rfl
            rw [hfull, ← HY2.out] at ho
            have hlen : (yearForms day y m d).length = 4 + 2 := by rw [HY2.out]; rfl
            have HL := Lib.hid hlen
            obtain ⟨a, cap, hv⟩ := own_shape ho
            subst hv
            clear hlen
            go_wp2
            go_ret
            exact ⟨_, rfl, by rw [HL.out]; exact own_base ho (by have := hat.le; omega), hat.bel⟩

end Go.Proofs.YteelmjmiankflaaGreatDoor.Cal

set_option linter.unusedVariables false
set_option linter.unusedSimpArgs false
namespace Go.Proofs.YteelmjmiankflaaGreatDoor.Cal
open Go Go.RowKit Go.Proofs.YteelmjmiankflaaGreatDoor.Kit Go.Proofs.YteelmjmiankflaaGreatDoor.Utf
open Go.Proofs.YteelmjmiankflaaGreatDoor.Num

def lastForms (m d : Nat) : List (List Int) := [joinC decC [(m, 1, [26376]), (d, 1, [26085])], joinC decC [(m, 1, [47]), (d, 1, [])]]
def allForms (day : Int) (y m d : Nat) : List (List Int) := yearForms day y m d ++ lastForms m d

theorem forms_at (day : Int) (y m d : Nat) (h : IsDate day y m d) (w : World) (hL : FLaid w) :
    Calls Tryz.prog 9 #[.int .i64 day] w fun e w' => ∃ v, e = .returned v ∧ w'.ownsRow w.heap.size 9 1 v (allForms day y m d).length (strs (allForms day y m d)) ∧ Below w.heap.size w w' := by
  have hv := h.1
  obtain ⟨v1, v2, v3, v4, v5, v6⟩ := hv
  have v7 := (len_bounds y m).2
  have bm1 : m ≤ 9999 := by omega
  have bd1 : d ≤ 9999 := by omega
  have HD := Lib.hid (fun W hW => date_is day y m d h W hW)
  have HY := Lib.hid (fun W hW => formsY_at day y m d h W hW)
  have u1 : tx [26376] = { data := #[230, 156, 136] } := by decide +kernel
  have u2 : tx [26085] = { data := #[230, 151, 165] } := by decide +kernel
  have u3 : tx [47] = { data := #[47] } := by decide +kernel
  have u4 : tx [] = { data := #[] } := rfl
  have HJ1 := Lib.hid (fun (g : Nat) (W : World) (t : TypeId) (fz : Nat × Nat) hg (hW : FLaid W) => join2_at decimal_fn (fun _ _ => by kernel_rfl) dec_len m 1 [26376] d 1 [26085] ⟨bm1, by show 1 ≤ 4; decide, by show [26376] ∈ unitL; decide⟩ ⟨bd1, by show 1 ≤ 4; decide, by show [26085] ∈ unitL; decide⟩ m d 1 1 _ _ rfl rfl rfl rfl u1.symm u2.symm g W t fz hg hW trivial (fun _ _ _ _ _ => trivial))
  have HJ2 := Lib.hid (fun (g : Nat) (W : World) (t : TypeId) (fz : Nat × Nat) hg (hW : FLaid W) => join2_at decimal_fn (fun _ _ => by kernel_rfl) dec_len m 1 [47] d 1 [] ⟨bm1, by show 1 ≤ 4; decide, by show [47] ∈ unitL; decide⟩ ⟨bd1, by show 1 ≤ 4; decide, by show ([] : List Int) ∈ unitL; decide⟩ m d 1 1 _ _ rfl rfl rfl rfl u3.symm u4.symm g W t fz hg hW trivial (fun _ _ _ _ _ => trivial))
  have HA := Lib.hid (show strs (allForms day y m d) = strs (yearForms day y m d) ++ [.string (tx (joinC decC [(m, 1, [26376]), (d, 1, [26085])])), .string (tx (joinC decC [(m, 1, [47]), (d, 1, [])]))] by unfold allForms strs; rw [List.map_append]; rfl)
  have HLn := Lib.hid (show (allForms day y m d).length = (yearForms day y m d).length + 2 by unfold allForms; rw [List.length_append]; rfl)
  have hsm : (yearForms day y m d).length ≤ 6 := by
    unfold yearForms
    rcases cur day 5 with _ | k
    · show 4 ≤ 6; decide
    · show 6 ≤ 6; decide
  obtain ⟨x7, hx7⟩ : ∃ x, joinC decC [(m, 1, [26376]), (d, 1, [26085])] = x := ⟨_, rfl⟩
  obtain ⟨x8, hx8⟩ : ∃ x, joinC decC [(m, 1, [47]), (d, 1, [])] = x := ⟨_, rfl⟩
  rw [hx7] at HJ1 HA
  rw [hx8] at HJ2 HA
  obtain ⟨n, hn⟩ : ∃ n, (yearForms day y m d).length = n := ⟨_, rfl⟩
  rw [hn] at HLn hsm HY
  obtain ⟨xs, hxs⟩ : ∃ xs, strs (yearForms day y m d) = xs := ⟨_, rfl⟩
  rw [hxs] at HY HA
  obtain ⟨i0, hi, hz0, hz1, hz2⟩ := info_parts string_info
  clear u1 u2 u3 u4 v6 v7 hx7 hx8 hn hxs
  go_enter Tryz.func9, Tryz.ntmps9
  go_wp2_with (first
    | (go_at_call 20; (with_reducible refine (HD.out _ hL.era.base).mono ?_); rintro e w1 ⟨rfl, hb1⟩
       have HL1 := Lib.hid (hL.next hb1))
    | (go_at_call 15; (with_reducible refine (HY.out _ HL1.out).mono ?_); rintro e w2 ⟨v, rfl, ho2, hb2⟩
       obtain ⟨a, cap, hv⟩ := own_shape ho2
       subst hv
       have hb12 := hb1.trans (hb2.mono hb1.size)
       have ho3 := (own_base ho2 hb1.size).alloc (.cells #[.int .i64 m, .int .i64 1, .string { data := #[230, 156, 136] }, .int .i64 d, .int .i64 1, .string { data := #[230, 151, 165] }] 47)
       have hb3 := hb12.alloc hb12.size (.cells #[.int .i64 m, .int .i64 1, .string { data := #[230, 156, 136] }, .int .i64 d, .int .i64 1, .string { data := #[230, 151, 165] }] 47)
       have HG3 := Lib.hid (heap_alloc_new w2 (.cells #[.int .i64 m, .int .i64 1, .string { data := #[230, 156, 136] }, .int .i64 d, .int .i64 1, .string { data := #[230, 151, 165] }] 47))
       have HO3 := Lib.hid ho3
       have HB3 := Lib.hid hb3
       clear ho2 ho3 hb3 hb12 hb2 hb1)
    | (go_at_call 22; refine (HJ1.out _ _ _ _ HG3.out (hL.next HB3.out)).mono ?_; rintro e w4 ⟨rfl, hb4⟩
       have ho4 := (own_later HO3.out hb4).alloc (.cells #[.int .i64 m, .int .i64 1, .string { data := #[47] }, .int .i64 d, .int .i64 1, .string { data := #[] }] 47)
       have hb14 := HB3.out.trans (hb4.mono HB3.out.size)
       have hb5 := hb14.alloc hb14.size (.cells #[.int .i64 m, .int .i64 1, .string { data := #[47] }, .int .i64 d, .int .i64 1, .string { data := #[] }] 47)
       have HG5 := Lib.hid (heap_alloc_new w4 (.cells #[.int .i64 m, .int .i64 1, .string { data := #[47] }, .int .i64 d, .int .i64 1, .string { data := #[] }] 47))
       have HO5 := Lib.hid ho4
       have HB5 := Lib.hid hb5
       clear ho4 hb5 hb14 hb4 HG3 HO3 HB3)
    | (go_at_call 22; refine (HJ2.out _ _ _ _ HG5.out (hL.next HB5.out)).mono ?_; rintro e w6 ⟨rfl, hb6⟩
       have ho6 := own_later HO5.out hb6
       have hb7 := HB5.out.trans (hb6.mono HB5.out.size)
       have hs7 := hb7.size
       clear hb6 HG5 HO5 HB5)
    | (at_builtin; refine wpList_append_own _ rfl _ _ _ rfl w.heap.size 9 i0 (.string { data := #[] }) 1 16 Tryz.underlying26 hi hz0 hz1 hz2 rfl (by decide) _ n xs rfl (ho6.alloc _) ⟨w6.heap.size, 0, none⟩ 2 2 [.string (tx x7), .string (tx x8)] rfl rfl (World.news_of_block (heap_alloc_new _ _)) ?c2 ?c3 ?c4 ?c5 ?_))
  case c2 => simp [Value.oneCell']
  case c3 => unfold maxLen; omega
  case c4 => omega
  case c5 => rw [size_alloc]; omega
  intro v' w7 hown7 hg7 hiff
  clear hiff
  have hb8 := below_own (hb7.alloc hb7.size (.cells #[.string (tx x7), .string (tx x8)] 9)) (ho6.alloc _) (Nat.le_refl _) (by rw [size_alloc]; omega) hg7
  go_wp2
  go_ret
  exact ⟨_, rfl, by rw [HLn.out, HA.out]; exact hown7, hb8⟩

theorem forms_not (day : Int) (h : ¬ inR day) (w : World) :
    Calls Tryz.prog 9 #[.int .i64 day] w fun e w' => e = .returned (.slice none 0 0) ∧ Below w.heap.size w w' := by
  have HD := Lib.hid (date_not day h w)
  clear h
  go_enter Tryz.func9, Tryz.ntmps9
  go_wp2_with (go_at_call 20; (with_reducible refine HD.out.mono ?_); rintro e w1 ⟨rfl, hb1⟩)
  go_ret
  exact ⟨rfl, hb1⟩

end Go.Proofs.YteelmjmiankflaaGreatDoor.Cal

set_option linter.unusedVariables false
set_option linter.unusedSimpArgs false
namespace Go.Proofs.YteelmjmiankflaaGreatDoor.Cal
open Go Go.RowKit Go.Proofs.YteelmjmiankflaaGreatDoor.Kit Go.Proofs.YteelmjmiankflaaGreatDoor.Utf
open Go.Proofs.YteelmjmiankflaaGreatDoor.Num

/-- What is still to be written before what is written. -/
def front (n r : Nat) : List Nat := if n = 0 then List.replicate r 0 else List.replicate (r - (digs n).length) 0 ++ digs n
theorem front_end : front 0 0 = [] := rfl
theorem front_pad (n k : Nat) (hk : 1 ≤ k) : front n k = pad k n := by
  unfold front
  by_cases h : n = 0
  · subst h
    unfold pad
    rw [if_pos rfl, digs_small (by decide), List.length_singleton, ← List.replicate_succ']
    rw [show k - 1 + 1 = k by omega]
  · rw [if_neg h]; rfl
theorem front_step (n r : Nat) (h : 0 < n ∨ 0 < r) : front n r = front (n / 10) (r - 1) ++ [n % 10] := by
  by_cases h0 : n = 0
  · subst h0
    have hr : 0 < r := by omega
    show List.replicate r 0 = List.replicate (r - 1) 0 ++ [0]
    rw [← List.replicate_succ', show r - 1 + 1 = r by omega]
  · by_cases h10 : n < 10
    · have e : n / 10 = 0 := by omega
      unfold front
      rw [if_neg h0, if_pos e, digs_small h10, List.length_singleton, show n % 10 = n by omega]
    · have e : ¬ n / 10 = 0 := by omega
      unfold front
      rw [if_neg h0, if_neg e, digs_step h10, List.length_append, List.length_singleton, ← List.append_assoc, show r - ((digs (n / 10)).length + 1) = r - 1 - (digs (n / 10)).length by omega]

def strSize : Value → Nat
  | .string b => b.size
  | _ => 0

theorem conv_digit (w : World) (z : Int) (r : Nat) (hr : r ≤ 9) (hz : z = 48 + r) : (convert 66 9 (.slice (some ⟨w.heap.size, 0, none⟩) 1 1)).run Tryz.prog (w.alloc (.cells #[.int .u8 z] 5)) = .ok (.string (tx [48 + (r : Int)])) (w.alloc (.cells #[.int .u8 z] 5)) := by
  have e : z = ((UInt8.ofNat (48 + r)).toNat : Int) := by rw [toNat_ofNat _ (by omega)]; omega
  have h := own_one w (.int .u8 z) 5 0 (Nat.zero_le _)
  rw [e] at h ⊢
  have := conv_bytes (P := Tryz.prog) (l := [UInt8.ofNat (48 + r)]) h Tryz.underlying66 Tryz.underlying5 Tryz.underlying9
  rw [this]
  unfold tx
  rw [show encs [48 + (r : Int)] = enc (48 + (r : Int)) by simp [encs], dg_enc r hr]

theorem number_at (n k : Nat) (hn : n ≤ 9999) (hk1 : 1 ≤ k) (hk : k ≤ 4) (w : World) :
    Calls Tryz.prog 55 #[.int .i64 n, .int .i64 k] w fun e w' => e = .returned (.string (tx (ascC (pad k n)))) ∧ Below w.heap.size w w' := by
  have HP := Lib.hid (front_pad n k hk1)
  have hpl := pad_len hn hk
  go_enter Tryz.func55, Tryz.ntmps55
  go_wp2
  go_loopw [0, 5] (fun a s wr => ∃ (q : Nat) (ds : List Nat), a = .int .i64 q ∧ q ≤ 9999 ∧ s = .string (tx (ascC ds)) ∧ Hid (∀ d ∈ ds, d ≤ 9) ∧ Hid (front q (k - ds.length) ++ ds = pad k n) ∧ Below w.heap.size w wr) (fun a s _ => (intOf a).toNat + (k - strSize s))
  case atStart => exact ⟨n, [], rfl, hn, by rfl, Lib.hid (fun d hd => by cases hd), Lib.hid (by rw [List.append_nil]; exact HP.out), Below.refl _ _⟩
  case round =>
    obtain ⟨q, ds, rfl, hq, rfl, h9, hfr, hb⟩ := hrel
    have hlen : ds.length ≤ 4 := by
      have := congrArg List.length hfr.out
      rw [List.length_append] at this; omega
    have hts : (tx (ascC ds)).size = ds.length := by rw [tx_size, asc_len ds h9.out]
    have hel := asc_len ds h9.out
    by_cases hgo : 0 < q ∨ ds.length < k
    · obtain ⟨r, hr⟩ : ∃ r, q % 10 = r := ⟨_, rfl⟩
      have hr9 : r ≤ 9 := by omega
      have hmod : (q : Int).tmod 10 = (r : Int) := by rw [Int.tmod_eq_emod_of_nonneg (by omega)]; omega
      obtain ⟨q2, hq2⟩ : ∃ q2, q / 10 = q2 := ⟨_, rfl⟩
      have hdiv : (q : Int).tdiv 10 = (q2 : Int) := by rw [Int.tdiv_eq_ediv_of_nonneg (by omega)]; omega
      have hq29 : q2 ≤ 9999 := by omega
      obtain ⟨z, hz⟩ : ∃ z : Int, 48 + (r : Int) = z := ⟨_, rfl⟩
      have hw : IntKind.u8.wrap z = z := IntWalk.u8_in _ ⟨by omega, by omega⟩
      have hcv := conv_digit wr z r hr9 hz.symm
      have hadd := add_tx [48 + (r : Int)] (ascC ds) (by
        have : ∀ r : Nat, r ≤ 9 → (encs [48 + (r : Int)]).length = 1 := by decide
        rw [this r hr9]; omega)
      have hcons : [48 + (r : Int)] ++ ascC ds = ascC (r :: ds) := by rw [ascC_map, ascC_map]; rfl
      rw [hcons, hz] at hadd
      rw [hz] at hcv
      have HFR := Lib.hid (show front q2 (k - (r :: ds).length) ++ (r :: ds) = pad k n by
        rw [← hfr.out, front_step q (k - ds.length) (by omega), hr, hq2, List.append_assoc, List.length_cons, show k - (ds.length + 1) = k - ds.length - 1 by omega]; rfl)
      have H9 := Lib.hid (show ∀ d ∈ r :: ds, d ≤ 9 by
        intro d hd
        rcases List.mem_cons.1 hd with rfl | hd
        · exact hr9
        · exact h9.out d hd)
      have hts2 : (tx (ascC (r :: ds))).size = ds.length + 1 := by rw [tx_size, asc_len _ H9.out]; rfl
      have HTS2 := Lib.hid hts2
      have HTS := Lib.hid hts
      have hb2 := hb.alloc hb.size (.cells #[.int .u8 z] 5)
      have hz1 : 48 ≤ z := by omega
      have hz2 : z ≤ 57 := by omega
      obtain ⟨L, hL⟩ : ∃ L, ds.length = L := ⟨_, rfl⟩
      have HL := Lib.hid hL
      rw [hL] at hgo hts hlen hel
      obtain ⟨D2, hD2⟩ : ∃ D2, ascC (r :: ds) = D2 := ⟨_, rfl⟩
      rw [hD2] at hadd hts2 HTS2
      have HD2 := Lib.hid hD2
      clear hD2
      generalize ascC ds = D at *
      have HQ := Lib.hid (show q2 < q ∨ q2 = 0 ∧ q = 0 by omega)
      clear hcons hts2 hfr h9 hr hL hq2
      by_cases hq0 : 0 < q
      · have hq1 : (0 : Int) < q := by omega
        go_wp2
        go_roundw
        case rel => exact ⟨q2, r :: ds, rfl, hq29, by rw [HD2.out], H9, HFR, hb2⟩
        case measure =>
          have e1 := HTS2.out
          have e2 := HTS.out
          have e3 := HL.out
          simp only [intOf, strSize, Array.getD_eq_getD_getElem?]
          simp [intOf, strSize]
          rcases HQ.out with h | h <;> omega
      · have hq1 : ¬ ((0 : Int) < q) := by omega
        have hLk : (L : Int) < k := by omega
        go_wp2
        go_roundw
        case rel => exact ⟨q2, r :: ds, rfl, hq29, by rw [HD2.out], H9, HFR, hb2⟩
        case measure =>
          have e1 := HTS2.out
          have e2 := HTS.out
          have e3 := HL.out
          simp [intOf, strSize]
          rcases HQ.out with h | h <;> omega
    · have hq1 : ¬ ((0 : Int) < q) := by omega
      have hLk : ¬ ((ds.length : Int) < k) := by omega
      have hfin : ds = pad k n := by
        rw [← hfr.out, show k - ds.length = 0 by omega, show q = 0 by omega]; rfl
      have HFN := Lib.hid hfin
      clear hfin hfr hgo
      go_wp2
      go_ret
      exact ⟨by rw [← HFN.out]; rfl, hb⟩

end Go.Proofs.YteelmjmiankflaaGreatDoor.Cal

set_option linter.unusedVariables false
set_option linter.unusedSimpArgs false
namespace Go.Proofs.YteelmjmiankflaaGreatDoor.Num
open Go Go.RowKit Go.Proofs.YteelmjmiankflaaGreatDoor.Kit Go.Proofs.YteelmjmiankflaaGreatDoor.Utf

theorem test_tx {a b : List Int} (ha : ∀ c ∈ a, validRune c = true) (hb : ∀ c ∈ b, validRune c = true) : ((tx a).toList == (tx b).toList) = decide (a = b) := by
  rw [ByteArray.toList_eq, ByteArray.toList_eq]
  by_cases h : a = b
  · simp [h]
  · have : ¬ (tx a).data.toList = (tx b).data.toList := fun e => h (tx_inj ha hb (ba_ext e))
    rw [decide_eq_false h]; simp only [beq_eq_false_iff_ne]; exact this
theorem test_t {a b : List Int} (ha : ∀ c ∈ a, validRune c = true) (hb : ∀ c ∈ b, validRune c = true) (h : a = b) : ((tx a).toList == (tx b).toList) = true := by rw [test_tx ha hb]; simpa using h
theorem test_f {a b : List Int} (ha : ∀ c ∈ a, validRune c = true) (hb : ∀ c ∈ b, validRune c = true) (h : ¬ a = b) : ((tx a).toList == (tx b).toList) = false := by rw [test_tx ha hb]; simpa using h

theorem val_one {c : Int} (h : validRune c = true) : ∀ x ∈ [c], validRune x = true := fun x hx => by rw [List.mem_singleton.1 hx]; exact h
theorem val_pd : ∀ d, d < 10 → ∀ x ∈ [pd d], validRune x = true := by decide
theorem val_fd : ∀ d, d < 10 → ∀ x ∈ [fd d], validRune x = true := by decide
theorem val_pu : ∀ d, d < 4 → ∀ x ∈ pu d, validRune x = true := by decide
theorem val_fu : ∀ d, d < 4 → ∀ x ∈ fu d, validRune x = true := by decide
theorem val_gu : ∀ d, d < 5 → ∀ x ∈ gu d, validRune x = true := by decide

theorem find_first {n i : Nat} {p : Nat → Bool} (h : i < n) (hp : p i = true) (hj : ∀ j, j < i → p j = false) : (List.range n).find? p = some i := by
  rw [List.find?_range_eq_some]
  exact ⟨hp, by simpa using h, fun j h => by simp [hj j h]⟩
theorem find_none {n : Nat} {p : Nat → Bool} (hj : ∀ j, j < n → p j = false) : (List.range n).find? p = none := by
  rw [List.find?_eq_none]
  intro x hx
  simp [hj x (by simpa using hx)]

def found (o : Option Nat) : Value := .tuple #[.int .i64 ((o.getD 0 : Nat) : Int), .bool o.isSome]

theorem digitOf_any (c : Int) (hc : validRune c = true) (w : World) (hL : Laid w) :
    Calls Tryz.prog 88 #[.int .i32 c] w fun e w' => e = .returned (found (dgt c)) ∧ w' = w := by
  have hE : Utf8.encode c = tx [c] := tx_one c
  have HC := Lib.hid hc; clear hc
  go_enter Tryz.func88, Tryz.ntmps88
  go_wp2
  go_loopw [4, 5, 6] (fun _ _ i wr => ∃ k : Nat, i = .int .i64 k ∧ k ≤ 10 ∧ wr = w ∧ Hid (∀ j, j < k → (pd j == c || fd j == c) = false)) (fun _ _ i _ => 10 - (intOf i).toNat)
  case atStart => exact ⟨0, rfl, by omega, rfl, Lib.hid (fun j h => absurd h (Nat.not_lt_zero j))⟩
  case round =>
    obtain ⟨k, rfl, hk, rfl, hno⟩ := hrel
    by_cases hlt : k < 10
    · have h1 := hL.pd k hlt
      have h2 := hL.fd k hlt
      by_cases e1 : [c] = [pd k]
      · have t1 := test_t (val_one HC.out) (val_pd k hlt) e1
        have hr : dgt c = some k := find_first hlt (by simp at e1; simp [e1]) hno.out
        have HR := Lib.hid hr
        clear hr e1 hno h2
        go_wp2
        go_ret2
        exact ⟨by rw [HR.out]; rfl, rfl⟩
      · have t1 := test_f (val_one HC.out) (val_pd k hlt) e1
        by_cases e2 : [c] = [fd k]
        · have t2 := test_t (val_one HC.out) (val_fd k hlt) e2
          have hr : dgt c = some k := find_first hlt (by simp at e2; simp [e2]) hno.out
          have HR := Lib.hid hr
          clear hr e1 e2 hno
          go_wp2
          go_ret2
          exact ⟨by rw [HR.out]; rfl, rfl⟩
        · have t2 := test_f (val_one HC.out) (val_fd k hlt) e2
          have hno2 : ∀ j, j < k + 1 → (pd j == c || fd j == c) = false := fun j hj => by
            by_cases e : j = k
            · subst e
              simp at e1 e2
              simp only [Bool.or_eq_false_iff, beq_eq_false_iff_ne]
              exact ⟨fun e => e1 e.symm, fun e => e2 e.symm⟩
            · exact hno.out j (by omega)
          have HN := Lib.hid hno2
          clear hno2 e1 e2 hno
          go_wp2
          go_roundw
          case rel => exact ⟨k + 1, by go_num, by omega, trivial, HN⟩
          case measure => simp [intOf]; omega
    · have : k = 10 := by omega
      subst this
      have HR := Lib.hid (show dgt c = none from find_none hno.out)
      clear hno
      go_wp2
      go_ret2
      exact ⟨by rw [HR.out]; rfl, rfl⟩

theorem unitOf_any (c : Int) (hc : validRune c = true) (w : World) (hL : Laid w) :
    Calls Tryz.prog 90 #[.int .i32 c] w fun e w' => e = .returned (found (unt c)) ∧ w' = w := by
  have hE : Utf8.encode c = tx [c] := tx_one c
  have HC := Lib.hid hc; clear hc
  go_enter Tryz.func90, Tryz.ntmps90
  go_wp2
  go_loopw [4, 5, 6] (fun _ _ i wr => ∃ k : Nat, i = .int .i64 k ∧ k ≤ 4 ∧ wr = w ∧ Hid (∀ j, j < k → (pu j == [c] || fu j == [c]) = false)) (fun _ _ i _ => 4 - (intOf i).toNat)
  case atStart => exact ⟨0, rfl, by omega, rfl, Lib.hid (fun j h => absurd h (Nat.not_lt_zero j))⟩
  case round =>
    obtain ⟨k, rfl, hk, rfl, hno⟩ := hrel
    by_cases hlt : k < 4
    · have h1 := hL.pu k hlt
      have h2 := hL.fu k hlt
      by_cases e1 : [c] = pu k
      · have t1 := test_t (val_one HC.out) (val_pu k hlt) e1
        have hr : unt c = some k := find_first hlt (by rw [← e1]; simp) hno.out
        have HR := Lib.hid hr
        clear hr e1 hno h2
        go_wp2
        go_ret2
        exact ⟨by rw [HR.out]; rfl, rfl⟩
      · have t1 := test_f (val_one HC.out) (val_pu k hlt) e1
        by_cases e2 : [c] = fu k
        · have t2 := test_t (val_one HC.out) (val_fu k hlt) e2
          have hr : unt c = some k := find_first hlt (by rw [← e2]; simp) hno.out
          have HR := Lib.hid hr
          clear hr e1 e2 hno
          go_wp2
          go_ret2
          exact ⟨by rw [HR.out]; rfl, rfl⟩
        · have t2 := test_f (val_one HC.out) (val_fu k hlt) e2
          have hno2 : ∀ j, j < k + 1 → (pu j == [c] || fu j == [c]) = false := fun j hj => by
            by_cases e : j = k
            · subst e
              simp only [Bool.or_eq_false_iff, beq_eq_false_iff_ne]
              exact ⟨fun e => e1 e.symm, fun e => e2 e.symm⟩
            · exact hno.out j (by omega)
          have HN := Lib.hid hno2
          clear hno2 e1 e2 hno
          go_wp2
          go_roundw
          case rel => exact ⟨k + 1, by go_num, by omega, trivial, HN⟩
          case measure => simp [intOf]; omega
    · have : k = 4 := by omega
      subst this
      have HR := Lib.hid (show unt c = none from find_none hno.out)
      clear hno
      go_wp2
      go_ret2
      exact ⟨by rw [HR.out]; rfl, rfl⟩

theorem groupOf_any (c : Int) (hc : validRune c = true) (w : World) (hL : Laid w) :
    Calls Tryz.prog 91 #[.int .i32 c] w fun e w' => e = .returned (found (grp c)) ∧ w' = w := by
  have hE : Utf8.encode c = tx [c] := tx_one c
  have HC := Lib.hid hc; clear hc
  go_enter Tryz.func91, Tryz.ntmps91
  go_wp2
  go_loopw [4, 5] (fun _ i wr => ∃ k : Nat, i = .int .i64 k ∧ k ≤ 5 ∧ wr = w ∧ Hid (∀ j, j < k → (gu j == [c]) = false)) (fun _ i _ => 5 - (intOf i).toNat)
  case atStart => exact ⟨0, rfl, by omega, rfl, Lib.hid (fun j h => absurd h (Nat.not_lt_zero j))⟩
  case round =>
    obtain ⟨k, rfl, hk, rfl, hno⟩ := hrel
    by_cases hlt : k < 5
    · have h1 := hL.gu k hlt
      by_cases e1 : [c] = gu k
      · have t1 := test_t (val_one HC.out) (val_gu k hlt) e1
        have hr : grp c = some k := find_first hlt (by rw [← e1]; simp) hno.out
        have HR := Lib.hid hr
        clear hr e1 hno
        go_wp2
        go_ret2
        exact ⟨by rw [HR.out]; rfl, rfl⟩
      · have t1 := test_f (val_one HC.out) (val_gu k hlt) e1
        have hno2 : ∀ j, j < k + 1 → (gu j == [c]) = false := fun j hj => by
          by_cases e : j = k
          · subst e
            simp only [beq_eq_false_iff_ne]
            exact fun e => e1 e.symm
          · exact hno.out j (by omega)
        have HN := Lib.hid hno2
        clear hno2 e1 hno
        go_wp2
        go_roundw
        case rel => exact ⟨k + 1, by go_num, by omega, trivial, HN⟩
        case measure => simp [intOf]; omega
    · have : k = 5 := by omega
      subst this
      have HR := Lib.hid (show grp c = none from find_none hno.out)
      clear hno
      go_wp2
      go_ret2
      exact ⟨by rw [HR.out]; rfl, rfl⟩

end Go.Proofs.YteelmjmiankflaaGreatDoor.Num
