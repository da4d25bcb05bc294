/-
  The forms of a day with a year; contract of caldate.formsWithYear.
-/
import Derived.Test.YteelmjmiankflaaDoorCalS
import Derived.Deep.RegionLaw
import Derived.Deep.AppendLies
set_option linter.unusedVariables false
set_option linter.unusedSimpArgs false
namespace Go.Proofs.YteelmjmiankflaaDoor.Cal
open Go Go.RowKit Go.Proofs.YteelmjmiankflaaDoor.Kit Go.Proofs.YteelmjmiankflaaDoor.Utf
open Go.Proofs.YteelmjmiankflaaDoor.Num

def plainF (y m d : Nat) : List Int := joinC decC [(y, 1, [24180]), (m, 1, [26376]), (d, 1, [26085])]
def sepF (c : Int) (y m d : Nat) : List Int := joinC decC [(y, 4, [c]), (m, 2, [c]), (d, 2, [])]
def eraF (out : Nat → Nat → List Int → List Int) (e m d : Nat) : List Int := joinC (eraC out) [(e, 1, [24180]), (m, 1, [26376]), (d, 1, [26085])]
def firstForms (wd : Int) (y m d : Nat) : List (List Int) := [plainF y m d, plainF y m d ++ [40] ++ [wd] ++ [41]]
def sepForms (y m d : Nat) : List (List Int) := [sepF 47 y m d, sepF 45 y m d]
def eraForms (k e m d : Nat) : List (List Int) := [eN k ++ eraF decC e m d, eN k ++ eraF kanC e m d]
def eYear (k y : Nat) : Nat := (ye y (some k)).toNat
def yearForms (day : Int) (y m d : Nat) : List (List Int) :=
  (firstForms (wdC (day % 7).toNat) y m d ++ sepForms y m d) ++ (match cur day 5 with | none => [] | some k => eraForms k (eYear k y) m d)
def strs (l : List (List Int)) : List Value := l.map fun c => Value.string (tx c)

theorem cur_le {day : Int} : ∀ {n k : Nat}, cur day n = some k → eF k ≤ day
  | 0, k, h => by cases h
  | n + 1, k, h => by
    unfold cur at h
    split at h
    · cases h; assumption
    · exact cur_le h
theorem era_year {day : Int} {y m d : Nat} (h : IsDate day y m d) {k : Nat} (hk : cur day 5 = some k) : eY k ≤ y ∧ ye (y : Int) (some k) = (eYear k y : Nat) ∧ 1 ≤ eYear k y ∧ eYear k y ≤ 8132 := by
  have h5 := cur_lt hk
  have hle := cur_le hk
  have hv := (eF_valid k h5).in_year
  have hy := h.1.in_year
  rw [← h.2] at hy
  have hb := eY_bounds k h5
  have hle2 : eY k ≤ y := by
    by_cases hc : eY k ≤ (y : Int)
    · exact hc
    · exfalso
      have := DT_mono (show (y : Int) ≤ eY k - 1 by omega)
      have e : num (eY k) (eM k) (eD k) = eF k := rfl
      rw [e] at hv
      omega
  have e1 : ye (y : Int) (some k) = y - eY k + 1 := rfl
  have := h.1.2.1
  refine ⟨hle2, ?_, ?_, ?_⟩ <;> unfold eYear <;> rw [e1] <;> omega

theorem string_info : (Tryd.prog.info? 9).map (fun i => (i.zero, i.size, i.bytes)) = some (some (.string { data := #[] }), 1, 16) := by kernel_rfl

theorem joinC_len (out : Nat → Nat → List Int → List Int) (h : ∀ n k u, n ≤ 9999 → k ≤ 4 → u ∈ unitL → (encs (out n k u)).length ≤ 400) : ∀ fs : List Fld, (∀ f ∈ fs, FOk f) → (encs (joinC out fs)).length ≤ 400 * fs.length
  | [], _ => by simp [joinC, encs]
  | f :: fs, hf => by
    have := joinC_len out h fs (fun g hg => hf g (List.mem_cons_of_mem _ hg))
    obtain ⟨o1, o2, o3⟩ := hf f List.mem_cons_self
    have h1 := h f.1 f.2.1 f.2.2 o1 o2 o3
    show (encs (out f.1 f.2.1 f.2.2 ++ joinC out fs)).length ≤ _
    rw [encs_append, List.length_append, List.length_cons]
    omega
theorem ok3 {n1 n2 n3 k1 k2 k3 : Nat} {u1 u2 u3 : List Int} (h1 : n1 ≤ 9999) (h2 : n2 ≤ 9999) (h3 : n3 ≤ 9999) (hk1 : k1 ≤ 4) (hk2 : k2 ≤ 4) (hk3 : k3 ≤ 4) (hu1 : u1 ∈ unitL) (hu2 : u2 ∈ unitL) (hu3 : u3 ∈ unitL) : ∀ f ∈ ([(n1, k1, u1), (n2, k2, u2), (n3, k3, u3)] : List Fld), FOk f := by
  intro f hf
  simp only [List.mem_cons, List.not_mem_nil, or_false] at hf
  rcases hf with rfl | rfl | rfl
  · exact ⟨h1, hk1, hu1⟩
  · exact ⟨h2, hk2, hu2⟩
  · exact ⟨h3, hk3, hu3⟩

/-- Month and day of the month lie in boxes. -/
def mC (m : Nat) : Array Value := #[.int .i64 m, .int .i64 1, .string { data := #[230, 156, 136] }]
def dC (d : Nat) : Array Value := #[.int .i64 d, .int .i64 1, .string { data := #[230, 151, 165] }]
def MB (p m d : Nat) (w : World) : Prop := w.heap[p]? = some (.cells (mC m) 47) ∧ w.heap[p + 1]? = some (.cells (dC d) 47)
theorem MB.below {B p m d : Nat} {w w' : World} (h : MB p m d w) (hb : Below B w w') (hB : p + 1 < B) : MB p m d w' := ⟨by rw [hb.block _ (by omega)]; exact h.1, by rw [hb.block _ hB]; exact h.2⟩
theorem MB.lt {p m d : Nat} {w : World} (h : MB p m d w) : p + 1 < w.heap.size := (Array.getElem?_eq_some_iff.1 h.2).1
theorem MB.next {p m d : Nat} {w w' : World} (h : MB p m d w) (hb : Below w.heap.size w w') : MB p m d w' := h.below hb h.lt

/-- What holds behind each step of formsWithYear. -/
structure At (w0 : World) (p m d : Nat) (w : World) : Prop where
  laid : FLaid w
  box : MB p m d w
  bel : Below w0.heap.size w0 w
  le : w0.heap.size ≤ p
theorem At.next {w0 w w' : World} {p m d : Nat} (h : At w0 p m d w) (hb : Below w.heap.size w w') : At w0 p m d w' := ⟨h.laid.next hb, h.box.next hb, h.bel.trans (hb.mono h.bel.size), h.le⟩
theorem At.alloc {w0 w : World} {p m d : Nat} (h : At w0 p m d w) (o : Obj) : At w0 p m d (w.alloc o) := h.next ((Below.refl _ w).alloc (Nat.le_refl _) _)
theorem At.drew {w0 w : World} {p m d : Nat} (h : At w0 p m d w) : At w0 p m d w.drew := h.next (Below.refl _ w).drew
theorem At.own {w0 w w' : World} {p m d : Nat} (h : At w0 p m d w) (hL : FLaid w0) (hb : Below (p + 2) w w') : At w0 p m d w' := by
  have hb' : Below w0.heap.size w0 w' := h.bel.trans (hb.mono (by have := h.le; omega))
  exact ⟨hL.next hb', h.box.below hb (by omega), hb', h.le⟩
theorem own_row (w : World) (xs : Array Value) (e : TypeId) (base n : Nat) (hn : xs.size = n) (hm : n ≤ maxLen) (hb : base ≤ w.heap.size) : (w.alloc (.cells xs e)).ownsRow base e 1 (.slice (some ⟨w.heap.size, 0, none⟩) n n) n xs.toList := by
  subst hn
  exact ⟨by simp, .inr ⟨w.heap.size, xs.size, xs, rfl, hb, heap_alloc_new w _, Nat.le_refl _, hm, by simp, by rw [Nat.mul_one]; exact List.take_of_length_le (by simp)⟩⟩

theorem own_shape {w : World} {B e : Nat} {v : Value} {n : Nat} {xs : List Value} (h : w.ownsRow B e 1 v n xs) : ∃ a cap, v = .slice a n cap := by
  rcases h.2 with ⟨rfl, rfl⟩ | ⟨g, cap, cur, rfl, _⟩
  · exact ⟨none, 0, rfl⟩
  · exact ⟨_, cap, rfl⟩

def sepc (k : Nat) : Int := [47, 45].getD k 0
def sepB (k : Nat) : ByteArray := tx [sepc k]
theorem index_sep (k : Nat) (hk : k < 2) (w : World) : (Instr.index 52 (.agg #[.string { data := #[47] }, .string { data := #[45] }]) (.int .i64 k)).run Tryd.prog w = .ok (.string (sepB k)) w := by
  rcases (by omega : k = 0 ∨ k = 1) with rfl | rfl <;> kernel_rfl
theorem sep_unit : ∀ k, k < 2 → [sepc k] ∈ unitL := by decide
theorem sep_take (y m d k : Nat) (hk : k < 2) : (sepForms y m d).take (k + 1) = (sepForms y m d).take k ++ [sepF (sepc k) y m d] := by
  rcases (by omega : k = 0 ∨ k = 1) with rfl | rfl <;> rfl

/-- The row of the first form's fields. -/
abbrev firstC (y m d : Nat) : Array Value := #[.int .i64 y, .int .i64 1, .string { data := #[229, 185, 180] }, .int .i64 m, .int .i64 1, .string { data := #[230, 156, 136] }, .int .i64 d, .int .i64 1, .string { data := #[230, 151, 165] }]
abbrev firstW (y m d : Nat) (w1 : World) : World := ((w1.alloc (.cells (mC m) 47)).alloc (.cells (dC d) 47)).alloc (.cells (firstC y m d) 47)
theorem first_at {w w1 : World} {y m d : Nat} (hL : FLaid w) (hb1 : Below w.heap.size w w1) : At w w1.heap.size m d (firstW y m d w1) ∧ (firstW y m d w1).heap[w1.heap.size + 1 + 1]? = some (.cells (firstC y m d) 47) := by
  have s1 := size_alloc w1 (.cells (mC m) 47)
  have s2 := size_alloc (w1.alloc (.cells (mC m) 47)) (.cells (dC d) 47)
  have hbx : Below w1.heap.size w1 (firstW y m d w1) := (((Below.refl _ w1).alloc (Nat.le_refl _) _).alloc (by rw [s1]; omega) _).alloc (by rw [s2, s1]; omega) _
  refine ⟨⟨(hL.next hb1).next hbx, ⟨?_, ?_⟩, hb1.trans (hbx.mono hb1.size), hb1.size⟩, ?_⟩
  · rw [heap_alloc_old _ _ (by rw [s2, s1]; omega), heap_alloc_old _ _ (by rw [s1]; omega)]; exact heap_alloc_new _ _
  · rw [heap_alloc_old _ _ (by rw [s2, s1]; omega), ← s1]; exact heap_alloc_new _ _
  · rw [← s1, ← s2]; exact heap_alloc_new _ _

/-- The two ways in which a day of an era is written. -/
def eraFn (j : Nat) : FuncId := [27, 31].getD j 0
def outJ (j : Nat) : Nat → Nat → List Int → List Int := if j = 0 then decC else kanC
theorem eraFn_fn (j : Nat) (hj : j < 2) : FieldFn (eraFn j) #[] (outJ j) (fun _ => True) := by
  rcases (by omega : j = 0 ∨ j = 1) with rfl | rfl
  · exact decimal_fn
  · exact kanji_fn
theorem outJ_len (j : Nat) (hj : j < 2) : ∀ n k u, n ≤ 9999 → k ≤ 4 → u ∈ unitL → (encs (outJ j n k u)).length ≤ 400 := by
  rcases (by omega : j = 0 ∨ j = 1) with rfl | rfl
  · exact dec_len
  · exact kan_len
theorem eraFn_enter (j : Nat) (hj : j < 2) : ∀ args w, (callFunc (eraFn j) args).run Tryd.prog w = .ok (.enter (eraFn j) args) w := by
  rcases (by omega : j = 0 ∨ j = 1) with rfl | rfl <;> exact fun _ _ => by kernel_rfl
theorem index_era2 (j : Nat) (hj : j < 2) (w : World) : (Instr.index 53 (.agg #[.func (.func 27) #[] #[], .func (.func 31) #[] #[]]) (.int .i64 j)).run Tryd.prog w = .ok (.func (.func (eraFn j)) #[] #[]) w := by
  rcases (by omega : j = 0 ∨ j = 1) with rfl | rfl <;> kernel_rfl
theorem era_take (k e m d j : Nat) (hj : j < 2) : (eraForms k e m d).take (j + 1) = (eraForms k e m d).take j ++ [eN k ++ eraF (outJ j) e m d] := by
  rcases (by omega : j = 0 ∨ j = 1) with rfl | rfl <;> rfl

theorem join_era (j : Nat) (hj : j < 2) (e m d : Nat) (he : e ≤ 9999) (hm : m ≤ 9999) (hd : d ≤ 9999) (W : World) (p g : Nat) (t t2 : TypeId) (fz fz2 : Nat × Nat) (hp : W.heap[p]? = some (.cells #[.func (.func (eraFn j)) #[] #[]] t2 fz2))
    (hg : W.heap[g]? = some (.cells #[.int .i64 e, .int .i64 1, .string { data := #[229, 185, 180] }, .int .i64 m, .int .i64 1, .string { data := #[230, 156, 136] }, .int .i64 d, .int .i64 1, .string { data := #[230, 151, 165] }] t fz)) (hL : FLaid W) :
    Calls Tryd.prog 26 #[.func (.func 39) #[] #[.pointer (some ⟨p, 0, none⟩)], .slice (some ⟨g, 0, none⟩) 3 3] W fun e' w' => e' = .returned (.string (tx (eraF (outJ j) e m d))) ∧ Below W.heap.size W w' := by
  have u0 : tx [24180] = { data := #[229, 185, 180] } := by decide +kernel
  have u1 : tx [26376] = { data := #[230, 156, 136] } := by decide +kernel
  have u2 : tx [26085] = { data := #[230, 151, 165] } := by decide +kernel
  have hps : p < W.heap.size := (Array.getElem?_eq_some_iff.1 hp).1
  exact join3_at (inEra1_fn (eraFn j) (outJ j) (eraFn_fn j hj) (eraFn_enter j hj) p) (fun _ _ => by kernel_rfl) (era_len _ (outJ_len j hj)) e 1 [24180] m 1 [26376] d 1 [26085]
    ⟨he, by show 1 ≤ 4; decide, by show [24180] ∈ unitL; decide⟩ ⟨hm, by show 1 ≤ 4; decide, by show [26376] ∈ unitL; decide⟩ ⟨hd, by show 1 ≤ 4; decide, by show [26085] ∈ unitL; decide⟩
    e m d 1 1 1 _ _ _ rfl rfl rfl rfl rfl rfl u0.symm u1.symm u2.symm g W t fz hg hL (by rw [cell_of_row W p 0 _ t2 fz2 hp]; rfl)
    (fun W1 W2 h hb _ => by rw [hb.cell (p := ⟨p, 0, none⟩) hps]; exact h)
theorem eraF_len (j : Nat) (hj : j < 2) (e m d : Nat) (he : e ≤ 9999) (hm : m ≤ 9999) (hd : d ≤ 9999) : (encs (eraF (outJ j) e m d)).length ≤ 1200 :=
  joinC_len (eraC (outJ j)) (era_len _ (outJ_len j hj)) [(e, 1, [24180]), (m, 1, [26376]), (d, 1, [26085])] (ok3 he hm hd (by decide) (by decide) (by decide) (by decide) (by decide) (by decide))
theorem eN_len : ∀ k, k < 5 → (encs (eN k)).length ≤ 6 := by decide

/-- The months' and days' boxes, cell by cell. -/
theorem box_cells {p m d : Nat} {w : World} (h : MB p m d w) : w.cell? ⟨p, 0, none⟩ = some (.int .i64 m) ∧ w.cell? ⟨p, 1, none⟩ = some (.int .i64 1) ∧ w.cell? ⟨p, 2, none⟩ = some (.string { data := #[230, 156, 136] }) ∧
    w.cell? ⟨p + 1, 0, none⟩ = some (.int .i64 d) ∧ w.cell? ⟨p + 1, 1, none⟩ = some (.int .i64 1) ∧ w.cell? ⟨p + 1, 2, none⟩ = some (.string { data := #[230, 151, 165] }) := by
  have a := fun j => cell_of_row w p j _ _ _ h.1
  have b := fun j => cell_of_row w (p + 1) j _ _ _ h.2
  exact ⟨a 0, a 1, a 2, b 0, b 1, b 2⟩

/-- The last call of a round, whichever of both blocks was laid first. -/
abbrev eraC9 (e m d : Nat) : Array Value := #[.int .i64 e, .int .i64 1, .string { data := #[229, 185, 180] }, .int .i64 m, .int .i64 1, .string { data := #[230, 156, 136] }, .int .i64 d, .int .i64 1, .string { data := #[230, 151, 165] }]
theorem era_worlds {w0 w : World} {p : Nat} (j : Nat) (hj : j < 2) (e m d : Nat) (he : e ≤ 9999) (hm : m ≤ 9999) (hd : d ≤ 9999) (h : At w0 p m d w) :
    (Calls Tryd.prog 26 #[.func (.func 39) #[] #[.pointer (some ⟨w.heap.size, 0, none⟩)], .slice (some ⟨w.heap.size + 1, 0, none⟩) 3 3] ((w.alloc (.cells #[.func (.func (eraFn j)) #[] #[]] 45)).alloc (.cells (eraC9 e m d) 47)).drew
      fun e' w' => e' = .returned (.string (tx (eraF (outJ j) e m d))) ∧ Below w.heap.size w.drew w') ∧
    (Calls Tryd.prog 26 #[.func (.func 39) #[] #[.pointer (some ⟨w.heap.size + 1, 0, none⟩)], .slice (some ⟨w.heap.size, 0, none⟩) 3 3] ((w.alloc (.cells (eraC9 e m d) 47)).alloc (.cells #[.func (.func (eraFn j)) #[] #[]] 45)).drew
      fun e' w' => e' = .returned (.string (tx (eraF (outJ j) e m d))) ∧ Below w.heap.size w.drew w') := by
  have hd1 := h.drew
  have hs : w.drew.heap.size = w.heap.size := rfl
  constructor
  · have s1 := size_alloc w.drew (.cells #[.func (.func (eraFn j)) #[] #[]] 45)
    have hb : Below w.heap.size w.drew ((w.drew.alloc (.cells #[.func (.func (eraFn j)) #[] #[]] 45)).alloc (.cells (eraC9 e m d) 47)) := ((Below.refl _ w.drew).alloc (Nat.le_refl _) _).alloc (by rw [s1, hs]; omega) _
    refine (join_era j hj e m d he hm hd _ w.heap.size (w.heap.size + 1) 47 45 (0, 0) (0, 0) ?_ ?_ ((hd1.alloc _).alloc _).laid).mono fun e' w' hq => ⟨hq.1, hb.trans (hq.2.mono (by rw [size_alloc, s1, hs]; omega))⟩
    · rw [heap_alloc_old _ _ (by rw [s1, hs]; omega)]; exact heap_alloc_new _ _
    · rw [show w.heap.size + 1 = (w.drew.alloc (.cells #[.func (.func (eraFn j)) #[] #[]] 45)).heap.size by rw [s1, hs]]; exact heap_alloc_new _ _
  · have s1 := size_alloc w.drew (.cells (eraC9 e m d) 47)
    have hb : Below w.heap.size w.drew ((w.drew.alloc (.cells (eraC9 e m d) 47)).alloc (.cells #[.func (.func (eraFn j)) #[] #[]] 45)) := ((Below.refl _ w.drew).alloc (Nat.le_refl _) _).alloc (by rw [s1, hs]; omega) _
    refine (join_era j hj e m d he hm hd _ (w.heap.size + 1) w.heap.size 47 45 (0, 0) (0, 0) ?_ ?_ ((hd1.alloc _).alloc _).laid).mono fun e' w' hq => ⟨hq.1, hb.trans (hq.2.mono (by rw [size_alloc, s1, hs]; omega))⟩
    · rw [show w.heap.size + 1 = (w.drew.alloc (.cells (eraC9 e m d) 47)).heap.size by rw [s1, hs]]; exact heap_alloc_new _ _
    · rw [heap_alloc_old _ _ (by rw [s1, hs]; omega)]; exact heap_alloc_new _ _

set_option maxHeartbeats 8000000 in
theorem formsY_at (day : Int) (y m d : Nat) (h : IsDate day y m d) (w : World) (hL : FLaid w) :
    Calls Tryd.prog 25 #[.int .i64 day] w fun e w' => ∃ v, e = .returned v ∧ w'.ownsRow w.heap.size 9 1 v (yearForms day y m d).length (strs (yearForms day y m d)) ∧ Below w.heap.size w w' := by
  have hr := h.range
  have hv := h.1
  obtain ⟨v1, v2, v3, v4, v5, v6⟩ := hv
  have v7 := (len_bounds y m).2
  have by1 : y ≤ 9999 := by omega
  have bm1 : m ≤ 9999 := by omega
  have bd1 : d ≤ 9999 := by omega
  have HD := Lib.hid (fun W hW => date_is day y m d h W hW)
  have HWd := Lib.hid (fun W hW => weekday_is day hr.1 hr.2 W hW)
  have HE := Lib.hid (fun W hW => era_is day y m d h W hW)
  have u0 : tx [24180] = { data := #[229, 185, 180] } := by decide +kernel
  have u1 : tx [26376] = { data := #[230, 156, 136] } := by decide +kernel
  have u2 : tx [26085] = { data := #[230, 151, 165] } := by decide +kernel
  have o1 : FOk (y, 1, [24180]) := ⟨by1, by show 1 ≤ 4; decide, by show [24180] ∈ unitL; decide⟩
  have o2 : FOk (m, 1, [26376]) := ⟨bm1, by show 1 ≤ 4; decide, by show [26376] ∈ unitL; decide⟩
  have o3 : FOk (d, 1, [26085]) := ⟨bd1, by show 1 ≤ 4; decide, by show [26085] ∈ unitL; decide⟩
  have HJ1 := Lib.hid (fun (g : Nat) (W : World) (t : TypeId) (fz : Nat × Nat) hg (hW : FLaid W) => join3_at decimal_fn (fun _ _ => by kernel_rfl) dec_len y 1 [24180] m 1 [26376] d 1 [26085] o1 o2 o3 y m d 1 1 1 _ _ _ rfl rfl rfl rfl rfl rfl u0.symm u1.symm u2.symm g W t fz hg hW trivial (fun _ _ _ _ _ => trivial))
  have hPl := joinC_len decC dec_len [(y, 1, [24180]), (m, 1, [26376]), (d, 1, [26085])] (ok3 by1 bm1 bd1 (by decide) (by decide) (by decide) (by decide) (by decide) (by decide))
  have hP : joinC decC [(y, 1, [24180]), (m, 1, [26376]), (d, 1, [26085])] = plainF y m d := rfl
  rw [hP] at HJ1 hPl
  have hPl2 : (encs (plainF y m d)).length ≤ 1200 := hPl
  have e0 : tx [] = { data := #[] } := rfl
  have HJ2 := Lib.hid (fun (k : Nat) (hk : k < 2) (g : Nat) (W : World) (t : TypeId) (fz : Nat × Nat) hg (hW : FLaid W) => join3_at decimal_fn (fun _ _ => by kernel_rfl) dec_len y 4 [sepc k] m 2 [sepc k] d 2 [] ⟨by1, by show 4 ≤ 4; decide, sep_unit k hk⟩ ⟨bm1, by show 2 ≤ 4; decide, sep_unit k hk⟩ ⟨bd1, by show 2 ≤ 4; decide, by show ([] : List Int) ∈ unitL; decide⟩ y m d 4 2 2 (sepB k) (sepB k) _ rfl rfl rfl rfl rfl rfl rfl rfl e0.symm g W t fz hg hW trivial (fun _ _ _ _ _ => trivial))
  have hQ : ∀ k, joinC decC [(y, 4, [sepc k]), (m, 2, [sepc k]), (d, 2, [])] = sepF (sepc k) y m d := fun k => rfl
  simp only [hQ] at HJ2
  clear e0 hQ
  obtain ⟨i0, hi, hz0, hz1, hz2⟩ := info_parts string_info
  have e40 : tx [40] = { data := #[40] } := by decide +kernel
  have e41 : tx [41] = { data := #[41] } := by decide +kernel
  have wl : (encs [wdC (day % 7).toNat]).length ≤ 4 := by
    have : (day % 7).toNat < 7 := by omega
    have hall : ∀ k, k < 7 → (encs [wdC k]).length ≤ 4 := by decide
    exact hall _ this
  have hx1 := add_tx (plainF y m d) [40] (by have : (encs [40]).length = 1 := by decide
                                             omega)
  have hx2 := add_tx (plainF y m d ++ [40]) [wdC (day % 7).toNat] (by
    have : (encs [40]).length = 1 := by decide
    rw [encs_append, List.length_append]; omega)
  have hx3 := add_tx (plainF y m d ++ [40] ++ [wdC (day % 7).toNat]) [41] (by
    have h1 : (encs [40]).length = 1 := by decide
    have h2 : (encs [41]).length = 1 := by decide
    rw [encs_append, encs_append, List.length_append, List.length_append]; omega)
  rw [e40] at hx1
  rw [e41] at hx3
  have HYF := Lib.hid (show yearForms day y m d = ([plainF y m d, plainF y m d ++ [40] ++ [wdC (day % 7).toNat] ++ [41]] ++ sepForms y m d) ++ (match cur day 5 with | none => [] | some k => eraForms k (eYear k y) m d) from rfl)
  generalize wdC (day % 7).toNat = wd at *
  generalize hPg : plainF y m d = P at *
  obtain ⟨Pa, hPa⟩ : ∃ Pa, P ++ [40] = Pa := ⟨_, rfl⟩
  rw [hPa] at hx1 hx2 hx3 HYF
  obtain ⟨Pb, hPb⟩ : ∃ Pb, Pa ++ [wd] = Pb := ⟨_, rfl⟩
  rw [hPb] at hx2 hx3 HYF
  obtain ⟨P2, hP2⟩ : ∃ P2, Pb ++ [41] = P2 := ⟨_, rfl⟩
  rw [hP2] at hx3 HYF
  clear u0 u1 u2 v6 v7 hPl hPl2 hP hPg hP2 hPa hPb wl e40 e41 o1 o2 o3
  go_enter Tryd.func25, Tryd.ntmps25
  go_wp2_with (first
    | (go_at_call 9; (with_reducible refine (HD.out _ hL.era.base).mono ?_); rintro e w1 ⟨rfl, hb1⟩
       obtain ⟨hat3, hg3⟩ := first_at (y := y) (m := m) (d := d) hL hb1
       have HG3 := Lib.hid hg3
       have HA3 := Lib.hid hat3
       clear hg3 hat3 hb1)
    | (go_at_call 26; refine (HJ1.out _ _ _ _ HG3.out HA3.out.laid).mono ?_; rintro e w3 ⟨rfl, hb3⟩
       have HA4 := Lib.hid (HA3.out.next hb3)
       clear hb3 HG3 HA3)
    | (go_at_call 12; (with_reducible refine (HWd.out _ HA4.out.laid.era.base).mono ?_); rintro e w4 ⟨rfl, hb4⟩
       have HA5 := Lib.hid (HA4.out.next hb4)
       clear hb4 HA4))
  obtain ⟨p, hp⟩ : ∃ p, w1.heap.size = p := ⟨_, rfl⟩
  rw [hp] at HA5 ⊢
  clear hp
  have hAt := (HA5.out.alloc (.cells #[.string (tx P), .string (tx P2)] 9))
  have hps : p + 2 ≤ w4.heap.size := HA5.out.box.lt
  have hown := own_row w4 #[.string (tx P), .string (tx P2)] 9 (p + 2) 2 rfl (by unfold maxLen; decide) hps
  have hslt : p + 2 ≤ (w4.alloc (.cells #[.string (tx P), .string (tx P2)] 9)).heap.size := hAt.box.lt
  obtain ⟨g, hg⟩ : ∃ g, w4.heap.size = g := ⟨_, rfl⟩
  rw [hg] at hown ⊢
  obtain ⟨W, hW⟩ : ∃ W, w4.alloc (.cells #[.string (tx P), .string (tx P2)] 9) = W := ⟨_, rfl⟩
  rw [hW] at hAt hown hslt ⊢
  clear hg hW hps HA5 hx1 hx2 hx3 HJ1 HD HWd
  have HX := Lib.hid (fun k hk W => index_sep k hk W)
  go_loopw [12, 14, 50] (fun v _ i wr => ∃ k : Nat, i = .int .i64 k ∧ k ≤ 2 ∧ At w p m d wr ∧ wr.ownsRow (p + 2) 9 1 v (2 + k) (strs ([P, P2] ++ (sepForms y m d).take k))) (fun _ _ i _ => 2 - (intOf i).toNat)
  case atStart => exact ⟨0, rfl, by omega, hAt, hown⟩
  case round =>
    obtain ⟨k, rfl, hk, hat, ho⟩ := hrel
    by_cases hk2 : k < 2
    · have hx := HX.out k hk2
      have hj := HJ2.out k hk2
      have HT := Lib.hid (sep_take y m d k hk2)
      have hat5 := hat.alloc (.cells #[.int .i64 y, .int .i64 4, .string (sepB k), .int .i64 m, .int .i64 2, .string (sepB k), .int .i64 d, .int .i64 2, .string { data := #[] }] 47)
      have hg5 := heap_alloc_new wr (.cells #[.int .i64 y, .int .i64 4, .string (sepB k), .int .i64 m, .int .i64 2, .string (sepB k), .int .i64 d, .int .i64 2, .string { data := #[] }] 47)
      have ho5 := ho.alloc (.cells #[.int .i64 y, .int .i64 4, .string (sepB k), .int .i64 m, .int .i64 2, .string (sepB k), .int .i64 d, .int .i64 2, .string { data := #[] }] 47)
      have HJ3 := Lib.hid (hj _ _ _ _ hg5 hat5.laid)
      have HA5 := Lib.hid hat5
      have HO5 := Lib.hid ho5
      obtain ⟨x, hxx⟩ : ∃ x, sepF (sepc k) y m d = x := ⟨_, rfl⟩
      rw [hxx] at HJ3 HT
      obtain ⟨B, hBk⟩ : ∃ B, sepB k = B := ⟨_, rfl⟩
      simp only [hBk] at hx HJ3 HA5 HO5
      obtain ⟨a, cap, hv⟩ := own_shape ho
      subst hv
      have hk0 : (k : Int) < 2 := by omega
      clear hat5 hg5 ho5 hat ho hxx hBk hj
      go_wp2_with (first
        | (go_at_call 26; refine HJ3.out.mono ?_; rintro e w6 ⟨rfl, hb6⟩
           have ho6 := own_later HO5.out hb6
           have HA6 := Lib.hid (HA5.out.next hb6)
           have hp6 : p + 2 ≤ w6.heap.size := HA6.out.box.lt
           clear hb6 HO5 HA5 HJ3)
        | (at_builtin; refine wpList_append_own _ rfl _ _ _ rfl (p + 2) 9 i0 (.string { data := #[] }) 1 16 Tryd.underlying34 hi hz0 hz1 hz2 rfl (by decide) _ (2 + k) (strs ([P, P2] ++ (sepForms y m d).take k)) rfl (ho6.alloc _) ⟨w6.heap.size, 0, none⟩ 1 1 [.string (tx x)] rfl rfl (cell_one_new _ _ _) ?c2 ?c3 ?c4 ?c5 ?_))
      case c2 => simp [Value.oneCell']
      case c3 => unfold maxLen; omega
      case c4 => omega
      case c5 => rw [size_alloc]; omega
      intro v' w7 hown7 hg7 hiff
      clear hiff
      have hb7 := below_own (Below.refl (p + 2) (w6.alloc (.cells #[.string (tx x)] 9))) (ho6.alloc _) (Nat.le_refl _) (by rw [size_alloc]; omega) hg7
      have hat7 := (HA6.out.alloc (.cells #[.string (tx x)] 9)).own hL hb7
      have hown8 : w7.ownsRow (p + 2) 9 1 v' (2 + (k + 1)) (strs ([P, P2] ++ (sepForms y m d).take (k + 1))) := by
        rw [HT.out, ← List.append_assoc, strs, List.map_append]; exact hown7
      clear hown7 hg7 ho6 hb7 HA6 HT
      go_wp2
      go_roundw
      case rel => exact ⟨k + 1, by go_num, by omega, hat7, hown8⟩
      case measure => simp [intOf] <;> omega
    · obtain rfl : k = 2 := by omega
      have hfull : (sepForms y m d).take 2 = sepForms y m d := rfl
      rw [hfull] at ho
      obtain ⟨a, cap, hv⟩ := own_shape ho
      subst hv
      have HA := Lib.hid hat
      have hfin : (2 : Int) + 2 = 4 := rfl
      clear hat hfull HX HJ2
      rcases hc : cur day 5 with _ | q
      · rw [hc] at HE
        have HY2 := Lib.hid (show yearForms day y m d = [P, P2] ++ sepForms y m d by rw [HYF.out, hc]; exact List.append_nil _)
        clear hc HYF
        go_wp2_with (go_at_call 14; refine (HE.out _ HA.out.laid.era).mono ?_; rintro e w8 ⟨rfl, hb8⟩)
        go_ret
        exact ⟨_, rfl, by rw [HY2.out]; exact own_base (own_later ho hb8) (by have := HA.out.le; omega), (HA.out.next hb8).bel⟩
      · obtain ⟨ey1, ey2, ey3, ey4⟩ := era_year h hc
        have hq5 := cur_lt hc
        have HY2 := Lib.hid (show yearForms day y m d = ([P, P2] ++ sepForms y m d) ++ eraForms q (eYear q y) m d by rw [HYF.out, hc])
        rw [hc, ey2] at HE
        obtain ⟨E, hE⟩ : ∃ E, eYear q y = E := ⟨_, rfl⟩
        rw [hE] at HE HY2 ey3 ey4
        have HN := Lib.hid (eN_len q hq5)
        have hnm : nm (some q) = tx (eN q) := rfl
        rw [hnm] at HE
        clear hc HYF hE hnm ey1 ey2
        go_wp2_with (go_at_call 14; refine (HE.out _ HA.out.laid.era).mono ?_; rintro e w8 ⟨rfl, hb8⟩)
        have ho8 := own_later ho hb8
        have hat8 := HA.out.next hb8
        clear ho hb8 HA HE
        go_loopw [12, 19, 75] (fun v _ i wr => ∃ j : Nat, i = .int .i64 j ∧ j ≤ 2 ∧ At w p m d wr ∧ wr.ownsRow (p + 2) 9 1 v (4 + j) (strs (([P, P2] ++ sepForms y m d) ++ (eraForms q E m d).take j))) (fun _ _ i _ => 2 - (intOf i).toNat)
        case atStart => exact ⟨0, rfl, by omega, hat8, by simpa using ho8⟩
        case round =>
          obtain ⟨j, rfl, hj, hat, ho⟩ := hrel
          by_cases hj2 : j < 2
          · have hx := index_era2 j hj2
            have HT := Lib.hid (era_take q E m d j hj2)
            have hadd := add_tx (eN q) (eraF (outJ j) E m d) (by have := HN.out; have := eraF_len j hj2 E m d (by omega) bm1 bd1; omega)
            have HW1 := Lib.hid (inEra_at (eraFn j))
            obtain ⟨hA, hB⟩ := era_worlds j hj2 E m d (by omega) bm1 bd1 hat
            have HA := Lib.hid hA
            have HB := Lib.hid hB
            have cbox := hat.box
            obtain ⟨c0, c1, c2, c3, c4, c5⟩ := box_cells hat.box
            obtain ⟨e0, e1, e2, e3, e4, e5⟩ := box_cells (hat.alloc (.cells #[.func (.func (eraFn j)) #[] #[]] 45)).box
            obtain ⟨x, hxx⟩ : ∃ x, eraF (outJ j) E m d = x := ⟨_, rfl⟩
            rw [hxx] at hadd HA HB HT
            obtain ⟨x2, hx2⟩ : ∃ x2, eN q ++ x = x2 := ⟨_, rfl⟩
            rw [hx2] at hadd HT
            obtain ⟨F, hF⟩ : ∃ F, eraFn j = F := ⟨_, rfl⟩
            simp only [hF] at hx HW1 HA HB e0 e1 e2 e3 e4 e5
            obtain ⟨a, cap, hv⟩ := own_shape ho
            subst hv
            have HO := Lib.hid ho
            have HAt := Lib.hid hat
            have hj0 : (j : Int) < 2 := by omega
            clear hxx hx2 hF ho hat cbox hA hB
            go_wp2
            trace "BEFORE"
            go_region_law (first
              | (go_simp; go_at_call 32; (refine (HW1.out _).mono ?_); rintro e w9 ⟨rfl, rfl⟩)
              | (go_simp; go_at_call 26; (first | with_reducible refine HA.out.mono ?_ | with_reducible refine HB.out.mono ?_); rintro e w10 ⟨rfl, hb10⟩
                 have hb11 : Below wr.heap.size wr w10 := (Below.refl _ wr).drew.trans hb10
                 have ho10 := own_later HO.out hb11
                 have HA10 := Lib.hid (HAt.out.next hb11)
                 have hp10 : p + 2 ≤ w10.heap.size := HA10.out.box.lt
                 clear hb10 hb11)
              | (refine step_append_lies _ (by rfl) (.tmp 78) (.tmp 89) 34 (by rfl) (p + 2) 9 i0 (.string { data := #[] }) 1 16 Tryd.underlying34 hi hz0 hz1 hz2 rfl (by decide) (.slice a (4 + j) cap) (4 + j) _ (by rfl) (ho10.alloc _) ⟨w10.heap.size, 0, none⟩ 1 1 [.string (tx x2)] (by rfl) (by rfl) (cell_one_new _ _ _) (by simp [Value.oneCell']) (by decide) (by unfold maxLen; omega) (by omega) (by rw [size_alloc]; omega) (w10.heap.size + 1) (by rw [size_alloc]) ?_
                 intro g2 cap2 w11 hown11 hg11 hat11 hlt11))
            all_goals
              have hb12 := below_own (Below.refl (p + 2) (w10.alloc (.cells #[.string (tx x2)] 9))) (ho10.alloc _) (Nat.le_refl _) (by rw [size_alloc]; omega) hg11
              have hat12 := (HA10.out.alloc (.cells #[.string (tx x2)] 9)).own hL hb12
              have hown12 : w11.ownsRow (p + 2) 9 1 (.slice (some ⟨g2, 0, none⟩) (4 + (j + 1)) cap2) (4 + (j + 1)) (strs (([P, P2] ++ sepForms y m d) ++ (eraForms q E m d).take (j + 1))) := by
                rw [HT.out, ← List.append_assoc, strs, List.map_append]; exact hown11
              clear hown11 hg11 hat11 hlt11 ho10 hb12 HA10 HT
              go_wp2
              go_roundw
              case rel => exact ⟨j + 1, by go_num, by omega, hat12, hown12⟩
              case measure => simp [intOf] <;> omega
          · obtain rfl : j = 2 := by omega
            have hfull : (eraForms q E m d).take 2 = eraForms q E m d := rfl
            rw [hfull, ← HY2.out] at ho
            have hlen : (yearForms day y m d).length = 4 + 2 := by rw [HY2.out]; rfl
            have HL := Lib.hid hlen
            obtain ⟨a, cap, hv⟩ := own_shape ho
            subst hv
            clear hlen
            go_wp2
            go_ret
            exact ⟨_, rfl, by rw [HL.out]; exact own_base ho (by have := hat.le; omega), hat.bel⟩

end Go.Proofs.YteelmjmiankflaaDoor.Cal
