/-
  caldate.join of two and of three fields that have just been laid.
-/
import Derived.Test.YteelmjmiankflaaDoorCalR
set_option linter.unusedVariables false
set_option linter.unusedSimpArgs false
namespace Go.Proofs.YteelmjmiankflaaDoor.Cal
open Go Go.RowKit Go.Proofs.YteelmjmiankflaaDoor.Kit Go.Proofs.YteelmjmiankflaaDoor.Utf
open Go.Proofs.YteelmjmiankflaaDoor.Num

theorem frow3 (W W' : World) (n1 k1 : Nat) (u1 : List Int) (n2 k2 : Nat) (u2 : List Int) (n3 k3 : Nat) (u3 : List Int) (t : TypeId) (g : Nat) (fz : Nat × Nat)
    (h : W'.heap[g]? = some (.cells #[.int .i64 n1, .int .i64 k1, .string (tx u1), .int .i64 n2, .int .i64 k2, .string (tx u2), .int .i64 n3, .int .i64 k3, .string (tx u3)] t fz)) :
    FRow g [(n1, k1, u1), (n2, k2, u2), (n3, k3, u3)] W' := by
  have hc : ∀ j, W'.cell? ⟨g, j, none⟩ = (#[Value.int .i64 n1, .int .i64 k1, .string (tx u1), .int .i64 n2, .int .i64 k2, .string (tx u2), .int .i64 n3, .int .i64 k3, .string (tx u3)] : Array Value)[j]? := fun j => cell_of_row W' g j _ t fz h
  intro i f hf j v hv
  rw [hc]
  match i, hf with
  | 0, hf =>
    obtain rfl := Option.some.inj hf
    match j, hv with
    | 0, hv => exact hv
    | 1, hv => exact hv
    | 2, hv => exact hv
    | j + 3, hv => cases hv
  | 1, hf =>
    obtain rfl := Option.some.inj hf
    match j, hv with
    | 0, hv => exact hv
    | 1, hv => exact hv
    | 2, hv => exact hv
    | j + 3, hv => cases hv
  | 2, hf =>
    obtain rfl := Option.some.inj hf
    match j, hv with
    | 0, hv => exact hv
    | 1, hv => exact hv
    | 2, hv => exact hv
    | j + 3, hv => cases hv
  | i + 3, hf => cases hf
theorem frow2 (W' : World) (n1 k1 : Nat) (u1 : List Int) (n2 k2 : Nat) (u2 : List Int) (t : TypeId) (g : Nat) (fz : Nat × Nat)
    (h : W'.heap[g]? = some (.cells #[.int .i64 n1, .int .i64 k1, .string (tx u1), .int .i64 n2, .int .i64 k2, .string (tx u2)] t fz)) :
    FRow g [(n1, k1, u1), (n2, k2, u2)] W' := by
  have hc : ∀ j, W'.cell? ⟨g, j, none⟩ = (#[Value.int .i64 n1, .int .i64 k1, .string (tx u1), .int .i64 n2, .int .i64 k2, .string (tx u2)] : Array Value)[j]? := fun j => cell_of_row W' g j _ t fz h
  intro i f hf j v hv
  rw [hc]
  match i, hf with
  | 0, hf =>
    obtain rfl := Option.some.inj hf
    match j, hv with
    | 0, hv => exact hv
    | 1, hv => exact hv
    | 2, hv => exact hv
    | j + 3, hv => cases hv
  | 1, hf =>
    obtain rfl := Option.some.inj hf
    match j, hv with
    | 0, hv => exact hv
    | 1, hv => exact hv
    | 2, hv => exact hv
    | j + 3, hv => cases hv
  | i + 2, hf => cases hf

theorem dec_len : ∀ n k u, n ≤ 9999 → k ≤ 4 → u ∈ unitL → (encs (decC n k u)).length ≤ 400 := by
  intro n k u hn hk hu
  unfold decC
  rw [encs_append, List.length_append, asc_len _ (pad_le k n)]
  have := pad_len hn hk
  have := unit_len u hu
  omega
theorem kan_len : ∀ n k u, n ≤ 9999 → k ≤ 4 → u ∈ unitL → (encs (kanC n k u)).length ≤ 400 := by
  intro n k u hn hk hu
  unfold kanC
  have h1 := size_kanji (digs_DS hn)
  rw [tx_size] at h1
  rw [encs_append, List.length_append]
  have := unit_len u hu
  omega
theorem era_len (out : Nat → Nat → List Int → List Int) (h : ∀ n k u, n ≤ 9999 → k ≤ 4 → u ∈ unitL → (encs (out n k u)).length ≤ 400) : ∀ n k u, n ≤ 9999 → k ≤ 4 → u ∈ unitL → (encs (eraC out n k u)).length ≤ 400 := by
  intro n k u hn hk hu
  unfold eraC
  split
  · decide
  · exact h n k u hn hk hu

/-- Numbers and digits of fields as the walk spells them. -/
def Three (n1 k1 : Nat) (u1 : List Int) (n2 k2 : Nat) (u2 : List Int) (n3 k3 : Nat) (u3 : List Int) : List Fld := [(n1, k1, u1), (n2, k2, u2), (n3, k3, u3)]

theorem join3_at {F : FuncId} {caps : Array Value} {out : Nat → Nat → List Int → List Int} {Inv : World → Prop} (hF : FieldFn F caps out Inv) (eF : ∀ args w, (callFunc F args).run Tryd.prog w = .ok (.enter F args) w)
    (hlen : ∀ n k u, n ≤ 9999 → k ≤ 4 → u ∈ unitL → (encs (out n k u)).length ≤ 400) (n1 k1 : Nat) (u1 : List Int) (n2 k2 : Nat) (u2 : List Int) (n3 k3 : Nat) (u3 : List Int) (h1 : FOk (n1, k1, u1)) (h2 : FOk (n2, k2, u2)) (h3 : FOk (n3, k3, u3))
    (y1 y2 y3 z1 z2 z3 : Int) (s1 s2 s3 : ByteArray) (ey1 : y1 = n1) (ey2 : y2 = n2) (ey3 : y3 = n3) (ez1 : z1 = k1) (ez2 : z2 = k2) (ez3 : z3 = k3) (es1 : s1 = tx u1) (es2 : s2 = tx u2) (es3 : s3 = tx u3)
    (g : Nat) (W : World) (t : TypeId) (fz : Nat × Nat) (hg : W.heap[g]? = some (.cells #[.int .i64 y1, .int .i64 z1, .string s1, .int .i64 y2, .int .i64 z2, .string s2, .int .i64 y3, .int .i64 z3, .string s3] t fz)) (hL : FLaid W) (hI : Inv W)
    (hst : ∀ W1 W2, Inv W1 → Below W.heap.size W1 W2 → W.heap.size ≤ W1.heap.size → Inv W2) :
    Calls Tryd.prog 26 #[.func (.func F) #[] caps, .slice (some ⟨g, 0, none⟩) 3 3] W fun e w' => e = .returned (.string (tx (joinC out [(n1, k1, u1), (n2, k2, u2), (n3, k3, u3)]))) ∧ Below W.heap.size W w' := by
  subst ey1 ey2 ey3 ez1 ez2 ez3 es1 es2 es3
  refine join_at F caps out Inv hF eF hlen [(n1, k1, u1), (n2, k2, u2), (n3, k3, u3)] ?_ 3 rfl (by decide) g W (frow3 W W n1 k1 u1 n2 k2 u2 n3 k3 u3 t g fz hg) (Array.getElem?_eq_some_iff.1 hg).1 hL hI hst
  intro f hf
  simp only [List.mem_cons, List.not_mem_nil, or_false] at hf
  rcases hf with rfl | rfl | rfl
  · exact h1
  · exact h2
  · exact h3
theorem join2_at {F : FuncId} {caps : Array Value} {out : Nat → Nat → List Int → List Int} {Inv : World → Prop} (hF : FieldFn F caps out Inv) (eF : ∀ args w, (callFunc F args).run Tryd.prog w = .ok (.enter F args) w)
    (hlen : ∀ n k u, n ≤ 9999 → k ≤ 4 → u ∈ unitL → (encs (out n k u)).length ≤ 400) (n1 k1 : Nat) (u1 : List Int) (n2 k2 : Nat) (u2 : List Int) (h1 : FOk (n1, k1, u1)) (h2 : FOk (n2, k2, u2))
    (y1 y2 z1 z2 : Int) (s1 s2 : ByteArray) (ey1 : y1 = n1) (ey2 : y2 = n2) (ez1 : z1 = k1) (ez2 : z2 = k2) (es1 : s1 = tx u1) (es2 : s2 = tx u2)
    (g : Nat) (W : World) (t : TypeId) (fz : Nat × Nat) (hg : W.heap[g]? = some (.cells #[.int .i64 y1, .int .i64 z1, .string s1, .int .i64 y2, .int .i64 z2, .string s2] t fz)) (hL : FLaid W) (hI : Inv W)
    (hst : ∀ W1 W2, Inv W1 → Below W.heap.size W1 W2 → W.heap.size ≤ W1.heap.size → Inv W2) :
    Calls Tryd.prog 26 #[.func (.func F) #[] caps, .slice (some ⟨g, 0, none⟩) 2 2] W fun e w' => e = .returned (.string (tx (joinC out [(n1, k1, u1), (n2, k2, u2)]))) ∧ Below W.heap.size W w' := by
  subst ey1 ey2 ez1 ez2 es1 es2
  refine join_at F caps out Inv hF eF hlen [(n1, k1, u1), (n2, k2, u2)] ?_ 2 rfl (by decide) g W (frow2 W n1 k1 u1 n2 k2 u2 t g fz hg) (Array.getElem?_eq_some_iff.1 hg).1 hL hI hst
  intro f hf
  simp only [List.mem_cons, List.not_mem_nil, or_false] at hf
  rcases hf with rfl | rfl
  · exact h1
  · exact h2

end Go.Proofs.YteelmjmiankflaaDoor.Cal
