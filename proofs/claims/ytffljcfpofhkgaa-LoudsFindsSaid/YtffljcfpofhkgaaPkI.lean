/-
  Helpers of the laws of layer 10: slices that came in; a slice, nil or not, appended to a row of one's own.
-/
import Derived.Test.YtffljcfpofhkgaaPkH
import Derived.OwnWalk
set_option linter.unusedVariables false
set_option linter.unusedSimpArgs false
set_option maxRecDepth 100000
namespace Go.Proofs.Ytffljcfpofhkgaa.Pk
open Go Go.RowKit Go.Proofs.Ytffljcfpofhkgaa.Kit Go.Proofs.Ytffljcfpofhkgaa.Bv

theorem wf_u64 {z : Int} (h : (Lit.int .u64 z).wf = true) : 0 ≤ z ∧ z < 18446744073709551616 := by
  simp [Lit.wf, IntKind.min, IntKind.max, IntKind.signed, IntKind.bits] at h
  omega
theorem wf_u32 {z : Int} (h : (Lit.int .u32 z).wf = true) : 0 ≤ z ∧ z < 4294967296 := by
  simp [Lit.wf, IntKind.min, IntKind.max, IntKind.signed, IntKind.bits] at h
  omega
/-- A slice of 64-bit words that came in. -/
theorem u64_of_row {w : World} {a : Option Addr} {len cap : Nat} {zs : List Int} (h : IsRow .u64 w a len cap zs) : ∃ l : List Nat, Reads w (.slice a len cap) (u64s l) ∧ l.length = len ∧ U64 l := by
  have hl := h.len
  refine ⟨(zs.take len).map Int.toNat, ?_, by simp; omega, ?_⟩
  · have e : u64s ((zs.take len).map Int.toNat) = (zs.take len).map (Value.int .u64) := by
      unfold u64s
      rw [List.map_map]
      apply List.map_congr_left
      intro z hz
      have := wf_u64 (h.wf z (List.mem_of_mem_take hz))
      show Value.int .u64 ((z.toNat : Nat) : Int) = _
      rw [Int.toNat_of_nonneg this.1]
    rw [e]
    exact h.reads
  · intro x hx
    obtain ⟨z, hz, rfl⟩ := List.mem_map.1 hx
    have := wf_u64 (h.wf z (List.mem_of_mem_take hz))
    omega
def u32s (ns : List Nat) : List Value := ns.map fun n : Nat => Value.int .u32 (n : Int)
theorem u32s_get {ns : List Nat} {i n : Nat} (h : ns[i]? = some n) : (u32s ns)[i]? = some (.int .u32 (n : Int)) := by
  unfold u32s; rw [List.getElem?_map, h]; rfl
theorem u32_of_row {w : World} {a : Option Addr} {len cap : Nat} {zs : List Int} (h : IsRow .u32 w a len cap zs) : ∃ l : List Nat, Reads w (.slice a len cap) (u32s l) ∧ l.length = len ∧ ∀ x ∈ l, x < 4294967296 := by
  have hl := h.len
  refine ⟨(zs.take len).map Int.toNat, ?_, by simp; omega, ?_⟩
  · have e : u32s ((zs.take len).map Int.toNat) = (zs.take len).map (Value.int .u32) := by
      unfold u32s
      rw [List.map_map]
      apply List.map_congr_left
      intro z hz
      have := wf_u32 (h.wf z (List.mem_of_mem_take hz))
      show Value.int .u32 ((z.toNat : Nat) : Int) = _
      rw [Int.toNat_of_nonneg this.1]
    rw [e]
    exact h.reads
  · intro x hx
    obtain ⟨z, hz, rfl⟩ := List.mem_map.1 hx
    have := wf_u32 (h.wf z (List.mem_of_mem_take hz))
    omega
theorem reads_take {w : World} {a : Option Addr} {n cap : Nat} {xs : List Value} (h : Reads w (.slice a n cap) xs) {j : Nat} (hj : j ≤ n) : Reads w (.slice a j cap) (xs.take j) := by
  obtain ⟨a, len, cap, e, h1, h2, h3, hx⟩ := h
  cases e
  refine ⟨_, _, _, rfl, by simp; omega, by omega, h3, ?_⟩
  rcases hx with ⟨rfl, rfl, rfl⟩ | ⟨x, rfl, h0⟩ | ⟨b, off, rfl, hlt, hx⟩
  · exact .inl ⟨rfl, by omega, rfl⟩
  · exact .inr (.inl ⟨_, rfl, by omega⟩)
  · refine .inr (.inr ⟨b, off, rfl, hlt, fun i x hi => ?_⟩)
    rw [List.getElem?_take] at hi
    split at hi
    · exact hx i x hi
    · cases hi
/-- append(own, xs...) where xs may be nil. -/
theorem wpList_append_reads {P : Program} {w : World} {ops : Array Oper} {rest : List Oper} {o : Oper} {a : Act} {Q : Exit → Act → World → Prop} (hgd : o.guard = none) (s x : Operand) (t : TypeId)
    (ho : o.op = .call { callee := .builtin .append, args := #[s, x], argTypes := #[t, t] })
    (base : Nat) (e : TypeId) (i : TypeInfo) (z : Value) (bytes : Nat) (ht : P.underlying t = some (.slice e)) (hi : P.info? e = some i) (hz : i.zero = some z)
    (hsize : i.size = 1) (hby : i.bytes = bytes) (hzs : z.cells.size = 1)
    (v : Value) (n : Nat) (xs : List Value) (hs : a.eval s = v) (hown : w.ownsRow base e 1 v n xs)
    (y : Value) (m : Nat) (news : List Value) (hx : a.eval x = y) (hy : Reads w y news) (hm : news.length = m) (h1 : ∀ u ∈ news, u.oneCell' = true)
    (h63 : n + m ≤ maxLen) (hbytes : (n + m) * bytes ≤ 140737488355328) (hbase : base ≤ w.heap.size)
    (h : ∀ v' w', w'.ownsRow base e 1 v' (n + m) (xs ++ news) → w.grownBy w' v.ownBlock → wpList P ops Q rest (a.put o.dst v') w') : wpList P ops Q (o :: rest) a w := by
  obtain ⟨ad, len, cap, rfl, hl, hlc, hcm, hc⟩ := hy
  rcases hc with ⟨rfl, rfl, rfl⟩ | ⟨p, rfl, rfl⟩ | ⟨b, off, rfl, hlt, hcell⟩
  · have hn : news = [] := List.eq_nil_of_length_eq_zero hl.symm
    subst hn
    subst hm
    refine wpList_append_own_none hgd s x t ho base e i 1 ht hi v n xs hs hown hx ?_
    exact h v w (by rw [List.append_nil]; exact hown) (World.grownBy.refl w _)
  · have hn : news = [] := List.eq_nil_of_length_eq_zero hl.symm
    subst hn
    subst hm
    exact wpList_append_own w hgd s x t ho base e i z 1 bytes ht hi hz hsize hby hzs (by decide) v n xs hs hown p 0 cap [] hx rfl (fun j u hj => by simp at hj) h1 h63 hbytes hbase (fun v' w' a1 a2 _ => h v' w' a1 a2)
  · subst hm
    exact wpList_append_own w hgd s x t ho base e i z 1 bytes ht hi hz hsize hby hzs (by decide) v n xs hs hown ⟨b, off, none⟩ news.length cap news (by rw [hx, hl]) (by simp) (fun j u hj => by rw [Addr.add_lit]; exact hcell j u hj) h1 h63 hbytes hbase (fun v' w' a1 a2 _ => h v' w' a1 a2)
theorem u64s_oneCell (l : List Nat) : ∀ u ∈ u64s l, u.oneCell' = true := by
  intro u hu
  unfold u64s at hu
  obtain ⟨n, _, rfl⟩ := List.mem_map.1 hu
  rfl
theorem u8s_set (l : List UInt8) (i : Nat) (b : UInt8) : u8s (l.set i b) = (u8s l).set i (.int .u8 (b.toNat : Int)) := by simp [u8s, List.map_set]
theorem byte_up (b : UInt8) : IntKind.u8.wrap ((b.toNat : Int) + 1) = ((UInt8.ofNat (b.toNat + 1)).toNat : Int) := by
  rw [IntKind.wrap_u8, UInt8.toNat_ofNat']; omega
end Go.Proofs.Ytffljcfpofhkgaa.Pk
