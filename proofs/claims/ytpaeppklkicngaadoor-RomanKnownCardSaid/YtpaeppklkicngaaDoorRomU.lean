/-
  Contracts of the program's Print.
-/
import Derived.Test.YtpaeppklkicngaaDoorRomG
import Derived.Test.YtpaeppklkicngaaDoorRomP
import Derived.Test.YtpaeppklkicngaaDoorShelfW
set_option linter.unusedVariables false
set_option linter.unusedSimpArgs false
set_option maxRecDepth 100000
namespace Go.Proofs.YtpaeppklkicngaaDoor.Rom
open Go Go.RowKit Go.Proofs.YtpaeppklkicngaaDoor.Kit Go.Proofs.YtpaeppklkicngaaDoor.Utf

/-- A rule's line, without its end. -/
def lineT (r : Rule) : List UInt8 := (bs r.k ++ 9 :: bs r.o) ++ (if r.n.size = 0 then [] else 9 :: bs r.n)
def printB (rs : List Rule) : List UInt8 := rs.flatMap fun r => lineT r ++ [10]
def printL (rs : List Rule) : ByteArray × Int := if checkL rs = 0 then (ba (printB rs), 0) else (ba [], checkL rs)
theorem printB_succ {rs : List Rule} {k : Nat} (h : k < rs.length) : printB (rs.take (k + 1)) = printB (rs.take k) ++ (lineT (ri rs k) ++ [10]) := by
  unfold printB; rw [take_succ_ri rs k h, List.flatMap_append]; simp
theorem lineT_len {r : Rule} (h : Short r) : (lineT r).length ≤ 4000000 := by
  obtain ⟨h1, h2, h3⟩ := h
  unfold lineT
  split <;> simp only [List.length_append, List.length_cons, List.length_nil, bs_len] <;> omega
theorem printB_len {rs : List Rule} (h : ∀ r ∈ rs, Short r) : (printB rs).length ≤ rs.length * 4000001 := by
  induction rs with
  | nil => simp [printB]
  | cons r rs ih =>
    have h1 := lineT_len (h r (by simp))
    have h2 := ih (fun x hx => h x (List.mem_cons_of_mem _ hx))
    show ((lineT r ++ [10]) ++ printB rs).length ≤ _
    simp only [List.length_append, List.length_cons, List.length_nil]
    omega
theorem strCells_bs (s : ByteArray) : Lib.strCells s = Lib.byteCells (bs s) := rfl
theorem byteCells_app (a b : List UInt8) : Lib.byteCells (a ++ b) = Lib.byteCells a ++ Lib.byteCells b := by simp [Lib.byteCells]
theorem bs_app (a b : ByteArray) : bs (a ++ b) = bs a ++ bs b := by simp [bs]

theorem builder_kept2 {T e : TypeId} {B b : Nat} {bs : List Value} {w w' : World} (h : Lib.IsBuilderF T e B b bs w) (hk : ∀ k, B ≤ k → k < w.heap.size → w'.heap[k]? = w.heap[k]?) : Lib.IsBuilderF T e B b bs w' := by
  have one : ∀ p, Lib.BuilderAtF T e B b p bs w → Lib.BuilderAtF T e B b p bs w' := by
    rintro p ⟨hB, v, hb, hown, hne⟩
    refine ⟨hB, v, ?_, ⟨hown.1, ?_⟩, hne⟩
    · rw [hk b hB (Array.getElem?_eq_some_iff.1 hb).1]; exact hb
    · rcases hown.2 with hn | ⟨g, cap, cur, fz, hv, hbg, hg, rest⟩
      · exact .inl hn
      · exact .inr ⟨g, cap, cur, fz, hv, hbg, by rw [hk g hbg (Array.getElem?_eq_some_iff.1 hg).1]; exact hg, rest⟩
  exact h.elim (fun x => .inl (one _ x)) (fun x => .inr (one _ x))
theorem builder_new2 (T e : TypeId) (w : World) (b : Nat) (hb : b = w.heap.size) : Lib.IsBuilderF T e b b [] (w.alloc (.cells #[.pointer none, .slice none 0 0] T)) := by
  subst hb
  exact .inl ⟨Nat.le_refl _, .slice none 0 0, (by show (w.heap.push _)[w.heap.size]? = _; simp), World.ownsRowF_nil _ _ _ _, by simp [Value.ownBlock]⟩

/-- What a box holds stands behind work on a builder. -/
theorem box_kept {w w' : World} {g b : Nat} {r : Rule} (h : w.heap[g]? = some (.cells #[.string r.k, .string r.o, .string r.n] 40 (0, 0))) (ho : Lib.OthersKept 5 (some b) w w') (hne : g ≠ b) :
    w'.heap[g]? = some (.cells #[.string r.k, .string r.o, .string r.n] 40 (0, 0)) :=
  ho g _ h (by simpa using hne) (fun c fz e => by cases e)

theorem isB {B b : Nat} {bs : List Value} {w : World} (h : Lib.BuilderAtF 70 5 B b (.pointer (some ⟨b, 0, none⟩)) bs w) : Lib.IsBuilderF 70 5 B b bs w := .inr h
theorem nl_size : ({ data := #[10] } : ByteArray).size = 1 := rfl

set_option maxHeartbeats 8000000 in
theorem print_any (v : Value) (rs : List Rule) (w : World) (hR : RowR w v rs) (hs : ∀ r ∈ rs, Short r) :
    Calls Tryd.prog 17 #[v] w fun e w' => e = .returned (.tuple #[.string (printL rs).1, .int .i64 (printL rs).2]) ∧ Below w.heap.size w w' := by
  obtain ⟨a, len, cap, rfl, hlen, hcap, hmax, _⟩ := id hR
  subst hlen
  have HCK := Lib.hid (fun w hR => check_any (.slice a rs.length cap) rs w hR hs)
  have HR := Lib.hid hR
  have HS := Lib.hid hs
  unfold printL
  obtain ⟨E, hE⟩ : ∃ E, checkL rs = E := ⟨_, rfl⟩
  rw [hE] at HCK ⊢
  by_cases h0 : E = 0
  rotate_left
  · rw [if_neg h0]
    have hne : (E != 0) = true := by simpa using h0
    clear hE hR hs
    go_enter Tryd.func17, Tryd.ntmps17
    go_wp2_with (go_at_call 19; (refine (HCK.out _ HR.out).mono ?_); rintro e w1 ⟨rfl, hb1⟩)
    go_ret2
    exact ⟨rfl, hb1⟩
  subst h0
  rw [if_pos rfl]
  have h500 : rs.length ≤ 500 := by
    unfold checkL at hE
    split at hE
    · cases hE
    · omega
  have HPL : ∀ k, k ≤ rs.length → (printB (rs.take k)).length ≤ 2100000000 := fun k hk => by
    have := printB_len (rs := rs.take k) (fun r hr => hs r (List.mem_of_mem_take hr))
    rw [List.length_take] at this
    have : min k rs.length ≤ 500 := by omega
    omega
  have HPL := Lib.hid HPL
  clear hE hR hs
  go_enter Tryd.func17, Tryd.ntmps17
  go_wp2_with (go_at_call 19; (refine (HCK.out _ HR.out).mono ?_); rintro e w1 ⟨rfl, hb1⟩)
  obtain ⟨b, hbd⟩ : ∃ b, w1.heap.size = b := ⟨_, rfl⟩
  have hB0 := builder_new2 70 5 w1 b hbd.symm
  have hb0 : Below w.heap.size w (w1.alloc (.cells #[.pointer none, .slice none 0 0] 70)) := hb1.alloc hb1.size _
  have hs0 : b + 1 ≤ (w1.alloc (.cells #[.pointer none, .slice none 0 0] 70)).heap.size := by simp; omega
  have hwb : w.heap.size ≤ b := by rw [← hbd]; exact hb1.size
  rw [hbd]
  obtain ⟨W, hW⟩ : ∃ W, w1.alloc (.cells #[.pointer none, .slice none 0 0] 70) = W := ⟨_, rfl⟩
  rw [hW] at hB0 hb0 hs0 ⊢
  clear hW hbd hb1 HCK
  go_loopw [15] (fun i wr => ∃ k : Nat, i = .int .i64 k ∧ k ≤ rs.length ∧ Lib.IsBuilderF 70 5 b b (Lib.byteCells (printB (rs.take k))) wr ∧ Below w.heap.size w wr ∧ b + 1 ≤ wr.heap.size) (fun i _ => rs.length - (intOf i).toNat)
  case atStart => exact ⟨0, rfl, Nat.zero_le _, hB0, hb0, hs0⟩
  case round =>
    obtain ⟨k, rfl, hk, hBl, hbw, hws⟩ := hrel
    have hpl := HPL.out k hk
    by_cases hkl : k < rs.length
    · obtain ⟨b2, off, rfl, hb2, hx⟩ := (HR.out.later hbw (Nat.le_refl _)).at (by omega)
      obtain ⟨x0, x1, x2⟩ := hx k hkl
      have hsr := HS.out _ (ri_mem hkl)
      have hsu := printB_succ hkl
      have k0 : (0 : Int) ≤ k := by omega
      have k1 : (k : Int) < rs.length := by omega
      have HSU := Lib.hid hsu
      clear hx hsu
      generalize ri rs k = r at *
      generalize printB (rs.take k) = acc at *
      obtain ⟨sk, so, sn⟩ := hsr
      have hBl1 : ∀ o, Lib.IsBuilderF 70 5 b b (Lib.byteCells acc) (wr.alloc o) := fun o => hBl.alloc o
      have HB1 := Lib.hid hBl1
      have hbox := heap_alloc_new wr (.cells #[.string r.k, .string r.o, .string r.n] 40 (0, 0))
      have HBOX := Lib.hid hbox
      clear hBl1 hbox hBl
      have hsz1 : ((r.k ++ { data := #[9] }) ++ r.o).size ≤ 3000000 := by
        rw [ByteArray.size_append, ByteArray.size_append]; show r.k.size + 1 + r.o.size ≤ _; omega
      by_cases hn : r.n.size = 0
      · have hne : r.n.toList.isEmpty = true := by rw [empty_str, decide_eq_true hn]
        have hl : lineT r ++ [10] = bs ((r.k ++ { data := #[9] }) ++ r.o) ++ [10] := by
          unfold lineT; rw [if_pos hn, bs_app, bs_app]; simp [bs]
        have HL := Lib.hid hl
        clear hl
        go_wp2_with (go_at_call 39; first
          | ((with_reducible refine (Tryd.writeString b b (Lib.byteCells acc) _ _ (HB1.out _) (by rw [Lib.byteCells_length]; omega) (by simp; omega)).mono ?_); rintro e w6 ⟨rfl, hA6, hb6, ho6⟩; have hbx6 := box_kept HBOX.out ho6 (by omega); have c6 : w6.cell? ⟨wr.heap.size, 2, none⟩ = some (.string r.n) := (by rw [cell_of_row w6 _ 2 _ _ _ hbx6]; rfl); have hs6 : b + 1 ≤ w6.heap.size := (by have := hb6.size; simp at this; omega))
          | ((with_reducible refine (Tryd.writeString b b _ _ _ (isB hA6) (by simp only [List.length_append, Lib.byteCells_length, strCells_bs, bs_len, nl_size]; omega) (by omega)).mono ?_); rintro e w7 ⟨rfl, hA7, hb7, ho7⟩))
        have hBl7 : Lib.IsBuilderF 70 5 b b (Lib.byteCells (printB (rs.take (k + 1)))) w7 := by
          rw [HSU.out, HL.out, byteCells_app, byteCells_app, ← List.append_assoc]; exact .inr hA7
        go_roundw
        case rel => exact ⟨k + 1, by go_num, by omega, hBl7, (hbw.alloc hbw.size _).trans ((hb6.trans hb7).mono hwb), by have := hb7.size; omega⟩
        case measure => simp [intOf]; omega
      · have hne : r.n.toList.isEmpty = false := by rw [empty_str, decide_eq_false hn]
        have hl : lineT r ++ [10] = bs ((r.k ++ { data := #[9] }) ++ r.o) ++ (bs (({ data := #[9] } : ByteArray) ++ r.n) ++ [10]) := by
          unfold lineT; rw [if_neg hn, bs_app, bs_app, bs_app]; simp [bs]
        have HL := Lib.hid hl
        have hsz2 : (({ data := #[9] } : ByteArray) ++ r.n).size ≤ 3000000 := by
          rw [ByteArray.size_append]; show 1 + r.n.size ≤ _; omega
        clear hl
        go_wp2_with (go_at_call 39; first
          | ((with_reducible refine (Tryd.writeString b b (Lib.byteCells acc) _ _ (HB1.out _) (by rw [Lib.byteCells_length]; omega) (by simp; omega)).mono ?_); rintro e w6 ⟨rfl, hA6, hb6, ho6⟩; have hbx6 := box_kept HBOX.out ho6 (by omega); have c6 : w6.cell? ⟨wr.heap.size, 2, none⟩ = some (.string r.n) := (by rw [cell_of_row w6 _ 2 _ _ _ hbx6]; rfl); have hs6 : b + 1 ≤ w6.heap.size := (by have := hb6.size; simp at this; omega))
          | ((with_reducible refine (Tryd.writeString b b _ _ _ (isB hA7) (by simp only [List.length_append, Lib.byteCells_length, strCells_bs, bs_len, nl_size]; omega) (by omega)).mono ?_); rintro e w8 ⟨rfl, hA8, hb8, ho8⟩)
          | ((with_reducible refine (Tryd.writeString b b _ _ _ (isB hA6) (by simp only [List.length_append, Lib.byteCells_length, strCells_bs, bs_len]; omega) (by omega)).mono ?_); rintro e w7 ⟨rfl, hA7, hb7, ho7⟩; have hs7 : b + 1 ≤ w7.heap.size := Nat.le_trans hs6 hb7.size))
        have hBl8 : Lib.IsBuilderF 70 5 b b (Lib.byteCells (printB (rs.take (k + 1)))) w8 := by
          rw [HSU.out, HL.out, byteCells_app, byteCells_app, byteCells_app, ← List.append_assoc, ← List.append_assoc]; exact .inr hA8
        go_roundw
        case rel => exact ⟨k + 1, by go_num, by omega, hBl8, (hbw.alloc hbw.size _).trans (((hb6.trans hb7).trans hb8).mono hwb), by have := hb8.size; omega⟩
        case measure => simp [intOf]; omega
    · have e1 : k = rs.length := by omega
      rw [List.take_of_length_le (by omega)] at hBl
      go_wp2_with (go_at_call 40; refine (Tryd.Builder_String_any_k b b (printB rs) _ hBl (by omega)).mono ?_; rintro e w8 ⟨rfl, _, hb8, _⟩)
      go_ret2
      exact ⟨rfl, hbw.trans (hb8.mono hwb)⟩

end Go.Proofs.YtpaeppklkicngaaDoor.Rom
