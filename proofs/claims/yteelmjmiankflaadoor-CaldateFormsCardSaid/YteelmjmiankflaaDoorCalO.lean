/-
  What a row's listed variables give: the tables of package caldate.
-/
import Derived.Test.YteelmjmiankflaaDoorNumO
import Derived.Test.YteelmjmiankflaaDoorCalG
import Derived.Lib.LaidTab
import Derived.Lib.SmallJoins
set_option linter.unusedVariables false
set_option linter.unusedSimpArgs false
namespace Go.Proofs.YteelmjmiankflaaDoor.Cal
open Go Go.RowKit Go.Proofs.YteelmjmiankflaaDoor.Kit Go.Proofs.YteelmjmiankflaaDoor.Utf
open Go.Proofs.YteelmjmiankflaaDoor.Num (tx laid_arr laid_size Tab)

theorem laid_tab {W : World} {l : List (String × DataW Unit)} {n : String} {k : IntKind} {zs : List Int} (hL : laidMet Tryd.prog l W) (hm : (n, Lib.tabData k zs) ∈ l) (g : Nat) (t e : TypeId) (len : Nat)
    (hg : Tryd.prog.globalNamed n = some g) (ht : (Tryd.prog.globals[g]?).map (·.type) = some t) (hu : Tryd.prog.underlying t = some (.array len e)) (he : Tryd.prog.underlying e = some (.int k)) (hce : Tryd.prog.cellsOf e = 1) (hct : Tryd.prog.cellsOf t = len) : Lib.TabIs Tryd.prog W n k zs := by
  obtain ⟨g', t', cs, fuel, p, hg', ht', hv, hr⟩ := Lib.laidMet.reads hL hm
  obtain rfl := Option.some.inj (hg.symm.trans hg')
  obtain rfl := Option.some.inj (ht.symm.trans ht')
  unfold Lib.TabIs
  rw [hv, ← Lib.cells_of_tab hu he hce hct hr]

def tMd : List Int := [31, 28, 31, 30, 31, 30, 31, 31, 30, 31, 30, 31]
theorem tMd_is : ∀ m : Nat, m < 12 → tMd.getD m 0 = mlen (m + 1) := by decide
def tWd : List (List UInt8) := (List.range 7).map fun i => encs [wdC i]

theorem CLaid.of {W : World} {l : List (String × DataW Unit)} (hL : laidMetH Tryd.prog l W) (hp : ∀ w, laidMetH Tryd.prog l w = laidMet Tryd.prog l w)
    (h1 : ("henkan/caldate.monthDays", Lib.tabData .i64 tMd) ∈ l) (h2 : ("henkan/caldate.weekdays", Tab tWd) ∈ l) : CLaid W := by
  rw [hp] at hL
  have hT := laid_tab hL h1 2 50 3 12 (by kernel_rfl) (by kernel_rfl) Tryd.underlying50 Tryd.underlying3 (by kernel_rfl) (by kernel_rfl)
  refine ⟨laid_size hL h1 2 (by kernel_rfl), fun m hm => ?_, fun d hd => ?_⟩
  · rw [← tMd_is m hm]
    exact hT.cell (by kernel_rfl) m hm
  · exact laid_arr hL h2 0 39 7 (by kernel_rfl) (by kernel_rfl) Tryd.underlying39 tWd rfl rfl d _ (by
      unfold tWd; rw [List.getElem?_map, List.getElem?_range hd]; rfl)

def eraData : DataW Unit := .agg ((List.range 5).map fun k => .agg [.lit (.string (encs (eN k))), .lit (.int .i64 (eY k)), .lit (.int .i64 (eM k)), .lit (.int .i64 (eD k))])

theorem first_of {cs : List Value} {a b : Nat} {v : Value} (h : (((cs.drop a).take 4).drop b).take 1 = [v]) (hb : b < 4) : cs[a + b]? = some v := by
  have h0 : ((((cs.drop a).take 4).drop b).take 1)[0]? = some v := by rw [h]; rfl
  simpa [List.getElem?_take, List.getElem?_drop, hb] using h0

theorem go5 {cs : List Value} (hE : ∀ i, i < 5 → cs[4 * i]? = some (.string (tx (eN i))) ∧ cs[4 * i + 1]? = some (.int .i64 (eY i)) ∧ cs[4 * i + 2]? = some (.int .i64 (eM i)) ∧ cs[4 * i + 3]? = some (.int .i64 (eD i))) (j : Nat) (hj : j < 20) : cs[j]? = eraA.toList[j]? := by
    match j, hj with
    | 0, _ => exact (hE 0 (by omega)).1
    | 1, _ => exact (hE 0 (by omega)).2.1
    | 2, _ => exact (hE 0 (by omega)).2.2.1
    | 3, _ => exact (hE 0 (by omega)).2.2.2
    | 4, _ => exact (hE 1 (by omega)).1
    | 5, _ => exact (hE 1 (by omega)).2.1
    | 6, _ => exact (hE 1 (by omega)).2.2.1
    | 7, _ => exact (hE 1 (by omega)).2.2.2
    | 8, _ => exact (hE 2 (by omega)).1
    | 9, _ => exact (hE 2 (by omega)).2.1
    | 10, _ => exact (hE 2 (by omega)).2.2.1
    | 11, _ => exact (hE 2 (by omega)).2.2.2
    | 12, _ => exact (hE 3 (by omega)).1
    | 13, _ => exact (hE 3 (by omega)).2.1
    | 14, _ => exact (hE 3 (by omega)).2.2.1
    | 15, _ => exact (hE 3 (by omega)).2.2.2
    | 16, _ => exact (hE 4 (by omega)).1
    | 17, _ => exact (hE 4 (by omega)).2.1
    | 18, _ => exact (hE 4 (by omega)).2.2.1
    | 19, _ => exact (hE 4 (by omega)).2.2.2
    | n + 20, h => exact absurd h (by omega)

theorem laid_eras {W : World} {l : List (String × DataW Unit)} (hL : laidMet Tryd.prog l W) (hm : ("henkan/caldate.eras", eraData) ∈ l) : ∃ t fz, W.heap[1]? = some (.cells eraA t fz) := by
  obtain ⟨g', t', cs, fuel, p, hg', ht', hv, hr⟩ := Lib.laidMet.reads hL hm
  obtain rfl : 1 = g' := Option.some.inj ((show Tryd.prog.globalNamed "henkan/caldate.eras" = some 1 by kernel_rfl).symm.trans hg')
  obtain rfl : 42 = t' := Option.some.inj ((show (Tryd.prog.globals[1]?).map (·.type) = some 42 by kernel_rfl).symm.trans ht')
  obtain ⟨xs, m, _, ex, hlen, hl, hel⟩ := DataW.trod_array Tryd.underlying42 hr
  have c20 : Tryd.prog.cellsOf 42 = 20 := by kernel_rfl
  have c4 : Tryd.prog.cellsOf 41 = 4 := by kernel_rfl
  have cS : Tryd.prog.cellsOf 9 = 1 := by kernel_rfl
  have cI : Tryd.prog.cellsOf 3 = 1 := by kernel_rfl
  rw [c20] at hlen
  have e3 : xs.map (·.1) = (List.range 5).map fun k => (.agg [.lit (.string (encs (eN k))), .lit (.int .i64 (eY k)), .lit (.int .i64 (eM k)), .lit (.int .i64 (eD k))] : DataW Unit) := by
    have := (Prod.mk.inj ex).1
    exact (DataW.agg.inj this).symm
  have hE : ∀ i, i < 5 → cs.toList[4 * i]? = some (.string (tx (eN i))) ∧ cs.toList[4 * i + 1]? = some (.int .i64 (eY i)) ∧ cs.toList[4 * i + 2]? = some (.int .i64 (eM i)) ∧ cs.toList[4 * i + 3]? = some (.int .i64 (eD i)) := by
    intro i hi
    have h1 := hel i hi
    rw [c4, List.getElem?_eq_getElem (by omega)] at h1
    have e4 : (xs[i]'(by omega)).1 = .agg [.lit (.string (encs (eN i))), .lit (.int .i64 (eY i)), .lit (.int .i64 (eM i)), .lit (.int .i64 (eD i))] := by
      have := congrArg (·[i]?) e3
      simpa [List.getElem?_map, List.getElem?_range hi, List.getElem?_eq_getElem (show i < xs.length by omega)] using this
    obtain ⟨y0, y1, y2, y3, n, ey, _, h20, h21, h22, h23⟩ := Go.Joins.trod_struct4 Tryd.underlying41 h1
    rw [ey] at e4
    simp only [DataW.agg.injEq, List.cons.injEq, and_true] at e4
    obtain ⟨a0, a1, a2, a3⟩ := e4
    simp only [cS, cI] at h20 h21 h22 h23
    obtain ⟨z0, b0, rfl, _⟩ := DataW.trod_string Tryd.underlying9 h20
    obtain ⟨z1, b1, rfl, _⟩ := DataW.trod_int Tryd.underlying3 h21
    obtain ⟨z2, b2, rfl, _⟩ := DataW.trod_int Tryd.underlying3 h22
    obtain ⟨z3, b3, rfl, _⟩ := DataW.trod_int Tryd.underlying3 h23
    simp only [DataW.lit.injEq, Lit.string.injEq, Lit.int.injEq, true_and] at a0 a1 a2 a3
    have q0 := first_of b0 (by decide)
    have q1 := first_of b1 (by decide)
    have q2 := first_of b2 (by decide)
    have q3 := first_of b3 (by decide)
    rw [Nat.mul_comm] at q0 q1 q2 q3
    have hz : z0 = tx (eN i) := by apply ba_ext; exact a0
    rw [hz] at q0
    rw [a1] at q1
    rw [a2] at q2
    rw [a3] at q3
    exact ⟨q0, q1, q2, q3⟩
  have hcs : cs = eraA := by
    apply Array.toList_inj.1
    apply List.ext_getElem?
    intro j
    by_cases hj : j < 20
    · exact go5 hE j hj
    · rw [List.getElem?_eq_none (by omega), List.getElem?_eq_none (by show 20 ≤ j; omega)]
  simp only [World.var?, hg', Option.bind_some] at hv
  split at hv
  · rename_i c t fz h
    obtain rfl := Option.some.inj hv
    exact ⟨t, fz, by rw [← hcs]; exact h⟩
  · cases hv

theorem ELaid.of {W : World} {l : List (String × DataW Unit)} (hL : laidMetH Tryd.prog l W) (hp : ∀ w, laidMetH Tryd.prog l w = laidMet Tryd.prog l w)
    (h1 : ("henkan/caldate.monthDays", Lib.tabData .i64 tMd) ∈ l) (h2 : ("henkan/caldate.weekdays", Tab tWd) ∈ l) (h3 : ("henkan/caldate.eras", eraData) ∈ l) : ELaid W :=
  ⟨CLaid.of hL hp h1 h2, laid_eras (by rw [hp] at hL; exact hL) h3⟩

end Go.Proofs.YteelmjmiankflaaDoor.Cal
