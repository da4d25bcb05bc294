/-
  What a row's listed variables give: the tables of package numeral.
-/
import Derived.Test.YteelmjmiankflaaDoorNumA
import Derived.Lib.LaidU8
import Derived.OpenShut
set_option linter.unusedVariables false
set_option linter.unusedSimpArgs false
namespace Go.Proofs.YteelmjmiankflaaDoor.Num
open Go Go.RowKit Go.Proofs.YteelmjmiankflaaDoor.Kit Go.Proofs.YteelmjmiankflaaDoor.Utf

/-- The strings of a listed array. -/
theorem laid_arr {W : World} {l : List (String × DataW Unit)} {n : String} {d : DataW Unit} (hL : laidMet Tryd.prog l W) (hm : (n, d) ∈ l) (g : Nat) (t : TypeId) (k : Nat) (hg : Tryd.prog.globalNamed n = some g) (ht : (Tryd.prog.globals[g]?).map (·.type) = some t)
    (hu : Tryd.prog.underlying t = some (.array k 9)) (ss : List (List UInt8)) (hd : d = .agg (ss.map fun b => .lit (.string b))) (hk : ss.length = k) :
    ∀ i b, ss[i]? = some b → W.cell? ⟨g, i, none⟩ = some (.string ⟨b.toArray⟩) := by
  intro i b hb
  obtain ⟨g', t', cs, fuel, p, hg', ht', hv, hr⟩ := Lib.laidMet.reads hL hm
  obtain rfl := Option.some.inj (hg.symm.trans hg')
  obtain rfl := Option.some.inj (ht.symm.trans ht')
  obtain ⟨xs, m, _, ex, _, hl, hel⟩ := DataW.trod_array hu hr
  have hi : i < k := by rw [← hk]; exact (List.getElem?_eq_some_iff.1 hb).1
  have c5 : Tryd.prog.cellsOf 9 = 1 := by kernel_rfl
  have hE := hel i hi
  rw [c5, Nat.mul_one, List.getElem?_eq_getElem (by omega)] at hE
  obtain ⟨z, e1, e2, _⟩ := DataW.trod_string Tryd.underlying9 hE
  have e3 : xs.map (·.1) = ss.map fun b => (.lit (.string b) : DataW Unit) := by
    have := (Prod.mk.inj ex).1
    rw [hd] at this
    exact (DataW.agg.inj this).symm
  have e4 : (xs.map (·.1))[i]? = (ss.map fun b => (DataW.lit (.string b) : DataW Unit))[i]? := by rw [e3]
  rw [List.getElem?_map, List.getElem?_map, List.getElem?_eq_getElem (by omega : i < xs.length), hb, e2] at e4
  have hz : z.data.toList = b := by
    simp only [Option.map_some, Option.some.injEq, DataW.lit.injEq, Lit.string.injEq] at e4
    exact e4
  rw [World.var?_cell hg' hv i]
  have h0 : ((cs.toList.drop i).take 1)[0]? = some (.string z) := by rw [e1]; rfl
  have : cs.toList[i]? = some (.string z) := by simpa using h0
  have hzz : z = ⟨b.toArray⟩ := by apply ba_ext; rw [hz]
  rw [← hzz]
  simpa using this

theorem laid_size {W : World} {l : List (String × DataW Unit)} {n : String} {d : DataW Unit} (hL : laidMet Tryd.prog l W) (hm : (n, d) ∈ l) (g : Nat) (hg : Tryd.prog.globalNamed n = some g) : g < W.heap.size := by
  obtain ⟨g', t', cs, fuel, p, hg', ht', hv, hr⟩ := Lib.laidMet.reads hL hm
  obtain rfl := Option.some.inj (hg.symm.trans hg')
  simp only [World.var?, hg, Option.bind_some] at hv
  split at hv
  · rename_i h; exact (Array.getElem?_eq_some_iff.1 h).1
  · cases hv

def Tab (ss : List (List UInt8)) : DataW Unit := .agg (ss.map fun b => .lit (.string b))
def tPd : List (List UInt8) := (List.range 10).map fun i => encs [pd i]
def tFd : List (List UInt8) := (List.range 10).map fun i => encs [fd i]
def tPu : List (List UInt8) := (List.range 4).map fun i => encs (pu i)
def tFu : List (List UInt8) := (List.range 4).map fun i => encs (fu i)
def tGu : List (List UInt8) := (List.range 5).map fun i => encs (gu i)

theorem Laid.of {W : World} {l : List (String × DataW Unit)} (hL : laidMetH Tryd.prog l W) (hp : ∀ w, laidMetH Tryd.prog l w = laidMet Tryd.prog l w)
    (h1 : ("henkan/numeral.plainDigits", Tab tPd) ∈ l)
    (h3 : ("henkan/numeral.plainUnits", Tab tPu) ∈ l)
    (h5 : ("henkan/numeral.groupUnits", Tab tGu) ∈ l) : Laid W := by
  rw [hp] at hL
  have get : ∀ (n : Nat) (f : Nat → List UInt8) (i : Nat), i < n → ((List.range n).map f)[i]? = some (f i) := fun n f i hi => by
    rw [List.getElem?_map, List.getElem?_range hi]; rfl
  constructor
  · exact laid_size hL h5 5 (by kernel_rfl)
  all_goals intro d hd
  · exact laid_arr hL h1 4 78 10 (by kernel_rfl) (by kernel_rfl) Tryd.underlying78 tPd rfl rfl d _ (get 10 _ d hd)
  · exact laid_arr hL h3 3 77 4 (by kernel_rfl) (by kernel_rfl) Tryd.underlying77 tPu rfl rfl d _ (get 4 _ d hd)
  · exact laid_arr hL h5 5 88 5 (by kernel_rfl) (by kernel_rfl) Tryd.underlying88 tGu rfl rfl d _ (get 5 _ d hd)

end Go.Proofs.YteelmjmiankflaaDoor.Num
