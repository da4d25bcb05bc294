/-
  Contract of slices.SortFunc over a row of rules, compared by their keys.
-/
import Derived.Test.YtpaeppklkicngaaDoorRomDm
import Derived.Shelf.SlLaysF0
import Derived.Test.YtpaeppklkicngaaDoorProg
import Derived.Shelf.SlSortCmp.WholeK
set_option linter.unusedVariables false
set_option linter.unusedSimpArgs false
set_option maxRecDepth 100000
namespace Go.Proofs
open Go.Shelf
def Tryd.sortR_ren : Go.Shelf.Ren := ⟨fun | 6 => 45 | 15 => 57 | 14 => 56 | 28 => 76 | 29 => 77 | 20 => 68 | 21 => 69 | 22 => 70 | 23 => 71 | 24 => 72 | 25 => 73 | 26 => 74 | 27 => 75 | 46 => 87 | 47 => 88 | 48 => 89 | 49 => 90 | 50 => 91 | 57 => 102 | n => n, fun | 22 => 22 | 24 => 40 | 25 => 90 | 3 => 3 | 39 => 100 | 0 => 0 | 53 => 117 | 55 => 119 | 4 => 4 | 46 => 110 | 45 => 109 | 50 => 114 | 5 => 5 | 9 => 9 | 66 => 127 | 70 => 131 | 76 => 137 | 77 => 138 | n => n, fun | n => n⟩
theorem Tryd.sortR : Go.Proofs.SlLaysF0.n6 Tryd.prog Tryd.sortR_ren := {
  mixed := by kernel_rfl
  f6 := ⟨Tryd.f45.name, by decide, Tryd.func45.trans (congrArg some (by kernel_rfl))⟩
  f14 := ⟨Tryd.f56.name, by decide, Tryd.func56.trans (congrArg some (by kernel_rfl))⟩
  f15 := Tryd.func57.trans (congrArg some (by kernel_rfl))
  f20 := ⟨Tryd.f68.name, by decide, Tryd.func68.trans (congrArg some (by kernel_rfl))⟩
  f21 := ⟨Tryd.f69.name, by decide, Tryd.func69.trans (congrArg some (by kernel_rfl))⟩
  f22 := ⟨Tryd.f70.name, by decide, Tryd.func70.trans (congrArg some (by kernel_rfl))⟩
  f23 := ⟨Tryd.f71.name, by decide, Tryd.func71.trans (congrArg some (by kernel_rfl))⟩
  f24 := ⟨Tryd.f72.name, by decide, Tryd.func72.trans (congrArg some (by kernel_rfl))⟩
  f25 := ⟨Tryd.f73.name, by decide, Tryd.func73.trans (congrArg some (by kernel_rfl))⟩
  f26 := ⟨Tryd.f74.name, by decide, Tryd.func74.trans (congrArg some (by kernel_rfl))⟩
  f27 := ⟨Tryd.f75.name, by decide, Tryd.func75.trans (congrArg some (by kernel_rfl))⟩
  f28 := Tryd.func76.trans (congrArg some (by kernel_rfl))
  f29 := Tryd.func77.trans (congrArg some (by kernel_rfl))
  f46 := ⟨Tryd.f87.name, by decide, Tryd.func87.trans (congrArg some (by kernel_rfl))⟩
  f47 := Tryd.func88.trans (congrArg some (by kernel_rfl))
  f48 := Tryd.func89.trans (congrArg some (by kernel_rfl))
  f49 := ⟨Tryd.f90.name, by decide, Tryd.func90.trans (congrArg some (by kernel_rfl))⟩
  f50 := ⟨Tryd.f91.name, by decide, Tryd.func91.trans (congrArg some (by kernel_rfl))⟩
  f57 := ⟨Tryd.f102.name, by decide, Tryd.func102.trans (congrArg some (by kernel_rfl))⟩
  t0 := Tryd.underlying0
  a0 := Tryd.isAgg0
  z0 := Tryd.sizeOf0
  v0 := Tryd.zeroValue0
  t3 := Tryd.underlying3
  a3 := Tryd.isAgg3
  z3 := Tryd.sizeOf3
  v3 := Tryd.zeroValue3
  t4 := Tryd.underlying4
  a4 := Tryd.isAgg4
  z4 := Tryd.sizeOf4
  v4 := Tryd.zeroValue4
  t5 := Tryd.underlying5
  a5 := Tryd.isAgg5
  z5 := Tryd.sizeOf5
  v5 := Tryd.zeroValue5
  t9 := Tryd.underlying9
  a9 := Tryd.isAgg9
  z9 := Tryd.sizeOf9
  v9 := Tryd.zeroValue9
  t22 := Tryd.underlying22
  a22 := Tryd.isAgg22
  z22 := Tryd.sizeOf22
  v22 := Tryd.zeroValue22
  t25 := Tryd.underlying90
  a25 := Tryd.isAgg90
  z25 := Tryd.sizeOf90
  v25 := Tryd.zeroValue90
  t39 := Tryd.underlying100
  a39 := Tryd.isAgg100
  z39 := Tryd.sizeOf100
  v39 := Tryd.zeroValue100
  t45 := Tryd.underlying109
  a45 := Tryd.isAgg109
  z45 := Tryd.sizeOf109
  v45 := Tryd.zeroValue109
  t46 := Tryd.underlying110
  a46 := Tryd.isAgg110
  z46 := Tryd.sizeOf110
  v46 := Tryd.zeroValue110
  t50 := Tryd.underlying114
  a50 := Tryd.isAgg114
  z50 := Tryd.sizeOf114
  v50 := Tryd.zeroValue114
  t53 := Tryd.underlying117
  a53 := Tryd.isAgg117
  z53 := Tryd.sizeOf117
  v53 := Tryd.zeroValue117
  t55 := Tryd.underlying119
  a55 := Tryd.isAgg119
  z55 := Tryd.sizeOf119
  v55 := Tryd.zeroValue119
  t66 := Tryd.underlying127
  a66 := Tryd.isAgg127
  z66 := Tryd.sizeOf127
  v66 := Tryd.zeroValue127
  t70 := Tryd.underlying131
  a70 := Tryd.isAgg131
  z70 := Tryd.sizeOf131
  v70 := Tryd.zeroValue131
  t76 := Tryd.underlying137
  a76 := Tryd.isAgg137
  z76 := Tryd.sizeOf137
  v76 := Tryd.zeroValue137
  t77 := Tryd.underlying138
  a77 := Tryd.isAgg138
  z77 := Tryd.sizeOf138
  v77 := Tryd.zeroValue138 }
end Go.Proofs

namespace Go.Proofs.YtpaeppklkicngaaDoor.Rom
open Go Go.RowKit Go.Proofs Go.Proofs.YtpaeppklkicngaaDoor.Kit Go.Proofs.YtpaeppklkicngaaDoor.Utf

def cfR (x y : Rule) : Int := Lib.compareBytes x.k.data.toList y.k.data.toList
theorem ltR (x y : Rule) : ltOf cfR x y = Op.bytesLess x.k.toList y.k.toList := by
  unfold ltOf cfR
  rw [cmp_bl, Lib.toList_data, Lib.toList_data]
theorem swoR : Sort.SWO (ltOf cfR) where
  irrefl x := by rw [ltR]; exact bl_irrefl _
  trans x y z h1 h2 := by rw [ltR] at *; exact bl_trans _ _ _ h1 h2
  ntrans x y z h1 h2 := by rw [ltR] at *; exact bl_ntrans _ _ _ h1 h2

set_option maxHeartbeats 1000000 in
theorem less_any (x y : Rule) (W : World) :
    Calls Tryd.prog 46 #[.agg #[.string x.k, .string x.o, .string x.n], .agg #[.string y.k, .string y.o, .string y.n]] W fun e w' => e = .returned (.int .i64 (cfR x y)) ∧ ∃ q os', w' = Sort.grow (W.drewN q) os' := by
  have hcon := fun W' => Tryd.strings_Compare x.k y.k W'
  obtain ⟨r, hr⟩ : ∃ r, cfR x y = r := ⟨_, rfl⟩
  have hr2 : Lib.compareBytes x.k.data.toList y.k.data.toList = r := hr
  rw [hr]
  simp only [hr2] at hcon
  clear hr hr2
  go_enter Tryd.func46, Tryd.ntmps46
  go_wp2_with (go_at_call 47; refine (hcon _).mono ?_; rintro e w' ⟨rfl, rfl⟩)
  go_ret
  exact ⟨rfl, 0, _, by rw [Sort.alloc_eq_grow, Sort.alloc_eq_grow, Sort.grow_grow]; rfl⟩

theorem cmpLaysR (blk off size : Nat) (w : World) : CmpLays Tryd.prog 46 #[] rcells 3 cfR blk off size w :=
  fun _ _ _ _ x y => less_any x y _

/-! ### a row of rules, as the sort sees it -/
theorem rc_flat (d : Array Rule) : (Sort.flatK rcells 3 d).toList = rc d.toList := by
  apply List.ext_getElem?
  intro t
  by_cases ht : t < d.size * 3
  · have hsz : t < (Sort.flatK rcells 3 d).size := by rw [Sort.size_flatK]; exact ht
    have h1 : (Sort.flatK rcells 3 d).toList[t]? = some (rcells d[t / 3]!)[t % 3]! := by
      rw [Array.getElem?_toList, Array.getElem?_eq_getElem hsz, ← Sort.get_flatK rcells 3 d t ht, getElem!_pos _ t hsz]
    rw [h1]
    have hi : t / 3 < d.toList.length := by rw [Array.length_toList]; omega
    have hri : ri d.toList (t / 3) = d[t / 3]! := by
      unfold ri
      rw [List.getD_eq_getElem?_getD, List.getElem?_eq_getElem hi, getElem!_pos d (t / 3) (by simpa using hi)]
      simp
    obtain ⟨g1, g2, g3⟩ := rc_at d.toList (t / 3) hi
    rw [hri] at g1 g2 g3
    generalize d[t / 3]! = r at *
    rcases (show t % 3 = 0 ∨ t % 3 = 1 ∨ t % 3 = 2 by omega) with e | e | e
    · rw [e]; rw [show t / 3 * 3 = t by omega] at g1; rw [g1]; rfl
    · rw [e]; rw [show t / 3 * 3 + 1 = t by omega] at g2; rw [g2]; rfl
    · rw [e]; rw [show t / 3 * 3 + 2 = t by omega] at g3; rw [g3]; rfl
  · rw [List.getElem?_eq_none (by rw [Array.length_toList, Sort.size_flatK]; omega), List.getElem?_eq_none (by rw [rc_len, Array.length_toList]; omega)]

theorem own_parts {w : World} {base n : Nat} {e : TypeId} {v : Value} {rs : List Rule} (h : w.ownsRow base e 3 v n (rc rs)) (h0 : 0 < n) :
    ∃ g cap cur, v = .slice (some ⟨g, 0, none⟩) n cap ∧ base ≤ g ∧ g < w.heap.size ∧ w.heap[g]? = some (.cells cur e (0, 0)) ∧ n ≤ cap ∧ cap ≤ maxLen ∧ cur.size = cap * 3 ∧ cur.toList.take (n * 3) = rc rs ∧ n = rs.length := by
  have hn : n = rs.length := by have := h.1; rw [rc_len] at this; omega
  rcases h.2 with ⟨_, h1⟩ | ⟨g, cap, cur, e1, hb, hg, hnc, hcm, hcs, htake⟩
  · omega
  · exact ⟨g, cap, cur, e1, hb, (Array.getElem?_eq_some_iff.1 hg).1, hg, hnc, hcm, hcs, htake, hn⟩
theorem take_get {cur : Array Value} {n j : Nat} {l : List Value} (h : cur.toList.take n = l) (hj : j < n) : cur[j]? = l[j]? := by
  rw [← h, List.getElem?_take, if_pos hj, Array.getElem?_toList]
theorem holds_own {w : World} {g n : Nat} {e : TypeId} {cur : Array Value} {rs : List Rule} (hg : w.heap[g]? = some (.cells cur e (0, 0))) (htake : cur.toList.take (n * 3) = rc rs) (hn : n = rs.length) : Sort.HoldsK rcells 3 w g 0 rs.toArray := by
  intro j hj
  have hj2 : j < n * 3 := by rw [Sort.size_flatK] at hj; simpa [hn] using hj
  refine ⟨?_, ?_⟩
  · rw [cell_of_row w g (0 + j) cur e (0, 0) hg, Nat.zero_add, take_get htake hj2]
    have hf := rc_flat rs.toArray
    rw [List.toList_toArray] at hf
    rw [← hf, Array.getElem?_toList, Array.getElem?_eq_getElem hj, getElem!_pos _ j hj]
    rfl
  · unfold World.frozen?
    rw [show w.heap[(⟨g, 0 + j, none⟩ : Addr).block]? = _ from hg]
    simp
theorem heap_sorted {w : World} {g n : Nat} {e : TypeId} {cur : Array Value} (d : Array Rule) (m : Nat) (os : Array Obj) (hg : w.heap[g]? = some (.cells cur e (0, 0))) :
    (sortWorldK rcells 3 w g 0 m d os).heap[g]? = some (.cells (Sort.putCells id 0 (Sort.flatK rcells 3 d) cur) e (0, 0)) := by
  have hlt := (Array.getElem?_eq_some_iff.1 hg).1
  unfold sortWorldK
  rw [Sort.heap_grow_old _ _ (by rw [Sort.size_putRowK]; exact hlt)]
  show ((Sort.ahead w m).heap.modify g (Sort.onCells _))[g]? = _
  rw [Array.getElem?_modify, if_pos rfl]
  show (w.heap[g]?).map _ = _
  rw [hg]
  rfl
theorem heap_other {w : World} {g k : Nat} (d : Array Rule) (m : Nat) (os : Array Obj) (hk : k < w.heap.size) (hne : k ≠ g) : (sortWorldK rcells 3 w g 0 m d os).heap[k]? = w.heap[k]? := by
  unfold sortWorldK
  rw [Sort.heap_grow_old _ _ (by rw [Sort.size_putRowK]; exact hk)]
  show ((Sort.ahead w m).heap.modify g (Sort.onCells _))[k]? = _
  rw [Array.getElem?_modify, if_neg (Ne.symm hne)]
  rfl

theorem sort_out {w : World} {base : Nat} {v : Value} {rs : List Rule} (hown : w.ownsRow base 40 3 v rs.length (rc rs)) (hp : rs.Perm (rom3.map mk3)) :
    Calls Tryd.prog 45 #[v, .func (.func 46) #[] #[]] w fun e w' => e = .returned (.tuple #[]) ∧ w'.ownsRow base 40 3 v defL.length (rc defL) ∧ Below base w w' := by
  have hlen : rs.length = 162 := by rw [hp.length_eq, List.length_map]; exact rom_len
  obtain ⟨g, cap, cur, rfl, hb, hlt, hg, hnc, hcm, hcs, htake, hn⟩ := own_parts hown (by omega)
  have eg : ∀ args w, (callFunc 46 args).run Tryd.prog w = .ok (.enter 46 args) w := enters_of Tryd.func46 (by kernel_rfl) rfl
  have hs : rs.toArray.size = rs.length := by simp
  have hcon := AnyQ.slices_SortFunc Tryd.sortR 3 Tryd.isAgg40 Tryd.sizeOf40 rcells (fun _ => rfl) (fun x u hu => by simp [rcells] at hu; rcases hu with rfl | rfl | rfl <;> rfl) cfR swoR 46 #[] g 0 cap rs.toArray w eg (cmpLaysR g 0 rs.toArray.size w) (holds_own hg htake hn) hlt (by rw [hs]; omega)
  rw [hs] at hcon
  refine hcon.mono ?_
  rintro e w' ⟨rfl, d', q, os, hperm, hsort, rfl⟩
  have hds : d'.size = rs.length := by rw [hperm.1, hs]
  have hfin : d'.toList = defL := by
    refine rom_sorted ?_ ?_
    · refine List.Perm.trans ?_ hp
      have h := hperm.2.2
      have e1 : d'.extract 0 rs.length = d' := by rw [← hds]; simp
      have e2 : rs.toArray.extract 0 rs.length = rs.toArray := by rw [← hs]; simp
      rw [e1, e2] at h
      simpa using h
    · rw [List.pairwise_iff_getElem]
      intro i j hi hj hij
      rw [Array.length_toList] at hi hj
      have h := hsort i j (Nat.zero_le _) hij (by omega)
      rw [ltR, getElem!_pos d' i hi, getElem!_pos d' j hj] at h
      simpa using h
  refine ⟨rfl, ⟨?_, .inr ⟨g, cap, _, ?_, hb, heap_sorted (n := 0) d' q os hg, by rw [def_len]; omega, hcm, ?_, ?_⟩⟩, ⟨rfl, rfl, rfl, ?_, fun k hk => ?_⟩⟩
  · rw [rc_len]
  · rw [def_len, hlen]
  · simp [Sort.putCells, hcs]
  · have hF : (Sort.flatK rcells 3 d').size = 162 * 3 := by rw [Sort.size_flatK, hds, hlen]
    rw [← hfin, ← rc_flat]
    apply List.ext_getElem?
    intro t
    rw [show d'.toList.length = 162 by rw [Array.length_toList, hds, hlen]]
    rw [List.getElem?_take, Array.getElem?_toList, Array.getElem?_toList]
    by_cases ht : t < 162 * 3
    · rw [if_pos ht]
      unfold Sort.putCells
      have hcl : t < cur.size := by omega
      rw [Array.getElem?_mapIdx, Array.getElem?_eq_getElem hcl, Option.map_some, if_pos ⟨Nat.zero_le _, by rw [hF]; omega⟩, Array.getElem?_eq_getElem (by rw [hF]; exact ht), Nat.sub_zero, getElem!_pos _ t (by rw [hF]; exact ht)]
      rfl
    · rw [if_neg ht, Array.getElem?_eq_none (by rw [hF]; omega)]
  · unfold sortWorldK
    rw [Sort.size_grow, Sort.size_putRowK]
    exact Nat.le_add_right _ _
  · exact heap_other d' q os (by omega) (by omega)

end Go.Proofs.YtpaeppklkicngaaDoor.Rom
