/-
  The eras: which era a day has; contract of caldate.Era.
-/
import Derived.Test.YteelmjmiankflaaDoorCalE
set_option linter.unusedVariables false
set_option linter.unusedSimpArgs false
namespace Go.Proofs.YteelmjmiankflaaDoor.Cal
open Go Go.RowKit Go.Proofs.YteelmjmiankflaaDoor.Kit Go.Proofs.YteelmjmiankflaaDoor.Utf
open Go.Proofs.YteelmjmiankflaaDoor.Num (tx)

/-- The eras' names, and the year, month and day of their first days. -/
def eN (k : Nat) : List Int := [[26126, 27835], [22823, 27491], [26157, 21644], [24179, 25104], [20196, 21644]].getD k []
def eY (k : Nat) : Int := [1868, 1912, 1926, 1989, 2019].getD k 0
def eM (k : Nat) : Int := [1, 7, 12, 1, 5].getD k 0
def eD (k : Nat) : Int := [25, 30, 25, 8, 1].getD k 0
def eF (k : Nat) : Int := num (eY k) (eM k) (eD k)
/-- The last one of the first k eras that has begun on a day. -/
def cur (day : Int) : Nat → Option Nat
  | 0 => none
  | k + 1 => if eF k ≤ day then some k else cur day k
def nm (o : Option Nat) : ByteArray := match o with | none => { data := #[] } | some k => tx (eN k)
def ye (y : Int) (o : Option Nat) : Int := match o with | none => 0 | some k => y - eY k + 1

theorem below5 {k : Nat} (h : k < 5) : k = 0 ∨ k = 1 ∨ k = 2 ∨ k = 3 ∨ k = 4 := by omega
theorem eF_valid : ∀ k, k < 5 → Valid (eY k) (eM k) (eD k) := by decide
theorem eY_bounds : ∀ k, k < 5 → 1868 ≤ eY k ∧ eY k ≤ 2019 := by decide
theorem eF_first : ∀ k, k < 5 → 1868 ≤ eF k := by decide
theorem cur_lt {day : Int} : ∀ {n k : Nat}, cur day n = some k → k < n
  | 0, k, h => by cases h
  | n + 1, k, h => by
    unfold cur at h
    split at h
    · cases h; omega
    · have := cur_lt h; omega

/-- The table's cells. -/
def eraA : Array Value := #[.string (tx (eN 0)), .int .i64 1868, .int .i64 1, .int .i64 25, .string (tx (eN 1)), .int .i64 1912, .int .i64 7, .int .i64 30, .string (tx (eN 2)), .int .i64 1926, .int .i64 12, .int .i64 25, .string (tx (eN 3)), .int .i64 1989, .int .i64 1, .int .i64 8, .string (tx (eN 4)), .int .i64 2019, .int .i64 5, .int .i64 1]
structure ELaid (w : World) : Prop where
  base : CLaid w
  er : ∃ t fz, w.heap[1]? = some (.cells eraA t fz)
theorem ELaid.below {B : Nat} {w w' : World} (h : ELaid w) (hb : Below B w w') (hB : 3 ≤ B) : ELaid w' := by
  refine ⟨h.base.below hb hB, ?_⟩
  obtain ⟨t, fz, e⟩ := h.er
  exact ⟨t, fz, by rw [hb.block _ (by omega)]; exact e⟩
theorem ELaid.next {w w' : World} (h : ELaid w) (hb : Below w.heap.size w w') : ELaid w' := h.below hb h.base.size

theorem info_eras : (Tryd.prog.info? 42).map (·.size) = some 20 := by kernel_rfl
theorem index_era (k : Nat) (hk : k < 5) (w : World) : (Instr.index 42 (.agg eraA) (.int .i64 k)).run Tryd.prog w = .ok (.agg #[.string (tx (eN k)), .int .i64 (eY k), .int .i64 (eM k), .int .i64 (eD k)]) w := by
  rcases below5 hk with rfl | rfl | rfl | rfl | rfl <;> kernel_rfl

theorem results_tmp3' {fn : Func} {t u v : Tmp} (h : fn.results = #[.tmp t, .tmp u, .tmp v]) (tmps : Array Value) (P : Program) (w : World) :
    (results fn tmps).run P w = .ok (.tuple #[tmps.getD t undef, tmps.getD u undef, tmps.getD v undef]) w := by
  simp [results, h]

theorem nm_ne (day : Int) (n : Nat) (hn : n ≤ 5) : (!(nm (cur day n)).toList.isEmpty) = (cur day n).isSome := by
  rcases hc : cur day n with _ | k
  · decide +kernel
  · have hk : k < 5 := by have := cur_lt hc; omega
    rcases below5 hk with rfl | rfl | rfl | rfl | rfl <;> decide +kernel

/-- The era of a day that exists, and the year in it. -/
theorem era_is (day y m d : Int) (h : IsDate day y m d) (w : World) (hL : ELaid w) :
    Calls Tryd.prog 14 #[.int .i64 day] w fun e w' => e = .returned (.tuple #[.string (nm (cur day 5)), .int .i64 (ye y (cur day 5)), .bool (cur day 5).isSome]) ∧ Below w.heap.size w w' := by
  have HD := Lib.hid (date_is day y m d h w hL.base)
  have hy1 := h.1.1
  have hy2 := h.1.2.1
  have hr := h.range
  have HF := Lib.hid (fun (k : Nat) (hk : k < 5) (W : World) (hW : CLaid W) => day_is (eY k) (eM k) (eD k) (eF_valid k hk) W hW)
  have HX := Lib.hid (fun (k : Nat) (hk : k < 5) W => index_era k hk W)
  have HY := Lib.hid eY_bounds
  have HN := Lib.hid (nm_ne day 5 (Nat.le_refl _))
  have h3 := hL.base.size
  clear h
  go_enter Tryd.func14, Tryd.ntmps14
  go_wp2_with (first
    | (go_at_call 9; (with_reducible refine HD.out.mono ?_); rintro e w1 ⟨rfl, hb1⟩
       have hL1 := hL.next hb1
       obtain ⟨te, fz, he⟩ := hL1.er
       have HE := Lib.hid he
       clear he HD)
    | (refine wpList_load_row rfl 42 (.global 1) rfl 1 rfl te eraA fz _ HE.out Tryd.underlying42 rfl info_eras ?_))
  go_loopw [2, 3, 22] (fun n v i wr => ∃ k : Nat, i = .int .i64 k ∧ k ≤ 5 ∧ n = .string (nm (cur day k)) ∧ v = .int .i64 (ye y (cur day k)) ∧ Below w.heap.size w wr) (fun _ _ i _ => 5 - (intOf i).toNat)
  case atStart => exact ⟨0, rfl, by omega, rfl, rfl, hb1⟩
  case round =>
    obtain ⟨k, rfl, hk, rfl, rfl, hb⟩ := hrel
    by_cases hk5 : k < 5
    · have HL2 := Lib.hid (hL.next hb)
      have hx := HX.out k hk5
      have hf := HF.out k hk5
      have hy := HY.out k hk5
      have hnum : num (eY k) (eM k) (eD k) = eF k := rfl
      rw [hnum] at hf
      clear hnum
      have hbW : Below wr.heap.size wr (wr.alloc (.cells #[.string (tx (eN k)), .int .i64 (eY k), .int .i64 (eM k), .int .i64 (eD k)] 41)) := (Below.refl _ wr).alloc (Nat.le_refl _) _
      have hsz : (wr.alloc (.cells #[.string (tx (eN k)), .int .i64 (eY k), .int .i64 (eM k), .int .i64 (eD k)] 41)).heap.size = wr.heap.size + 1 := by show (wr.heap.push _).size = _; simp
      have HW1 := Lib.hid (HL2.out.base.next hbW)
      have k0 : (wr.alloc (.cells #[.string (tx (eN k)), .int .i64 (eY k), .int .i64 (eM k), .int .i64 (eD k)] 41)).cell? ⟨wr.heap.size, 0, none⟩ = some (.string (tx (eN k))) := by rw [World.cell?_alloc_at _ _ _ _ rfl]; rfl
      have k1 : (wr.alloc (.cells #[.string (tx (eN k)), .int .i64 (eY k), .int .i64 (eM k), .int .i64 (eD k)] 41)).cell? ⟨wr.heap.size, 1, none⟩ = some (.int .i64 (eY k)) := by rw [World.cell?_alloc_at _ _ _ _ rfl]; rfl
      have HKK := Lib.hid (show ∀ w2, Below (wr.alloc (.cells #[.string (tx (eN k)), .int .i64 (eY k), .int .i64 (eM k), .int .i64 (eD k)] 41)).heap.size (wr.alloc (.cells #[.string (tx (eN k)), .int .i64 (eY k), .int .i64 (eM k), .int .i64 (eD k)] 41)) w2 → w2.cell? ⟨wr.heap.size, 0, none⟩ = some (.string (tx (eN k))) ∧ w2.cell? ⟨wr.heap.size, 1, none⟩ = some (.int .i64 (eY k)) ∧ Below w.heap.size w w2 by
        intro w2 h2
        refine ⟨?_, ?_, (hb.trans (hbW.mono hb.size)).trans (h2.mono (by rw [hsz]; have := hb.size; omega))⟩
        · rw [h2.cell (p := ⟨wr.heap.size, 0, none⟩) (show wr.heap.size < _ by rw [hsz]; omega)]; exact k0
        · rw [h2.cell (p := ⟨wr.heap.size, 1, none⟩) (show wr.heap.size < _ by rw [hsz]; omega)]; exact k1)
      have HS := Lib.hid (show cur day (k + 1) = if eF k ≤ day then some k else cur day k from rfl)
      clear hbW hsz k0 k1 HL2
      by_cases hle : eF k ≤ day
      · go_wp2_with (go_at_call 7; refine (hf _ HW1.out).mono ?_; rintro e w2 ⟨rfl, hb2⟩)
        obtain ⟨q0, q1, hb3⟩ := HKK.out w2 hb2
        clear hb2
        go_quiet (fail)
        go_wp2
        go_roundw
        case rel => exact ⟨k + 1, rfl, by omega, by rw [HS.out, if_pos hle]; rfl, by rw [HS.out, if_pos hle]; rfl, below_drews hb3 _⟩
        case measure => simp [intOf]; omega
      · have HLE := Lib.hid hle
        go_wp2_with (go_at_call 7; refine (hf _ HW1.out).mono ?_; rintro e w2 ⟨rfl, hb2⟩)
        obtain ⟨q0, q1, hb3⟩ := HKK.out w2 hb2
        clear hb2
        go_roundw
        case rel => exact ⟨k + 1, rfl, by omega, by rw [HS.out, if_neg (by have := HLE.out; omega)], by rw [HS.out, if_neg (by have := HLE.out; omega)], hb3⟩
        case measure => simp [intOf]; omega
    · obtain rfl : k = 5 := by omega
      have hn := HN.out
      go_wp2
      (try simp only [Exit.inBlock, Exit.then]); refine bodyPost_ret (results_tmp3' rfl _ _ _) rfl ?_
      exact ⟨rfl, hb⟩

theorem era_not (day : Int) (h : ¬ (1 ≤ day ∧ day ≤ 3652059)) (w : World) :
    Calls Tryd.prog 14 #[.int .i64 day] w fun e w' => e = .returned (.tuple #[.string { data := #[] }, .int .i64 0, .bool false]) ∧ Below w.heap.size w w' := by
  have HD := Lib.hid (date_not day h w)
  clear h
  go_enter Tryd.func14, Tryd.ntmps14
  go_wp2_with (go_at_call 9; (with_reducible refine HD.out.mono ?_); rintro e w1 ⟨rfl, hb1⟩)
  (try simp only [Exit.inBlock, Exit.then]); refine bodyPost_ret (results_tmp3' rfl _ _ _) rfl ?_
  exact ⟨rfl, hb1⟩

end Go.Proofs.YteelmjmiankflaaDoor.Cal
