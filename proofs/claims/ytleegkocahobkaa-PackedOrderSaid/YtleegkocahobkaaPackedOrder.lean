/-
  PackedOrder returns true for every list of differences and every number: numbers before Find are less, the others are not. Conditions: none.
-/
import Derived.Test.YtleegkocahobkaaPkJ
import Derived.OpenShut
import Derived.ShutString
import Derived.ChangeOld
import Derived.HandedShaped
import Derived.LaidMore
import Derived.Lay
import Derived.SizedLaws
import Derived.Deep.DeepHandedRow
import Derived.Test.YtleegkocahobkaaBvFr
set_option linter.unusedVariables false
set_option linter.unusedSimpArgs false
set_option maxRecDepth 100000
namespace Go.Proofs.Ytleegkocahobkaa.packedOrder
open Go Go.RowKit Go.ChangeShapes Go.WideShapes Go.ChangeAt Go.Proofs.Ytleegkocahobkaa Go.Proofs.Ytleegkocahobkaa.Kit Go.Proofs.Ytleegkocahobkaa.Bv
open Go.ChangeMaps (open_string shut_string)
open Go.Proofs.Ytleegkocahobkaa.Pk
/-- The sum of the first k differences. -/
def ps (ss : List Nat) : Nat → Nat
  | 0 => 0
  | k + 1 => ps ss k + ss.getD k 0
theorem ps_le {ss : List Nat} (h : ∀ x ∈ ss, x < 4294967296) : ∀ k, ps ss k ≤ k * 4294967296 := by
  intro k
  induction k with
  | zero => simp [ps]
  | succ k ih =>
    have h1 : ss.getD k 0 ≤ 4294967296 := by
      rw [List.getD_eq_getElem?_getD]
      by_cases hk : k < ss.length
      · rw [List.getElem?_eq_getElem hk]; exact Nat.le_of_lt (h _ (List.getElem_mem hk))
      · rw [List.getElem?_eq_none (by omega)]; simp
    simp only [ps]
    omega
def sums (ss : List Nat) (k : Nat) : List Nat := (List.range k).map fun i => ps ss (i + 1)
theorem sums_len (ss : List Nat) (k : Nat) : (sums ss k).length = k := by simp [sums]
theorem sums_get (ss : List Nat) {k i : Nat} (h : i < k) : (sums ss k)[i]? = some (ps ss (i + 1)) := by unfold sums; rw [List.getElem?_map, List.getElem?_range h]; rfl
theorem sums_succ (ss : List Nat) (k : Nat) : sums ss (k + 1) = sums ss k ++ [ps ss (k + 1)] := by simp [sums, List.range_succ]
theorem sums_asc (ss : List Nat) (k : Nat) : Asc (sums ss k) := fun i hi => by
  rw [sums_len] at hi
  rw [getD_of (sums_get ss (by omega)), getD_of (sums_get ss hi)]
  show ps ss (i + 1) ≤ ps ss (i + 1) + _
  omega
theorem sums_u64 {ss : List Nat} (h : ∀ x ∈ ss, x < 4294967296) {k : Nat} (hk : k ≤ 3000) : U64 (sums ss k) := by
  intro x hx
  unfold sums at hx
  obtain ⟨i, hi, rfl⟩ := List.mem_map.1 hx
  have h1 := List.mem_range.1 hi
  have h2 := ps_le h (i + 1)
  omega
theorem found_split {l : List Nat} {x r i : Nat} (ha : Asc l) (hf : Bv.Found l.length (fl l x) r) (hi : i < l.length) : (i < r → l.getD i 0 < x) ∧ (r ≤ i → x ≤ l.getD i 0) := by
  obtain ⟨h1, h2, h3⟩ := hf
  constructor
  · intro h
    have := h2 i h
    unfold fl at this
    rw [decide_eq_false_iff_not] at this
    omega
  · intro h
    have h4 := h3 (by omega)
    unfold fl at h4
    rw [decide_eq_true_iff] at h4
    have h5 := asc_le ha (i - r) (i := r) (by omega)
    rw [show r + (i - r) = i by omega] at h5
    omega
set_option maxHeartbeats 4000000 in
theorem walk (a0 : Option Addr) (len0 cap0 : Nat) (z0 : List Int) (a1 : Int) (w : World) (w0 : IsRow .u32 w a0 len0 cap0 z0) (w1 : (Lit.int .u64 a1).wf = true) :
    Calls Try.prog 9 #[.slice a0 len0 cap0, .int .u64 a1] w fun e w' => e = .returned (.bool true) ∧ Below w.heap.size w w' := by
  obtain ⟨ss, hR, rfl, hx⟩ := u32_of_row w0
  have h1 := wf_u64 w1
  clear w0 w1
  obtain ⟨x, rfl⟩ := Int.eq_ofNat_of_zero_le h1.1
  clear h1
  have hlen := hR.len.2
  unfold maxLen at hlen
  by_cases hl : ss.length ≤ 3000
  · obtain ⟨i0, hi, hz0, hz1, hz2⟩ := info_parts info_u64
    have HR := Lib.hid hR
    have HWK := Lib.hid works_pk
    have hlz : (ss.length : Int) ≤ 3000 := by omega
    have HPS := Lib.hid (ps_le hx)
    have HU := Lib.hid (fun k (hk : k ≤ 3000) => sums_u64 hx hk)
    have HX := Lib.hid hx
    obtain ⟨n, hn⟩ : ∃ n, ss.length = n := ⟨_, rfl⟩
    have HNN := Lib.hid hn
    rw [hn] at hlen hl hlz HR ⊢
    have hn0 := own_nil w w.heap.size 27 1
    clear hn hR hx
    go_enter Try.func9, Try.ntmps9
    go_wp2
    go_loopw [5, 6, 7] (fun v s i wr => ∃ k : Nat, k ≤ n ∧ i = .int .i64 (k : Int) ∧ s = .int .u64 (ps ss k : Nat) ∧ wr.ownsRow w.heap.size 27 1 v k (u64s (sums ss k)) ∧ Below w.heap.size w wr) (fun _ _ i _ => n - (intOf i).toNat)
    case atStart => exact ⟨0, Nat.zero_le _, rfl, rfl, hn0, Below.refl _ _⟩
    case round =>
      clear hn0
      obtain ⟨k, hk, rfl, rfl, hown, hb⟩ := hrel
      by_cases hlt : k < n
      · obtain ⟨y, hy⟩ : ∃ y, ss[k]? = some y := ⟨_, List.getElem?_eq_getElem (by rw [HNN.out]; exact hlt)⟩
        obtain ⟨b, off, rfl, hblt, hc0⟩ := Reads.cell HR.out (u32s_get hy)
        rw [← hb.cell (p := ⟨b, off + k, none⟩) hblt] at hc0
        have hyl := HX.out y (List.mem_of_getElem? hy)
        have hP : Hid (ps ss (k + 1) = ps ss k + y) := Lib.hid (by simp only [ps]; rw [getD_of hy])
        have hpl := HPS.out k
        have HSS := Lib.hid (sums_succ ss k)
        obtain ⟨P, hPP⟩ : ∃ P, ps ss k = P := ⟨_, rfl⟩
        rw [hPP] at hP hpl ⊢
        obtain ⟨Q, hQ⟩ : ∃ Q, P + y = Q := ⟨_, rfl⟩
        rw [hQ] at hP
        rw [hP.out] at HSS
        have hQz : (P : Int) + (y : Int) = (Q : Int) := by omega
        have hQl : Q < 18446744073709551616 := by omega
        have hwy : IntKind.u64.wrap (y : Int) = (y : Int) := by rw [IntKind.wrap_u64]; omega
        have hwq : IntKind.u64.wrap (Q : Int) = (Q : Int) := by rw [IntKind.wrap_u64]; omega
        have hmy : (y : Int) % 18446744073709551616 = (y : Int) := by omega
        have hmq : (Q : Int) % 18446744073709551616 = (Q : Int) := by omega
        clear hy hPP hQ hpl hyl
        go_wp2_with (at_builtin; refine wpList_append_own _ rfl _ _ _ rfl w.heap.size 27 i0 (.int .u64 0) 1 8 Try.underlying22 hi hz0 hz1 hz2 rfl (by decide) _ k (u64s (sums ss k)) rfl (hown.alloc _) ⟨_, 0, none⟩ 1 1 [.int .u64 (Q : Int)] rfl rfl (cell_one_new _ _ _) ?c2 ?c3 ?c4 ?c5 ?_)
        case c2 => simp [Value.oneCell']
        case c3 => unfold maxLen; omega
        case c4 => omega
        case c5 => have := hb.size; simp; omega
        intro v' w5 hown5 hg5 _
        have hb5 := below_own (hb.alloc (by have := hb.size; omega) _) (hown.alloc _) (Nat.le_refl _) (by have := hb.size; simp; omega) hg5
        have HO : Hid (w5.ownsRow w.heap.size 27 1 v' (k + 1) (u64s (sums ss (k + 1)))) := Lib.hid (by rw [HSS.out, u64s_append]; exact hown5)
        clear hown hown5 hg5 hQz hwy hwq hmy hmq
        go_wp2
        go_roundw
        case rel => exact ⟨k + 1, by omega, by go_num, by rw [hP.out], HO.out, hb5⟩
        case measure => simp [intOf]; omega
      · obtain rfl : k = n := by omega
        obtain ⟨L, hL⟩ : ∃ L, sums ss k = L := ⟨_, rfl⟩
        have hLl : L.length = k := by rw [← hL]; exact sums_len ss k
        have hLx : U64 L := by rw [← hL]; exact HU.out k hl
        have hLa : Asc L := by rw [← hL]; exact sums_asc ss k
        rw [hL] at hown
        obtain ⟨am, cm, hvm⟩ := own_is hown
        subst hvm
        have hLR := own_reads hown
        have HLL := Lib.hid hLl
        have HLX := Lib.hid hLx
        have HLA := Lib.hid hLa
        have HLR := Lib.hid hLR
        have hbs := hb.size
        have HN : Hid (Calls Try.prog 11 #[.slice am k cm] wr (fun e w' => ∃ p, e = .returned (.tuple #[.pointer (some ⟨p, 0, none⟩), .int .i64 0]) ∧ PkAt wr.heap.size w'.heap.size w' p L ∧ Below wr.heap.size wr w')) := Lib.hid (by subst hLl; exact pnew_at L am cm wr (by omega) hLx hLR)
        have HFD := Lib.hid (fun (B0 B1 p : Nat) (W : World) (h : PkAt B0 B1 W p L) (hB : B1 ≤ W.heap.size) => find_at h hB (by rw [HLL.out]; omega) HLX.out HLA.out x)
        have HSP := Lib.hid (fun r i (hf : Bv.Found L.length (fl L x) r) (hi : i < L.length) => found_split HLA.out hf hi)
        rw [HLL.out] at HFD HSP
        have hcm := hLR.len.2
        unfold maxLen at hcm
        clear hL hLl hLx hLa hLR hown
        go_wp2_with (first
          | (go_at_call 11; (with_reducible refine HN.out.mono ?_); rintro e w7 ⟨p, rfl, hv, hb7⟩; have HB7a := Lib.hid hb7; have HB7 := Lib.hid (hb.trans (hb7.mono hbs)); have HF := Lib.hid (HFD.out _ _ _ _ hv (Nat.le_refl _)); clear hv hb7)
          | (go_at_call 17; (with_reducible refine HF.out.mono ?_); rintro e w8 ⟨r, rfl, hf8, hb8⟩; have HB8 := Lib.hid (HB7.out.trans (hb8.mono HB7.out.size)); have HB8a := Lib.hid (HB7a.out.trans (hb8.mono HB7a.out.size)); have HFF := Lib.hid hf8; have hrk := hf8.1; have hrz : (r : Int) ≤ (k : Int) := (by omega); clear hb8 hf8))
        have HSI := Lib.hid (fun i (hi : i < k) => HSP.out r i HFF.out hi)
        clear HSP HFF HF HFD HN
        go_loopw [11] (fun y W => ∃ i : Nat, i ≤ k ∧ y = .int .i64 i ∧ w8 = W) (fun y _ => k - (intOf y).toNat)
        case atStart => exact ⟨0, Nat.zero_le _, rfl, rfl⟩
        case round =>
          obtain ⟨i, hik, rfl, hww⟩ := hrel
          subst hww
          by_cases hil : i < k
          · obtain ⟨y, hy⟩ : ∃ y, L[i]? = some y := ⟨_, List.getElem?_eq_getElem (by rw [HLL.out]; exact hil)⟩
            obtain ⟨b, off, rfl, hblt, hc0⟩ := Reads.cell HLR.out (u64s_get hy)
            rw [← HB8a.out.cell (p := ⟨b, off + i, none⟩) hblt] at hc0
            obtain ⟨s1, s2⟩ := HSI.out i hil
            rw [getD_of hy] at s1 s2
            clear hy
            by_cases hir : i < r
            · have hz1 : (y : Int) < (x : Int) := by have := s1 hir; omega
              have hz2 : (i : Int) < (r : Int) := by omega
              clear s1 s2
              go_wp2
              go_roundw
              case rel => exact ⟨i + 1, by omega, by go_num, trivial⟩
              case measure => simp [intOf]; omega
            · have hz1 : (x : Int) ≤ (y : Int) := by have := s2 (by omega); omega
              have hz2 : (r : Int) ≤ (i : Int) := by omega
              clear s1 s2
              go_wp2
              go_roundw
              case rel => exact ⟨i + 1, by omega, by go_num, trivial⟩
              case measure => simp [intOf]; omega
          · obtain rfl : i = k := by omega
            go_wp2_with (go_at_call 16; (with_reducible refine (HWK.out _).mono ?_); rintro e w10 ⟨rfl, hb10⟩; have HB10 := Lib.hid (HB8.out.trans (hb10.mono HB8.out.size)); clear hb10)
            go_ret
            exact ⟨rfl, HB10.out⟩
  · have hlz : (3000 : Int) < (ss.length : Int) := by omega
    clear hl hR hx
    go_enter Try.func9, Try.ntmps9
    go_wp2
    go_ret
    exact ⟨rfl, Below.refl _ _⟩
theorem own : ownKnob Try.prog.godebug = none := by kernel_rfl
theorem laidOut : laidOutB Try.prog = true := by kernel_rfl

set_option maxRecDepth 100000 in
theorem lifted (os : Os) (started : os.Started) (H : Type) (enc : TypeId × Value → H) :
    ReturnsInHanded {} Try.checked os 9 .any (Rows.packedOrderSpec.pre6 enc Try.prog Try.f9 Rows.packedOrderRow.domain false) (Rows.packedOrderSpec.post enc Try.prog Try.f9 false true false false) := by
  refine returnsInHanded_of_change_shaped (C := Try.checked) own started (by kernel_rfl) Try.func9
    (ChangeSpec.witness6 (enc := enc) (C := Try.checked) false ⟨#[], #[.slice none 0 0, .int .u64 0], []⟩ 8 (by kernel_rfl) (by kernel_rfl) (by kernel_rfl) (by kernel_rfl)) ?_
  intro W base args ds gs before hval0 hW hcnd hsz0 hsh _
  have hval : ∀ (j : Nat) t v, Try.f9.params[j]? = some t → args[j]? = some v → Value.okWide Try.prog W .any base t v := hval0
  have hW' := hW
  obtain ⟨p, q, hA0, hV, rfl, hfz, hnd⟩ := hW
  have hA : DataW.TrodAll enc Try.prog W 0 (fun _ => true) true Try.f9.params.toList args.toList ds p := hA0
  rw [Try.params9] at hA hval
  obtain ⟨v0, vs0, d0, ds0, p0, q0, hargs, rfl, rfl, h0, r0⟩ := trodAll_cons hA
  obtain ⟨v1, vs1, d1, ds1, p1, q1, rfl, rfl, rfl, h1, r1⟩ := trodAll_cons r0
  obtain ⟨rfl, rfl, rfl⟩ := trodAll_nil r1
  obtain rfl : args = #[v0, v1] := by cases args; simp_all
  obtain ⟨rfl, rfl⟩ := trodVars_none hV
  obtain ⟨a0, len0, cap0, rfl⟩ := okWide_slice Try.underlying48 (hval 0 48 v0 rfl rfl)
  have k0 := h0
  have lt0 : ∀ x ∈ p0, x.block < W.heap.size := by obtain ⟨m, hm⟩ := k0; exact DataW.trod_lt m _ _ _ hm
  obtain ⟨z0, w0⟩ : ∃ zs, IsRow .u32 W a0 len0 cap0 zs := by
    obtain ⟨fuel, hf⟩ := h0
    rcases open_ints Try.underlying48 Try.underlying49 (by kernel_rfl) hf with ⟨hcs, _⟩ | ⟨x, l, c, zs, hcs, _, hl, hm, hz, _, hcell, hwz⟩
    · simp [Value.cells] at hcs
      obtain ⟨rfl, rfl, rfl⟩ := hcs
      exact ⟨[], .inl ⟨rfl, rfl, rfl, rfl⟩⟩
    · simp [Value.cells] at hcs
      obtain ⟨rfl, rfl, rfl⟩ := hcs
      exact ⟨zs, .inr ⟨_, rfl, hl, hm, by simpa using hz, hcell, hwz⟩⟩
  obtain ⟨a1, rfl, rfl, rfl, w1⟩ := open_int Try.underlying27 (hval 1 27 v1 rfl rfl) h1
  clear hA0 hval0
  refine (walk a0 len0 cap0 z0 a1 W w0 w1).mono fun e W' ⟨he, bel⟩ => ?_
  subst he
  exact ⟨_, rfl, _, _, _, [], _, [], hW', trodAll_mk1 (shut_bool Try.underlying4 _), (trodAll_cons_mk (Below.trod laidOut (by kernel_rfl) (of_decide_eq_true (by kernel_rfl)) k0 bel lt0) (trodAll_cons_mk (shut_int Try.underlying27 w1) trodAll_mk0)), rfl, bel.frame _, fun h => by cases h⟩

theorem over : Rows.packedOrderRow.holds Try.pinned (OpenSpec.ofChange Rows.packedOrderSpec) :=
  OpenClaim.holds_of_wide 9 Try.f9 rfl rfl rfl rfl rfl rfl rfl ⟨rfl, rfl, rfl, rfl, rfl⟩ rfl rfl rfl rfl rfl (by kernel_rfl) Try.func9 (by kernel_rfl)
    (of_decide_eq_true (by kernel_rfl)) (by unfold Func.isWrapper; first | (rw [if_pos (by decide +kernel)]; kernel_rfl) | (rw [if_neg (by decide +kernel)]; exact ⟨rfl, rfl⟩))
    (fun os started H enc _ => lifted os started H enc)

theorem proved : Rows.PackedOrderSaid := over
end Go.Proofs.Ytleegkocahobkaa.packedOrder
