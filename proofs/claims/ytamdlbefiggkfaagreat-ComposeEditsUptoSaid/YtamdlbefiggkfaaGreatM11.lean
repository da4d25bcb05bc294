/-
  Joined texts: CmpT, RomS, RomV, RomEq, RomE, RomX, RomQ, RomR, RomY, RomZ, RomO, RomT.
-/
import Derived.Test.YtamdlbefiggkfaaGreatM10
import Derived.Test.YtamdlbefiggkfaaGreatM6
import Derived.Test.YtamdlbefiggkfaaGreatM4
import Derived.Deep.RegionHeld3
import Derived.Laws.StructEq
import Derived.Lib.Strings
import Derived.Deep.AppendLies
import Derived.Deep.DrawnRows
import Derived.Maps.AppendAt
set_option linter.unusedVariables false
set_option linter.unusedSimpArgs false
set_option maxRecDepth 100000
namespace Go.Proofs.YtamdlbefiggkfaaGreat.Cmp
open Go Go.RowKit Go.Proofs.YtamdlbefiggkfaaGreat.Kit Go.Proofs.YtamdlbefiggkfaaGreat.Utf Go.Proofs.YtamdlbefiggkfaaGreat.Rom Go.Proofs.YtamdlbefiggkfaaGreat.Aut

theorem textpart_any (i : It) (w : World) : Calls Tryz.prog 60 #[iagg i] w fun e w' => e = .returned (.string i.o) ∧ Below w.heap.size w w' := by
  obtain ⟨r, o⟩ := i
  unfold iagg
  simp only
  go_enter Tryz.func60, Tryz.ntmps60
  go_wp2
  go_ret
  exact ⟨rfl, (Below.refl _ _).alloc (Nat.le_refl _) _⟩
theorem rawpart_any (i : It) (w : World) : Calls Tryz.prog 61 #[iagg i] w fun e w' => e = .returned (.string i.r) ∧ Below w.heap.size w w' := by
  obtain ⟨r, o⟩ := i
  unfold iagg
  simp only
  go_enter Tryz.func61, Tryz.ntmps61
  go_wp2
  go_ret
  exact ⟨rfl, (Below.refl _ _).alloc (Nat.le_refl _) _⟩

/-- The parts of items, put together. -/
def cat (g : It → ByteArray) (is : List It) : By := is.flatMap fun i => bs (g i)
theorem cat_succ (g : It → ByteArray) (is : List It) (k : Nat) (h : k < is.length) : cat g (is.take (k + 1)) = cat g (is.take k) ++ bs (g (ii is k)) := by
  unfold cat
  rw [take_succ_ii is k h, List.flatMap_append]
  simp
theorem cat_le {g : It → ByteArray} {is : List It} (h : ∀ i ∈ is, (g i).size ≤ 1048576) : (cat g is).length ≤ 1048576 * is.length := by
  induction is with
  | nil => simp [cat]
  | cons i is ih =>
    have h1 := h i (by simp)
    have h2 := ih (fun x hx => h x (List.mem_cons_of_mem _ hx))
    unfold cat at h2 ⊢
    rw [List.flatMap_cons, List.length_append, bs_len, List.length_cons]
    omega
theorem cat_take_le {g : It → ByteArray} {is : List It} {k : Nat} (h : ∀ i ∈ is, (g i).size ≤ 1048576) (hn : is.length ≤ 1048576) : (cat g (is.take k)).length ≤ 1099511627776 := by
  have h1 := cat_le (g := g) (is := is.take k) (fun i hi => h i (List.mem_of_mem_take hi))
  rw [List.length_take] at h1
  omega

set_option maxHeartbeats 8000000 in
theorem together_any (G : FuncId) (g : It → ByteArray) (eG : ∀ args w, (callFunc G args).run Tryz.prog w = .ok (.enter G args) w) (hG : ∀ (i : It) (W : World), Calls Tryz.prog G #[iagg i] W fun e w' => e = .returned (.string (g i)) ∧ Below W.heap.size W w')
    (is : List It) (s : Value) (kb : Nat) (w : World) (hI : ItR w s is) (hkb : kb < w.heap.size) (hc : w.cell? ⟨kb, 0, none⟩ = some (.func (.func G) #[] #[])) (hg : ∀ i ∈ is, (g i).size ≤ 1048576) (hn : is.length ≤ 1048576) :
    Calls Tryz.prog 78 #[s, .pointer (some ⟨kb, 0, none⟩)] w fun e w' => e = .returned (.string (ba (cat g is))) ∧ Below w.heap.size w w' := by
  obtain ⟨a, len, cap, rfl, hlen, hcap, hmax, _⟩ := id hI
  subst hlen
  have HR := Lib.hid hI
  have HS := Lib.hid hg
  have HG := Lib.hid hG
  have HCT := Lib.hid (fun k => cat_take_le (k := k) hg hn)
  have HCS := Lib.hid (cat_succ g is)
  have hB0 := builder_new2 119 5 w w.heap.size rfl
  have hb0 : Below w.heap.size w (w.alloc (.cells #[.pointer none, .slice none 0 0] 119)) := (Below.refl _ _).alloc (Nat.le_refl _) _
  have hs0 : w.heap.size + 1 ≤ (w.alloc (.cells #[.pointer none, .slice none 0 0] 119)).heap.size := by simp
  have HB0 := Lib.hid hB0
  clear hI hg hG hB0
  go_enter Tryz.func78, Tryz.ntmps78
  go_wp2
  go_loopw [9] (fun i wr => ∃ k : Nat, i = .int .i64 k ∧ k ≤ is.length ∧ Hid (Lib.IsBuilderF 119 5 w.heap.size w.heap.size (Lib.byteCells (cat g (is.take k))) wr) ∧ Below w.heap.size w wr ∧ w.heap.size + 1 ≤ wr.heap.size) (fun i _ => is.length - (intOf i).toNat)
  case atStart => exact ⟨0, rfl, Nat.zero_le _, HB0, hb0, hs0⟩
  case round =>
    obtain ⟨k, rfl, hk, hBl, hbw, hws⟩ := hrel
    have hct := HCT.out k
    by_cases hkl : k < is.length
    · obtain ⟨b, off, rfl, hb, hx⟩ := HR.out.at (by omega)
      obtain ⟨x0, x1⟩ := hx k hkl
      rw [← hbw.cell (p := ⟨b, _, none⟩) hb] at x0 x1
      have z1 := HS.out _ (ii_mem hkl)
      have hc2 : wr.cell? ⟨kb, 0, none⟩ = some (.func (.func G) #[] #[]) := by rw [hbw.cell (p := ⟨kb, 0, none⟩) hkb]; exact hc
      have hsu := Lib.hid (HCS.out k hkl)
      have k0 : (0 : Int) ≤ k := by omega
      have k1 : (k : Int) < is.length := by omega
      have HGi := Lib.hid (HG.out (ii is k))
      clear hx
      generalize hgi : g (ii is k) = y at z1 hsu HGi
      generalize ii is k = r at x0 x1 hgi HGi
      obtain ⟨rr, ro⟩ := r
      unfold iagg at HGi
      simp only at x0 x1 HGi
      generalize cat g (is.take k) = acc at hBl hsu hct
      clear hgi
      have hkb2 : kb < wr.heap.size := by omega
      go_wp2_with (first
        | (go_at_call 79; (with_reducible refine (Tryz.writeString w.heap.size w.heap.size (Lib.byteCells acc) _ _ HB5.out (by rw [Lib.byteCells_length]; omega) (by omega)).mono ?_); rintro e w6 ⟨rfl, hA6, hb6, ho6⟩)
        | ((with_reducible refine (HGi.out _).mono ?_); rintro e w5 ⟨rfl, hb5⟩; have HB5 := Lib.hid (builder_kept2 (hBl.out.alloc (.cells #[.string rr, .string ro] 72)) (fun j _ hj => hb5.block j hj)); have hs5 := hb5.size; simp at hs5))
      have hb6' : Below w.heap.size w w6 := ((hbw.alloc (by omega) _).trans (hb5.mono (by simp; omega))).trans hb6
      exact ⟨⟨k + 1, by go_num, by omega, Lib.hid (by rw [hsu.out, byteCells_app]; exact .inr hA6), hb6', by have := hb6.size; omega⟩, by simp [intOf]; omega⟩
    · have e1 : is.take k = is := List.take_of_length_le (by omega)
      rw [e1] at hBl hct
      have HBl := hBl
      clear e1 hBl
      go_wp2_with (go_at_call 71; refine (Tryz.Builder_String_any_k w.heap.size w.heap.size (cat g is) _ HBl.out (by omega)).mono ?_; rintro e w3 ⟨rfl, _, hb3, _⟩)
      go_ret
      exact ⟨rfl, hbw.trans hb3⟩

set_option maxHeartbeats 8000000 in
theorem around_any (G : FuncId) (g : It → ByteArray) (eG : ∀ args w, (callFunc G args).run Tryz.prog w = .ok (.enter G args) w) (hG : ∀ (i : It) (W : World), Calls Tryz.prog G #[iagg i] W fun e w' => e = .returned (.string (g i)) ∧ Below W.heap.size W w')
    (b : Bf) (s : Value) (w : World) (hI : ItR w s b.is) (hv : 0 ≤ b.c ∧ b.c ≤ b.is.length) (hg : ∀ i ∈ b.is, (g i).size ≤ 1048576) (hn : b.is.length ≤ 1048576) :
    Calls Tryz.prog 59 #[.agg #[s, .int .i64 b.c, .string b.p], .func (.func G) #[] #[]] w fun e w' => e = .returned (.tuple #[.string (ba (cat g (b.is.take b.c.toNat))), .string (ba (cat g (b.is.drop b.c.toNat)))]) ∧ Below w.heap.size w w' := by
  obtain ⟨is, c, p⟩ := b
  simp only at *
  obtain ⟨k, rfl⟩ : ∃ k : Nat, c = k := ⟨c.toNat, by omega⟩
  rw [Int.toNat_natCast]
  obtain ⟨a, len, cap, rfl, hlen, _⟩ := id hI
  subst hlen
  obtain ⟨x1, n1, k1, hs1, hR1⟩ := items_upto (k := k) hI (by omega)
  obtain ⟨x2, n2, k2, hs2, hR2⟩ := items_on (k := k) hI (by omega)
  have HT1 : Hid (∀ W, Below w.heap.size w W → W.cell? ⟨w.heap.size + 1, 0, none⟩ = some (.func (.func G) #[] #[]) → w.heap.size + 1 < W.heap.size → Calls Tryz.prog 78 #[.slice x1 n1 k1, .pointer (some ⟨w.heap.size + 1, 0, none⟩)] W fun e w' => e = .returned (.string (ba (cat g (is.take k)))) ∧ Below W.heap.size W w') := Lib.hid fun W h1 h2 h3 =>
    together_any G g eG hG (is.take k) _ _ W (hR1.later h1 (Nat.le_refl _)) h3 h2 (fun i hi => hg i (List.mem_of_mem_take hi)) (by rw [List.length_take]; omega)
  have HT2 : Hid (∀ W, Below w.heap.size w W → W.cell? ⟨w.heap.size + 1, 0, none⟩ = some (.func (.func G) #[] #[]) → w.heap.size + 1 < W.heap.size → Calls Tryz.prog 78 #[.slice x2 n2 k2, .pointer (some ⟨w.heap.size + 1, 0, none⟩)] W fun e w' => e = .returned (.string (ba (cat g (is.drop k)))) ∧ Below W.heap.size W w') := Lib.hid fun W h1 h2 h3 =>
    together_any G g eG hG (is.drop k) _ _ W (hR2.later h1 (Nat.le_refl _)) h3 h2 (fun i hi => hg i (List.mem_of_mem_drop hi)) (by rw [List.length_drop]; omega)
  have fact : ∀ o1 o2 W, o1 = Obj.cells #[.slice a is.length cap, .int .i64 k, .string p] 25 → o2 = Obj.cells #[.func (.func G) #[] #[]] 111 → W = (w.alloc o1).alloc o2 → W.cell? ⟨w.heap.size, 0, none⟩ = some (.slice a is.length cap) ∧ W.cell? ⟨w.heap.size, 1, none⟩ = some (.int .i64 k) ∧ W.cell? ⟨w.heap.size + 1, 0, none⟩ = some (.func (.func G) #[] #[]) ∧ Below w.heap.size w W ∧ w.heap.size + 1 < W.heap.size := by
    rintro o1 o2 W rfl rfl rfl
    refine ⟨by simp, by simp, ?_, ((Below.refl _ _).alloc (Nat.le_refl _) _).alloc (by simp) _, by simp⟩
    have e := heap_alloc_new (w.alloc (Obj.cells #[.slice a is.length cap, .int .i64 k, .string p] 25)) (Obj.cells #[.func (.func G) #[] #[]] 111)
    have s1 : (w.alloc (Obj.cells #[.slice a is.length cap, .int .i64 k, .string p] 25)).heap.size = w.heap.size + 1 := by simp
    rw [s1] at e
    rw [cell_of_row _ _ 0 _ _ _ e]; rfl
  have FACT := Lib.hid fact
  have hmf : ∀ (fn : Fn) (first cap : Array Value) (w : World), (Instr.makeFunc fn first cap).run Tryz.prog w = .ok (.func fn first cap) w := fun _ _ _ _ => rfl
  have e62 : ∀ args w, (callFunc 78 args).run Tryz.prog w = .ok (.enter 78 args) w := fun _ _ => by kernel_rfl
  clear hG eG hg hR1 hR2 hI fact
  generalize ba (cat g (is.take k)) = y1 at HT1 ⊢
  generalize ba (cat g (is.drop k)) = y2 at HT2 ⊢
  go_enter Tryz.func59, Tryz.ntmps59
  go_wp2
  obtain ⟨W, hW⟩ : ∃ W, W = (w.alloc (Obj.cells #[.slice a is.length cap, .int .i64 k, .string p] 25)).alloc (Obj.cells #[.func (.func G) #[] #[]] 111) := ⟨_, rfl⟩
  rw [← hW]
  obtain ⟨f0, f1, f2, f3, f4⟩ := FACT.out _ _ W rfl rfl hW
  clear hW FACT
  go_region_held3 (fun w' => w'.cell? ⟨w.heap.size, 0, none⟩ = some (.slice a is.length cap) ∧ w'.cell? ⟨w.heap.size, 1, none⟩ = some (.int .i64 k) ∧ w'.cell? ⟨w.heap.size + 1, 0, none⟩ = some (.func (.func G) #[] #[]) ∧ Below w.heap.size w w' ∧ w.heap.size + 1 < w'.heap.size)
    (first
      | exact ⟨f0, f1, f2, f3.drew, f4⟩
      | (go_split_ands
         refine ⟨?_, ?_, ?_, ?_, ?_⟩
         · (rw [hb.cell (by simp; omega)]; assumption)
         · (rw [hb.cell (by simp; omega)]; assumption)
         · (rw [hb.cell (by simp; omega)]; assumption)
         · exact Below.trans (by assumption) (hb.mono (by omega))
         · exact Nat.lt_of_lt_of_le (by assumption) hb.size))
    (first
      | (go_at_call 78; go_split_ands; (with_reducible refine (HT1.out _ (by assumption) (by assumption) (by assumption)).mono ?_); rintro e w' ⟨rfl, hb⟩)
      | (go_at_call 78; go_split_ands; (with_reducible refine (HT2.out _ (by assumption) (by assumption) (by assumption)).mono ?_); rintro e w' ⟨rfl, hb⟩))
  all_goals
    rename_i hHeld
    obtain ⟨_, _, _, hB, _⟩ := hHeld
    go_wp2
    go_ret2
    exact ⟨rfl, hB⟩

theorem join3_any (x y z : ByteArray) (g : Nat) (t : TypeId) (w : World) (hg : w.heap[g]? = some (Obj.cells #[.string x, .string y, .string z] t (0, 0))) (hs : x.size + y.size + z.size ≤ 140737488355328) :
    Calls Tryz.prog 62 #[.slice (some ⟨g, 0, none⟩) 3 3, .string { data := #[] }] w fun e w' => e = .returned (.string (ba (bs x ++ bs y ++ bs z))) ∧ Below w.heap.size w w' := by
  have hj : Lib.join ([x, y, z].map (·.data.toList)) (⟨#[]⟩ : ByteArray).data.toList = bs x ++ bs y ++ bs z := by
    show Lib.join [bs x, bs y, bs z] [] = _
    rw [Lib.join_cons]
    simp [Lib.joinTail]
  have h := Tryz.strings_Join g 0 3 [x, y, z] ⟨#[]⟩ w (by
    intro j u hu
    rw [Nat.zero_add, cell_of_row _ _ j _ _ _ hg]
    match j, hu with
    | 0, hu => cases hu; rfl
    | 1, hu => cases hu; rfl
    | 2, hu => cases hu; rfl
    | j + 3, hu => simp at hu) (Array.getElem?_eq_some_iff.1 hg).1 (by simp) (by simp) (by rw [hj]; simp only [List.length_append, bs_len]; exact hs)
  rw [hj] at h
  exact h

set_option maxHeartbeats 4000000 in
theorem text_buf (b : Bf) (v : Value) (w : World) (hR : BfR w v b) (hsh : Sh b) :
    Calls Tryz.prog 28 #[v] w fun e w' => e = .returned (.tuple #[.string (texB b).1, .string (texB b).2.1, .string (texB b).2.2]) ∧ Below w.heap.size w w' := by
  obtain ⟨a, len, cap, rfl, hI⟩ := hR.open
  have HV := Lib.hid (fun W (hI : ItR W (.slice a len cap) b.is) => valid_any b (.slice a len cap) W hI hsh)
  have HI := Lib.hid (fun (W : World) (h : Below w.heap.size w W) => hI.later h (Nat.le_refl _))
  have hb0 : Below w.heap.size w (w.alloc (Obj.cells #[.slice a len cap, .int .i64 b.c, .string b.p] 25)) := (Below.refl _ _).alloc (Nat.le_refl _) _
  have hvp := @val_parts b
  have HAR := fun (hv : 0 ≤ b.c ∧ b.c ≤ b.is.length) (W : World) (hI : ItR W (.slice a len cap) b.is) => around_any 60 It.o (fun _ _ => by kernel_rfl) textpart_any b (.slice a len cap) W hI hv (fun i hi => (hsh.1 i hi).2) hsh.2.2
  have hps := hsh.2.1
  have HC := Lib.hid (fun W => Clone.clone_any b.p W (by omega))
  unfold texB
  clear hR hI hsh
  obtain ⟨is, c, p⟩ := b
  simp only at *
  cases hv : val ⟨is, c, p⟩
  · rw [hv] at HV
    clear hv hvp HAR
    simp only [Bool.false_eq_true, if_false]
    go_enter Tryz.func28, Tryz.ntmps28
    go_wp2_with (go_at_call 30; (with_reducible refine (HV.out _ (HI.out _ hb0)).mono ?_); rintro e w1 ⟨rfl, hb1⟩)
    go_ret3
    exact ⟨rfl, hb0.trans (hb1.mono (by simp))⟩
  · obtain ⟨v1, v2, v3, _⟩ := hvp hv
    have HA := Lib.hid (HAR ⟨v2, v3⟩)
    rw [hv] at HV
    clear hv hvp HAR
    simp only [if_true]
    show Calls _ _ _ _ fun e w' => e = .returned (.tuple #[.string (ba (cat It.o (is.take c.toNat))), .string p, .string (ba (cat It.o (is.drop c.toNat)))]) ∧ Below w.heap.size w w'
    generalize ba (cat It.o (is.take c.toNat)) = y1 at HA ⊢
    generalize ba (cat It.o (is.drop c.toNat)) = y2 at HA ⊢
    go_enter Tryz.func28, Tryz.ntmps28
    go_wp2_with (first
      | (go_at_call 30; (with_reducible refine (HV.out _ (HI.out _ hb0)).mono ?_); rintro e w1 ⟨rfl, hb1⟩; have hbw1 := hb0.trans (hb1.mono (by simp)); have hc0 := hb1.cell (p := ⟨w.heap.size, 0, none⟩) (by simp); have hc1 := hb1.cell (p := ⟨w.heap.size, 1, none⟩) (by simp); have hc2 := hb1.cell (p := ⟨w.heap.size, 2, none⟩) (by simp); have hz1 := hb1.size; simp at hz1)
      | (go_at_call 59; (with_reducible refine (HA.out _ (HI.out _ hbw1)).mono ?_); rintro e w2 ⟨rfl, hb2⟩; have hbw2 := hbw1.trans (hb2.mono hbw1.size); have hd2 := hb2.cell (p := ⟨w.heap.size, 2, none⟩) (by simp; omega); rw [hc2] at hd2)
      | (go_at_call 26; (with_reducible refine (HC.out _).mono ?_); rintro e w3 ⟨rfl, hb3⟩))
    go_ret3
    exact ⟨rfl, hbw2.trans (hb3.mono hbw2.size)⟩

set_option maxHeartbeats 4000000 in
theorem raw_buf (b : Bf) (v : Value) (w : World) (hR : BfR w v b) (hsh : Sh b) :
    Calls Tryz.prog 29 #[v] w fun e w' => e = .returned (.string (rawB b)) ∧ Below w.heap.size w w' := by
  obtain ⟨a, len, cap, rfl, hI⟩ := hR.open
  have HV := Lib.hid (fun W (hI : ItR W (.slice a len cap) b.is) => valid_any b (.slice a len cap) W hI hsh)
  have HI := Lib.hid (fun (W : World) (h : Below w.heap.size w W) => hI.later h (Nat.le_refl _))
  have hb0 : Below w.heap.size w (w.alloc (Obj.cells #[.slice a len cap, .int .i64 b.c, .string b.p] 25)) := (Below.refl _ _).alloc (Nat.le_refl _) _
  have hvp := @val_parts b
  have HAR := fun (hv : 0 ≤ b.c ∧ b.c ≤ b.is.length) (W : World) (hI : ItR W (.slice a len cap) b.is) => around_any 61 It.r (fun _ _ => by kernel_rfl) rawpart_any b (.slice a len cap) W hI hv (fun i hi => (hsh.1 i hi).1) hsh.2.2
  have hps := hsh.2.1
  have hl1 := cat_le (g := It.r) (is := b.is.take b.c.toNat) (fun i hi => (hsh.1 i (List.mem_of_mem_take hi)).1)
  have hl2 := cat_le (g := It.r) (is := b.is.drop b.c.toNat) (fun i hi => (hsh.1 i (List.mem_of_mem_drop hi)).1)
  have hls := take_drop_len b.is b.c.toNat
  have hln := hsh.2.2
  unfold rawB
  clear hR hI hsh
  obtain ⟨is, c, p⟩ := b
  simp only at *
  cases hv : val ⟨is, c, p⟩
  · rw [hv] at HV
    clear hv hvp HAR
    simp only [Bool.false_eq_true, if_false]
    go_enter Tryz.func29, Tryz.ntmps29
    go_wp2_with (go_at_call 30; (with_reducible refine (HV.out _ (HI.out _ hb0)).mono ?_); rintro e w1 ⟨rfl, hb1⟩)
    go_ret
    exact ⟨rfl, hb0.trans (hb1.mono (by simp))⟩
  · obtain ⟨v1, v2, v3, _⟩ := hvp hv
    have HA := Lib.hid (HAR ⟨v2, v3⟩)
    rw [hv] at HV
    clear hv hvp HAR
    simp only [if_true]
    show Calls _ _ _ _ fun e w' => e = .returned (.string (ba (cat It.r (is.take c.toNat) ++ bs p ++ cat It.r (is.drop c.toNat)))) ∧ Below w.heap.size w w'
    have HJ := Lib.hid (fun g t W hg => join3_any (ba (cat It.r (is.take c.toNat))) p (ba (cat It.r (is.drop c.toNat))) g t W hg (by rw [ba_size, ba_size]; omega))
    rw [bs_ba, bs_ba] at HJ
    generalize ba (cat It.r (is.take c.toNat) ++ bs p ++ cat It.r (is.drop c.toNat)) = y3 at HJ ⊢
    generalize ba (cat It.r (is.take c.toNat)) = y1 at HA HJ
    generalize ba (cat It.r (is.drop c.toNat)) = y2 at HA HJ
    clear hl1 hl2
    go_enter Tryz.func29, Tryz.ntmps29
    go_wp2_with (first
      | (go_at_call 30; (with_reducible refine (HV.out _ (HI.out _ hb0)).mono ?_); rintro e w1 ⟨rfl, hb1⟩; have hbw1 := hb0.trans (hb1.mono (by simp)); have hc0 := hb1.cell (p := ⟨w.heap.size, 0, none⟩) (by simp); have hc1 := hb1.cell (p := ⟨w.heap.size, 1, none⟩) (by simp); have hc2 := hb1.cell (p := ⟨w.heap.size, 2, none⟩) (by simp); have hz1 := hb1.size; simp at hz1)
      | (go_at_call 59; (with_reducible refine (HA.out _ (HI.out _ hbw1)).mono ?_); rintro e w2 ⟨rfl, hb2⟩; have hbw2 := hbw1.trans (hb2.mono hbw1.size); have hd2 := hb2.cell (p := ⟨w.heap.size, 2, none⟩) (by simp; omega); rw [hc2] at hd2)
      | (go_at_call 62; (with_reducible refine (HJ.out _ _ _ (heap_alloc_new w2 _)).mono ?_); rintro e w3 ⟨rfl, hb3⟩))
    go_ret
    exact ⟨rfl, (hbw2.alloc hbw2.size _).trans (hb3.mono (by simp; have := hbw2.size; omega))⟩

end Go.Proofs.YtamdlbefiggkfaaGreat.Cmp

set_option linter.unusedVariables false
set_option linter.unusedSimpArgs false
set_option maxRecDepth 100000
namespace Go.Proofs.YtamdlbefiggkfaaGreat.Rom
open Go Go.RowKit Go.Shelf Go.Proofs.YtamdlbefiggkfaaGreat.Kit Go.Proofs.YtamdlbefiggkfaaGreat.Utf

theorem info_str2 : (Tryz.prog.info? 9).map (fun i => (i.zero, i.size, i.bytes)) = some (some (.string { data := #[] }), 1, 16) := by kernel_rfl
/-- Pieces as cells. -/
def pcells (ps : List (List UInt8)) : List Value := ps.map fun p => Value.string (ba p)
theorem pcells_snoc (ps : List (List UInt8)) (p : List UInt8) : pcells (ps ++ [p]) = pcells ps ++ [.string (ba p)] := by simp [pcells]
theorem pcells_len (ps : List (List UInt8)) : (pcells ps).length = ps.length := by simp [pcells]
theorem ext_ba (s : ByteArray) (f i : Nat) (hi : i ≤ s.size) (hf : f ≤ i) : s.extract f i = ba (((bs s).drop f).take (i - f)) := by
  apply ba_ext
  simp [ba, bs, ByteArray.data_extract, List.extract_eq_take_drop]
theorem free_step {c b : UInt8} {l : List UInt8} {f i : Nat} (h : c ∉ (l.drop f).take (i - f)) (hf : f ≤ i) (hi : l[i]? = some b) (hb : b ≠ c) : c ∉ (l.drop f).take (i + 1 - f) := by
  rw [show i + 1 - f = (i - f) + 1 by omega, List.take_add_one, List.getElem?_drop, show f + (i - f) = i by omega, hi]
  intro hm
  rcases List.mem_append.1 hm with h1 | h1
  · exact h h1
  · simp at h1; exact hb h1.symm
theorem cut_step {c : UInt8} {l : List UInt8} {f i : Nat} (h : c ∉ (l.drop f).take (i - f)) (hf : f ≤ i) (hi : l[i]? = some c) : pc c (l.drop f) = (l.drop f).take (i - f) :: pc c (l.drop (i + 1)) := by
  have hil : i < l.length := (List.getElem?_eq_some_iff.1 hi).1
  have e : l.drop f = (l.drop f).take (i - f) ++ c :: l.drop (i + 1) := by
    conv => lhs; rw [← List.take_append_drop (i - f) (l.drop f)]
    congr 1
    rw [List.drop_drop, show f + (i - f) = i by omega, List.drop_eq_getElem_cons hil]
    congr 1
    rw [List.getElem?_eq_getElem hil] at hi
    exact Option.some.inj hi
  conv => lhs; rw [e]
  exact pc_cut h

/-- Where the loop over the bytes stands. -/
structure PRel (s : ByteArray) (c : UInt8) (w : World) (iv fv out : Value) (wr : World) : Prop where
  ex : ∃ (i f : Nat) (done : List (List UInt8)), iv = .int .i64 i ∧ fv = .int .i64 f ∧ f ≤ i ∧ i ≤ s.size ∧ wr.ownsRow w.heap.size 9 1 out done.length (pcells done) ∧ Below w.heap.size w wr ∧ done.length ≤ f ∧ Hid (c ∉ ((bs s).drop f).take (i - f)) ∧ Hid (pc c (bs s) = done ++ pc c ((bs s).drop f))

end Go.Proofs.YtamdlbefiggkfaaGreat.Rom

set_option linter.unusedVariables false
set_option linter.unusedSimpArgs false
set_option maxRecDepth 100000
namespace Go.Proofs.YtamdlbefiggkfaaGreat.Rom
open Go Go.RowKit Go.Proofs.YtamdlbefiggkfaaGreat.Kit Go.Proofs.YtamdlbefiggkfaaGreat.Utf

theorem twice_no {rs : List Rule} {k : Nat} (hk : k < rs.length) (hok : okL (rs.take k) = true) : okL (rs.take (k + 1)) = (!(findL (rs.take k) (ri rs k).k).2 && okR (ri rs k)) := by
  rw [take_succ_ri rs k hk, okL_snoc, hok, findL_iff, Bool.true_and, Bool.not_not, Bool.and_comm]

end Go.Proofs.YtamdlbefiggkfaaGreat.Rom

set_option linter.unusedVariables false
set_option linter.unusedSimpArgs false
set_option maxRecDepth 100000
namespace Go.Proofs.YtamdlbefiggkfaaGreat.Rom
open Go Go.RowKit Go.Proofs.YtamdlbefiggkfaaGreat.Kit Go.Proofs.YtamdlbefiggkfaaGreat.Utf

theorem str_beq2 (a b : ByteArray) : (a.toList == b.toList) = decide (a = b) := by
  rw [Lib.toList_data, Lib.toList_data, Bool.eq_iff_iff]
  simp only [beq_iff_eq, decide_eq_true_eq]
  exact ⟨fun h => ba_ext h, fun h => by rw [h]⟩
theorem rule_eq_iff (a b : Rule) : decide (a = b) = (decide (a.k = b.k) && (decide (a.o = b.o) && decide (a.n = b.n))) := by
  rw [Bool.eq_iff_iff]
  simp only [Bool.and_eq_true, decide_eq_true_eq]
  exact ⟨fun h => by rw [h]; exact ⟨rfl, rfl, rfl⟩, fun ⟨h1, h2, h3⟩ => Rule.ext' h1 h2 h3⟩
theorem eq_rule (a b : Rule) (w : World) : (Op.equalIn 10000 64 (.agg #[.string a.k, .string a.o, .string a.n]) (.agg #[.string b.k, .string b.o, .string b.n])).run Tryz.prog w = .ok (decide (a = b)) w := by
  have u3 := Tryz.underlying9
  have a3 := Tryz.isAgg9
  have z3 := Tryz.sizeOf9
  have hS : Tryz.prog.underlying 64 = some (.struct (Tryz.prog.fieldsOf 64)) := by kernel_rfl
  have hp : Tryz.prog.stoodInHeld 64 = false := by kernel_rfl
  rw [show (10000 : Nat) = 9999 + 1 from rfl, run_equalIn_agg w 9999 64 _ _ hS hp]
  simp only [Program.fieldsOf, Tryz.underlying64]
  rw [rule_eq_iff]
  obtain ⟨ak, ao, an⟩ := a
  obtain ⟨bk, bo, bn⟩ := b
  simp only
  rw [← str_beq2, ← str_beq2, ← str_beq2]
  go_simp
  by_cases h1 : ak.toList = bk.toList <;> by_cases h2 : ao.toList = bo.toList <;> by_cases h3 : an.toList = bn.toList <;> simp [h1, h2, h3]
theorem eq_rrule (a b : Rule) (w : World) : (Op.equalIn 10000 90 (.agg #[.string a.k, .string a.o, .string a.n]) (.agg #[.string b.k, .string b.o, .string b.n])).run Tryz.prog w = .ok (decide (a = b)) w := by
  have u3 := Tryz.underlying9
  have a3 := Tryz.isAgg9
  have z3 := Tryz.sizeOf9
  have hS : Tryz.prog.underlying 90 = some (.struct (Tryz.prog.fieldsOf 90)) := by kernel_rfl
  have hp : Tryz.prog.stoodInHeld 90 = false := by kernel_rfl
  rw [show (10000 : Nat) = 9999 + 1 from rfl, run_equalIn_agg w 9999 90 _ _ hS hp]
  simp only [Program.fieldsOf, Tryz.underlying90]
  rw [rule_eq_iff]
  obtain ⟨ak, ao, an⟩ := a
  obtain ⟨bk, bo, bn⟩ := b
  simp only
  rw [← str_beq2, ← str_beq2, ← str_beq2]
  go_simp
  by_cases h1 : ak.toList = bk.toList <;> by_cases h2 : ao.toList = bo.toList <;> by_cases h3 : an.toList = bn.toList <;> simp [h1, h2, h3]

theorem guard_rule : Tryz.prog.eqGuardType Tryz.prog.depth 64 = false := by kernel_rfl
theorem guard_rrule : Tryz.prog.eqGuardType Tryz.prog.depth 90 = false := by kernel_rfl

end Go.Proofs.YtamdlbefiggkfaaGreat.Rom

set_option linter.unusedVariables false
set_option linter.unusedSimpArgs false
set_option maxRecDepth 100000
namespace Go.Proofs.YtamdlbefiggkfaaGreat.Rom
open Go Go.RowKit Go.Proofs.YtamdlbefiggkfaaGreat.Kit Go.Proofs.YtamdlbefiggkfaaGreat.Utf

theorem info_rule : (Tryz.prog.info? 64).map (fun i => (i.zero, i.size, i.bytes)) = some (some (.agg #[.string { data := #[] }, .string { data := #[] }, .string { data := #[] }]), 3, 48) := by kernel_rfl
theorem info_rrule : (Tryz.prog.info? 90).map (fun i => (i.zero, i.size, i.bytes)) = some (some (.agg #[.string { data := #[] }, .string { data := #[] }, .string { data := #[] }]), 3, 48) := by kernel_rfl

theorem rc_snoc (rs : List Rule) (r : Rule) : rc (rs ++ [r]) = rc rs ++ [.string r.k, .string r.o, .string r.n] := by rw [rc_append]; rfl
theorem len_take {rs : List Rule} {k : Nat} (h : k ≤ rs.length) : (rs.take k).length = k := by rw [List.length_take]; omega

theorem below_dr {B : Nat} {w w' : World} (h : Below B w w') (n : Nat) : Below B w (w'.drewN n) := h.trans ⟨rfl, rfl, rfl, Nat.le_refl _, fun _ _ => rfl⟩
/-- What Few tells. -/
def FewPost (rs : List Rule) (w : World) (e : Ending) (w' : World) : Prop := ∃ x, e = .returned (.bool x) ∧ w' = w ∧ (x = true → rs.length ≤ 200 ∧ ∀ r ∈ rs, r.k.size ≤ 100 ∧ r.o.size ≤ 100 ∧ r.n.size ≤ 100)
end Go.Proofs.YtamdlbefiggkfaaGreat.Rom

set_option linter.unusedVariables false
set_option linter.unusedSimpArgs false
set_option maxRecDepth 100000
namespace Go.Proofs.YtamdlbefiggkfaaGreat.Rom
open Go Go.RowKit Go.Proofs.YtamdlbefiggkfaaGreat.Kit Go.Proofs.YtamdlbefiggkfaaGreat.Utf

/-- What Few's yes tells. -/
def FewOK (x : Bool) (rs : List Rule) : Prop := x = true → rs.length ≤ 200 ∧ ∀ r ∈ rs, r.k.size ≤ 100 ∧ r.o.size ≤ 100 ∧ r.n.size ≤ 100
theorem FewOK.len {rs : List Rule} (h : FewOK true rs) : rs.length ≤ 200 := (h rfl).1
theorem FewOK.short {rs : List Rule} (h : FewOK true rs) : ∀ r ∈ rs, Short r := fun r hr => by
  have := (h rfl).2 r hr
  exact ⟨by omega, by omega, by omega⟩
theorem ba_app (a b : List UInt8) : ba a ++ ba b = ba (a ++ b) := by apply ba_ext; simp [ba]
theorem ba_lit (b : UInt8) : ({ data := #[b] } : ByteArray) = ba [b] := rfl

end Go.Proofs.YtamdlbefiggkfaaGreat.Rom

set_option linter.unusedVariables false
set_option linter.unusedSimpArgs false
set_option maxRecDepth 100000
namespace Go.Proofs.YtamdlbefiggkfaaGreat.Rom
open Go Go.RowKit Go.Shelf Go.Proofs.YtamdlbefiggkfaaGreat.Kit Go.Proofs.YtamdlbefiggkfaaGreat.Utf

theorem info_str : (Tryz.prog.info? 9).map (fun i => (i.zero, i.size, i.bytes)) = some (some (.string ByteArray.empty), 1, 16) := by kernel_rfl

theorem cut_len (l : List UInt8) (c : UInt8) : (Lib.cut l [c]).1.length ≤ l.length ∧ (Lib.cut l [c]).2.1.length ≤ l.length := by
  rcases cut_cases c l with h | ⟨p, r, rfl, h⟩
  · rw [cut_no h]; simp
  · rw [cut_at h]; simp; omega
theorem lineR_short {line : List UInt8} (h : line.length ≤ 1048576) : Short (lineR line).1 := by
  unfold lineR Short
  simp only [ba_size]
  have h1 := cut_len line 9
  have h2 := cut_len (Lib.cut line [9]).2.1 9
  omega

end Go.Proofs.YtamdlbefiggkfaaGreat.Rom

set_option linter.unusedVariables false
set_option linter.unusedSimpArgs false
set_option maxRecDepth 100000
namespace Go.Proofs.YtamdlbefiggkfaaGreat.Rom
open Go Go.RowKit Go.Shelf Go.Proofs.YtamdlbefiggkfaaGreat.Kit Go.Proofs.YtamdlbefiggkfaaGreat.Utf

/-- An owned row stays so while another block below its base is written. -/
theorem own_grown {w w' : World} {base B : Nat} {e : TypeId} {size : Nat} {v : Value} {n : Nat} {xs : List Value} (h : w.ownsRow base e size v n xs) (hg : w.grownBy w' (some B)) (hB : B < base) : w'.ownsRow base e size v n xs := by
  refine ⟨h.1, ?_⟩
  rcases h.2 with h0 | ⟨g, cap, cur, rfl, hb, hgg, rest⟩
  · exact .inl h0
  · refine .inr ⟨g, cap, cur, rfl, hb, ?_, rest⟩
    rw [hg.block g (Array.getElem?_eq_some_iff.1 hgg).1 (by simp; omega)]
    exact hgg
theorem own_kept {w w' : World} {base : Nat} {e : TypeId} {size : Nat} {v : Value} {n : Nat} {xs : List Value} (h : w.ownsRow base e size v n xs) (hb : Below w.heap.size w w') : w'.ownsRow base e size v n xs := own_later h hb

theorem pc_len_le (c : UInt8) (l : List UInt8) : ∀ p ∈ pc c l, p.length ≤ l.length := by
  obtain ⟨n, hn⟩ : ∃ n, l.length = n := ⟨_, rfl⟩
  induction n using Nat.strongRecOn generalizing l with
  | ind n ih =>
    intro p hp
    rcases cut_cases c l with h | ⟨q, r, rfl, h⟩
    · rw [pc_none h, List.mem_singleton] at hp; rw [hp]; exact Nat.le_refl _
    · rw [pc_cut h] at hp
      rcases List.mem_cons.1 hp with rfl | hp
      · simp
      · have := ih r.length (by rw [← hn]; simp; omega) r rfl p hp
        simp; omega
theorem pc_count_le (c : UInt8) (l : List UInt8) : (pc c l).length ≤ l.length + 1 := by
  obtain ⟨n, hn⟩ : ∃ n, l.length = n := ⟨_, rfl⟩
  induction n using Nat.strongRecOn generalizing l with
  | ind n ih =>
    rcases cut_cases c l with h | ⟨q, r, rfl, h⟩
    · rw [pc_none h]; simp
    · rw [pc_cut h]
      have := ih r.length (by rw [← hn]; simp; omega) r rfl
      simp; omega

theorem fold_skip {acc : List Rule} {k : Nat} {line : List UInt8} {rest : List (List UInt8)} (h : skips line = true) : foldP acc k (line :: rest) = foldP acc (k + 1) rest := by
  show (match stepP acc line with | some acc' => foldP acc' (k + 1) rest | none => ([], k + 1, 50)) = _
  have : stepP acc line = some acc := by unfold stepP; rw [h, if_pos rfl]
  rw [this]
theorem fold_err {acc : List Rule} {k : Nat} {line : List UInt8} {rest : List (List UInt8)} (h : skips line = false) (hl : acc.length ≤ 500) (hn : ((lineR line).2 && accB (acc.map Rule.k) (lineR line).1) = false) : foldP acc k (line :: rest) = ([], k + 1, 50) := by
  show (match stepP acc line with | some acc' => foldP acc' (k + 1) rest | none => ([], k + 1, 50)) = _
  rw [lineR_is acc line h hl, hn]
  rfl
theorem fold_add {acc : List Rule} {k : Nat} {line : List UInt8} {rest : List (List UInt8)} (h : skips line = false) (hl : acc.length ≤ 500) (hn : ((lineR line).2 && accB (acc.map Rule.k) (lineR line).1) = true) : foldP acc k (line :: rest) = foldP (acc ++ [(lineR line).1]) (k + 1) rest := by
  show (match stepP acc line with | some acc' => foldP acc' (k + 1) rest | none => ([], k + 1, 50)) = _
  rw [lineR_is acc line h hl, hn]
  rfl
theorem skip_yes {line : List UInt8} (h : skips line = true) (hn : line ≠ []) : Lib.hasPrefix line [35] = true := by
  cases line with
  | nil => exact absurd rfl hn
  | cons b l => unfold skips at h; rw [decide_eq_true_eq] at h; subst h; simp [Lib.hasPrefix]
theorem skip_no {line : List UInt8} (h : skips line = false) : line ≠ [] ∧ Lib.hasPrefix line [35] = false := by
  cases line with
  | nil => cases h
  | cons b l => unfold skips at h; rw [decide_eq_false_iff_not] at h; refine ⟨by simp, ?_⟩; show ((35 : UInt8) == b && List.isPrefixOf [] l) = false; rw [show ((35 : UInt8) == b) = false from by simp; exact fun e => h e.symm]; rfl
theorem drop_line {ls : List (List UInt8)} {k : Nat} (h : k < ls.length) : ls.drop k = ls.getD k [] :: ls.drop (k + 1) := by
  rw [List.drop_eq_getElem_cons h, List.getD_eq_getElem?_getD, List.getElem?_eq_getElem h]; rfl
theorem row_kept {w w' : World} {g B : Nat} {o : Obj} (h : w.heap[g]? = some o) (hg : w.grownBy w' (some B)) (hne : g ≠ B) : w'.heap[g]? = some o := by
  rw [hg.block g (Array.getElem?_eq_some_iff.1 h).1 (by simpa using hne)]; exact h
theorem row_below {w w' : World} {g : Nat} {o : Obj} (h : w.heap[g]? = some o) (hb : Below w.heap.size w w') : w'.heap[g]? = some o := by
  rw [hb.block g (Array.getElem?_eq_some_iff.1 h).1]; exact h
theorem row_alloc {w : World} {g : Nat} {o : Obj} (h : w.heap[g]? = some o) (o2 : Obj) : (w.alloc o2).heap[g]? = some o := by
  rw [Below.heap_alloc w o2 g (Array.getElem?_eq_some_iff.1 h).1]; exact h

/-- What Parse leaves: the rules in new memory, the line, the error. -/
def ParsePost (E : TypeId) (p : List Rule × Nat × Int) (w : World) (e : Ending) (w' : World) : Prop :=
  ∃ v, e = .returned (.tuple #[v, .int .i64 (p.2.1 : Nat), .int .i64 p.2.2]) ∧ w'.ownsRow w.heap.size E 3 v p.1.length (rc p.1) ∧ Below w.heap.size w w' ∧ (∀ r ∈ p.1, Short r) ∧ p.1.length ≤ 500

end Go.Proofs.YtamdlbefiggkfaaGreat.Rom

set_option linter.unusedVariables false
set_option linter.unusedSimpArgs false
namespace Go.Proofs.YtamdlbefiggkfaaGreat.Rom
open Go Go.RowKit Go.Proofs.YtamdlbefiggkfaaGreat.Kit Go.Proofs.YtamdlbefiggkfaaGreat.Utf

theorem nl_no_key : isKeyZ ((10 : UInt8).toNat : Int) = false := by decide
theorem hash_no_key : isKeyZ ((35 : UInt8).toNat : Int) = false := by decide
theorem keys_free {l : List UInt8} (h : keysOK l = true) (b : UInt8) (hb : isKeyZ (b.toNat : Int) = false) : b ∉ l := by
  intro hm
  unfold keysOK at h
  have := List.all_eq_true.1 h b hm
  rw [hb] at this; cases this
/-- No byte below 128 is in a text of kana. -/
theorem kana_free {l : List UInt8} (h : kanaOK l = true) (b : UInt8) (hb : b.toNat < 128) : b ∉ l := by
  unfold kanaOK at h
  cases hc : chars l with
  | none => rw [hc] at h; cases h
  | some cs =>
    rw [hc] at h
    simp only [Bool.and_eq_true, decide_eq_true_eq, List.all_eq_true] at h
    obtain ⟨hv, e⟩ := chars_some hc
    rw [e]
    intro hm
    unfold encs at hm
    obtain ⟨c, hcm, hm⟩ := List.mem_flatMap.1 hm
    have hk := h.2 c hcm
    unfold isKanaZ at hk
    rw [decide_eq_true_eq] at hk
    rcases enc_forms c (hv c hcm) with ⟨h1, _⟩ | ⟨_, h1, _⟩ | ⟨h1, h2, e2⟩ | ⟨h1, _⟩
    · omega
    · omega
    · rw [e2] at hm
      have hlt : ∀ n, n < 256 → (UInt8.ofNat n).toNat = n := toNat_ofNat
      simp only [List.mem_cons, List.mem_nil_iff, or_false] at hm
      rcases hm with e3 | e3 | e3
      · have := congrArg UInt8.toNat e3; rw [hlt _ (by omega)] at this; omega
      · have := congrArg UInt8.toNat e3; rw [hlt _ (by omega)] at this; omega
      · have := congrArg UInt8.toNat e3; rw [hlt _ (by omega)] at this; omega
    · omega

theorem okR_parts {r : Rule} (h : okR r = true) : (1 ≤ r.k.size ∧ r.k.size ≤ 4) ∧ keysOK (bs r.k) = true ∧ r.n.size < r.k.size ∧ keysOK (bs r.n) = true ∧ kanaOK (bs r.o) = true ∧ (r.o.size ≠ 0 ∨ r.n.size ≠ 0) := by
  unfold okR at h
  simp only [Bool.and_eq_true, decide_eq_true_eq] at h
  exact ⟨h.1.1.1.1.1, h.1.1.1.1.2, h.1.1.1.2, h.1.1.2, h.1.2, h.2⟩

theorem line_free {r : Rule} (h : okR r = true) : (10 : UInt8) ∉ lineT r := by
  obtain ⟨_, h1, _, h2, h3, _⟩ := okR_parts h
  have k1 := keys_free h1 10 nl_no_key
  have k2 := keys_free h2 10 nl_no_key
  have k3 := kana_free h3 10 (by decide)
  unfold lineT
  intro hm
  rcases List.mem_append.1 hm with hm | hm
  · rcases List.mem_append.1 hm with hm | hm
    · exact k1 hm
    · rcases List.mem_cons.1 hm with e | hm
      · cases e
      · exact k3 hm
  · split at hm
    · cases hm
    · rcases List.mem_cons.1 hm with e | hm
      · cases e
      · exact k2 hm
theorem line_skip {r : Rule} (h : okR r = true) : skips (lineT r) = false := by
  obtain ⟨h0, h1, _, _, _, _⟩ := okR_parts h
  have k1 := keys_free h1 35 hash_no_key
  rw [← bs_len] at h0
  unfold lineT
  cases hb : bs r.k with
  | nil => rw [hb] at h0; simp at h0
  | cons b l =>
    show decide (b = 35) = false
    rw [decide_eq_false_iff_not]
    intro e
    exact k1 (by rw [hb, e]; exact List.mem_cons_self)
theorem line_rule {r : Rule} (h : okR r = true) : ruleOf (lineT r) = some r := by
  obtain ⟨h0, h1, _, h2, h3, _⟩ := okR_parts h
  have k1 := keys_free h1 9 tab_no_key
  have k2 := keys_free h2 9 tab_no_key
  have k3 := kana_free h3 9 (by decide)
  unfold ruleOf lineT
  by_cases hn : r.n.size = 0
  · rw [if_pos hn, List.append_nil, pc_cut k1, pc_none k3]
    simp only
    have e : r.n = ba [] := (bs_nil_iff r.n).1 hn
    rw [ba_bs, ba_bs, ← e]
  · rw [if_neg hn, List.append_assoc, List.cons_append, pc_cut k1, pc_cut k3, pc_none k2]
    simp only
    have : bs r.n ≠ [] := fun e => hn (by rw [← bs_len, e]; rfl)
    rw [if_neg this, ba_bs, ba_bs, ba_bs]

/-- What is written is read line by line. -/
theorem pc_print {rs : List Rule} (h : ∀ r ∈ rs, okR r = true) : pc 10 (printB rs) = rs.map lineT ++ [[]] := by
  induction rs with
  | nil => rfl
  | cons r rs ih =>
    have e : printB (r :: rs) = lineT r ++ 10 :: printB rs := by
      show (lineT r ++ [10]) ++ printB rs = _
      rw [List.append_assoc]; rfl
    rw [e, pc_cut (line_free (h r (by simp))), ih (fun x hx => h x (List.mem_cons_of_mem _ hx))]
    rfl
theorem fold_print {rs : List Rule} : ∀ {acc : List Rule} {k : Nat}, okL (acc ++ rs) = true → (acc ++ rs).length ≤ 500 → foldP acc k (rs.map lineT ++ [[]]) = (acc ++ rs, 0, 0) := by
  induction rs with
  | nil =>
    intro acc k h hl
    rw [List.append_nil]
    show foldP acc k [[]] = _
    rw [fold_skip rfl]
    rfl
  | cons r rs ih =>
    intro acc k h hl
    have h2 : okL (acc ++ [r]) = true := by
      have := okL_take (k := acc.length + 1) h
      rw [show acc ++ r :: rs = (acc ++ [r]) ++ rs by simp, List.take_left' (by simp)] at this
      exact this
    rw [okL_snoc] at h2
    simp only [Bool.and_eq_true] at h2
    obtain ⟨_, h3, h4⟩ := h2
    have hl2 : acc.length < 500 := by simp at hl; omega
    have hst : stepP acc (lineT r) = some (acc ++ [r]) := by
      unfold stepP
      rw [line_skip h3, line_rule h3]
      simp [h3, h4, hl2]
    show foldP acc k (lineT r :: (rs.map lineT ++ [[]])) = _
    have e : foldP acc k (lineT r :: (rs.map lineT ++ [[]])) = foldP (acc ++ [r]) (k + 1) (rs.map lineT ++ [[]]) := by
      show (match stepP acc (lineT r) with | some acc' => foldP acc' (k + 1) _ | none => ([], k + 1, 50)) = _
      rw [hst]
    rw [e, ih (by rw [List.append_assoc]; exact h) (by rw [List.append_assoc]; exact hl), List.append_assoc]
    rfl

/-- The round trip. -/
theorem parse_print {rs : List Rule} (h : checkL rs = 0) (hs : (ba (printB rs)).size ≤ 1048576) : parseL (ba (printB rs)) = (rs, 0, 0) := by
  unfold checkL at h
  split at h
  · cases h
  · rename_i hl
    split at h
    · rename_i hok
      unfold parseL
      rw [if_neg (by omega), bs_ba]
      have hall : ∀ r ∈ rs, okR r = true := by
        unfold okL at hok
        simp only [Bool.and_eq_true, List.all_eq_true] at hok
        exact hok.1
      rw [pc_print hall]
      exact fold_print (acc := []) hok (by simpa using hl)
    · cases h

/-- What is read is allowed. -/
theorem fold_ok : ∀ (ls : List (List UInt8)) (acc : List Rule) (k : Nat), okL acc = true → acc.length ≤ 500 → (foldP acc k ls).2.2 = 0 → okL (foldP acc k ls).1 = true ∧ (foldP acc k ls).1.length ≤ 500 := by
  intro ls
  induction ls with
  | nil => intro acc k h hl _; exact ⟨h, hl⟩
  | cons l ls ih =>
    intro acc k h hl h0
    have e : foldP acc k (l :: ls) = match stepP acc l with | some acc' => foldP acc' (k + 1) ls | none => ([], k + 1, 50) := rfl
    rw [e] at h0 ⊢
    cases hst : stepP acc l with
    | none => rw [hst] at h0; cases h0
    | some acc' =>
      rw [hst] at h0
      simp only at h0 ⊢
      refine ih acc' (k + 1) ?_ ?_ h0
      · unfold stepP at hst
        split at hst
        · cases hst; exact h
        · split at hst
          · split at hst
            · rename_i r _ hc
              cases hst
              simp only [Bool.and_eq_true] at hc
              rw [okL_snoc, h]
              simp [hc.1.1, hc.1.2]
            · cases hst
          · cases hst
      · unfold stepP at hst
        split at hst
        · cases hst; exact hl
        · split at hst
          · split at hst
            · rename_i r _ hc
              cases hst
              simp only [Bool.and_eq_true, decide_eq_true_eq] at hc
              rw [List.length_append]; simp; omega
            · cases hst
          · cases hst
theorem parse_ok {s : ByteArray} (h : (parseL s).2.2 = 0) : checkL (parseL s).1 = 0 := by
  have key : okL (parseL s).1 = true ∧ (parseL s).1.length ≤ 500 := by
    unfold parseL at h ⊢
    split at h
    · cases h
    · rename_i hs
      rw [if_neg hs]
      exact fold_ok _ [] 0 rfl (by simp) h
  unfold checkL
  rw [if_neg (by omega), key.1]
  rfl
theorem parse_err {s : ByteArray} (h : (parseL s).2.2 ≠ 0) : (parseL s).1 = [] := by
  unfold parseL at *
  split at h
  · rename_i hs; rw [if_pos hs]
  · rename_i hs
    rw [if_neg hs]
    have : ∀ (ls : List (List UInt8)) (acc : List Rule) (k : Nat), (foldP acc k ls).2.2 ≠ 0 → (foldP acc k ls).1 = [] := by
      intro ls
      induction ls with
      | nil => intro acc k h; exact absurd rfl h
      | cons l ls ih =>
        intro acc k h
        have e : foldP acc k (l :: ls) = match stepP acc l with | some acc' => foldP acc' (k + 1) ls | none => ([], k + 1, 50) := rfl
        rw [e] at h ⊢
        cases hst : stepP acc l with
        | none => rfl
        | some acc' => rw [hst] at h; exact ih acc' (k + 1) h
    exact this _ _ _ h

end Go.Proofs.YtamdlbefiggkfaaGreat.Rom

set_option linter.unusedVariables false
set_option linter.unusedSimpArgs false
set_option maxRecDepth 100000
namespace Go.Proofs.YtamdlbefiggkfaaGreat.Rom
open Go Go.RowKit Go.Proofs.YtamdlbefiggkfaaGreat.Kit Go.Proofs.YtamdlbefiggkfaaGreat.Utf

theorem kana_len {l : List UInt8} (h : kanaOK l = true) : l.length ≤ 16 := by
  unfold kanaOK at h
  cases hc : chars l with
  | none => rw [hc] at h; cases h
  | some cs =>
    rw [hc] at h
    simp only [Bool.and_eq_true, decide_eq_true_eq] at h
    obtain ⟨hv, e⟩ := chars_some hc
    rw [e]
    have key : ∀ cs : List Int, (∀ c ∈ cs, validRune c = true) → (encs cs).length ≤ cs.length * 4 := by
      intro cs
      induction cs with
      | nil => intro _; simp [encs]
      | cons c cs ih =>
        intro hv
        have h1 := ih (fun x hx => hv x (List.mem_cons_of_mem _ hx))
        have h2 : (enc c).length ≤ 4 := by
          rcases enc_forms c (hv c (by simp)) with ⟨_, e⟩ | ⟨_, _, e⟩ | ⟨_, _, e⟩ | ⟨_, _, e⟩ <;> rw [e] <;> simp
        have e2 : encs (c :: cs) = enc c ++ encs cs := by unfold encs; rfl
        rw [e2, List.length_append]
        simp only [List.length_cons]
        omega
    have := key cs hv
    omega
theorem ok_print_len {rs : List Rule} (h : checkL rs = 0) : (ba (printB rs)).size ≤ 1048576 := by
  have h1 : ∀ rs : List Rule, (∀ r ∈ rs, okR r = true) → (printB rs).length ≤ rs.length * 40 := by
    intro rs
    induction rs with
    | nil => intro _; simp [printB]
    | cons r rs ih =>
      intro hr
      have h2 := ih (fun x hx => hr x (List.mem_cons_of_mem _ hx))
      obtain ⟨q1, _, q3, _, q5, _⟩ := okR_parts (hr r (by simp))
      have q6 := kana_len q5
      show ((lineT r ++ [10]) ++ printB rs).length ≤ _
      have h3 : (lineT r).length ≤ 30 := by
        unfold lineT
        split <;> simp only [List.length_append, List.length_cons, List.length_nil, bs_len] at * <;> omega
      simp only [List.length_append, List.length_cons, List.length_nil]
      omega
  unfold checkL at h
  split at h
  · cases h
  · rename_i hl
    split at h
    · rename_i hok
      have hall : ∀ r ∈ rs, okR r = true := by
        unfold okL at hok
        simp only [Bool.and_eq_true, List.all_eq_true] at hok
        exact hok.1
      have := h1 rs hall
      rw [ba_size]
      omega
    · cases h

end Go.Proofs.YtamdlbefiggkfaaGreat.Rom

set_option linter.unusedVariables false
set_option linter.unusedSimpArgs false
set_option maxRecDepth 100000
namespace Go.Proofs.YtamdlbefiggkfaaGreat.Rom
open Go Go.RowKit Go.Proofs.YtamdlbefiggkfaaGreat.Kit Go.Proofs.YtamdlbefiggkfaaGreat.Utf

theorem rc_cell {w : World} {b off : Nat} {rs : List Rule} (hx : ∀ i, i < rs.length → w.cell? ⟨b, off + i * 3, none⟩ = some (.string (ri rs i).k) ∧ w.cell? ⟨b, off + i * 3 + 1, none⟩ = some (.string (ri rs i).o) ∧ w.cell? ⟨b, off + i * 3 + 2, none⟩ = some (.string (ri rs i).n)) :
    ∀ j u, (rc rs)[j]? = some u → w.cell? ((⟨b, off, none⟩ : Addr).add j) = some u := by
  intro j u hu
  have hj : j < rs.length * 3 := by
    have := (List.getElem?_eq_some_iff.1 hu).1
    rw [rc_len] at this
    exact this
  obtain ⟨h1, h2, h3⟩ := hx (j / 3) (by omega)
  obtain ⟨g1, g2, g3⟩ := rc_at rs (j / 3) (by omega)
  rw [Addr.add_lit]
  rcases (show j = j / 3 * 3 ∨ j = j / 3 * 3 + 1 ∨ j = j / 3 * 3 + 2 by omega) with e | e | e
  · rw [← e] at h1 g1
    rw [h1, ← g1, hu]
  · rw [Nat.add_assoc, ← e] at h2
    rw [← e] at g2
    rw [h2, ← g2, hu]
  · rw [Nat.add_assoc, ← e] at h3
    rw [← e] at g3
    rw [h3, ← g3, hu]

theorem run_append_row (w : World) (base : Nat) (v : Value) (n : Nat) (xs : List Value) (hown : w.ownsRow base 90 3 v n xs) (x : Value) (rs : List Rule) (hR : RowR w x rs) (h63 : n + rs.length ≤ 1000000) (hbase : base ≤ w.heap.size) (ty : TypeId) :
    ∃ v' w', (Builtin.append_ #[39, 39] ty #[v, x]).run Tryz.prog w = .ok v' w' ∧ w'.ownsRow base 90 3 v' (n + rs.length) (xs ++ rc rs) ∧ w.grownBy w' v.ownBlock := by
  obtain ⟨i0, hi0, hz0, hz1, hz2⟩ := info_parts info_rrule
  obtain ⟨a, len, cap, rfl, hl, hc, hm, h⟩ := hR
  subst hl
  have h64 : n + rs.length ≤ maxLen := by unfold maxLen; omega
  rcases h with ⟨rfl, h0, hc0⟩ | ⟨x, rfl, h0⟩ | ⟨b, off, rfl, hlt, hx⟩
  · have e : rs = [] := List.eq_nil_of_length_eq_zero h0
    subst e
    subst hc0
    exact ⟨v, w, run_append_owned_none (P := Tryz.prog) w base _ _ _ i0 3 Tryz.underlying39 hi0 v n xs hown, by simpa [rc_nil] using hown, World.grownBy.refl _ _⟩
  · have e : rs = [] := List.eq_nil_of_length_eq_zero h0
    subst e
    obtain ⟨v', w', hr, h2, h3, _⟩ := run_append_own_at (P := Tryz.prog) w base 39 ty 90 i0 _ 3 48 Tryz.underlying39 hi0 hz0 hz1 hz2 rfl (by omega) v n xs hown x 0 cap [] rfl (by simp) (by simp) h64 (by simp at h63 ⊢; omega) hbase
    exact ⟨v', w', hr, h2, h3⟩
  · obtain ⟨v', w', hr, h2, h3, _⟩ := run_append_own_at (P := Tryz.prog) w base 39 ty 90 i0 _ 3 48 Tryz.underlying39 hi0 hz0 hz1 hz2 rfl (by omega) v n xs hown ⟨b, off, none⟩ rs.length cap (rc rs) (rc_len rs) (rc_cell hx) (rc_oneCell rs) h64 (by omega) hbase
    exact ⟨v', w', hr, h2, h3⟩

/-- append(v, x...) at a step of a region that draws its order. -/
theorem step_append_row (w : World) {ops : Array Oper} {o : Oper} {a : Act} {K : Act → World → Prop} {Q : Exit → Act → World → Prop} {E : Prop} (hgd : o.guard = none) (s x : Operand)
    (ho : o.op = .call { callee := .builtin .append, args := #[s, x], argTypes := #[39, 39] })
    (base : Nat) (v : Value) (n : Nat) (xs : List Value) (hs : a.eval s = v) (hown : w.ownsRow base 90 3 v n xs)
    (y : Value) (rs : List Rule) (hx : a.eval x = y) (hR : RowR w y rs) (h63 : n + rs.length ≤ 1000000) (hbase : base ≤ w.heap.size)
    (h : ∀ v' w', w'.ownsRow base 90 3 v' (n + rs.length) (xs ++ rc rs) → w.grownBy w' v.ownBlock → K (a.put o.dst v') w') :
    if Region.wanted o (yielded ops a.tmps) = true then Oper.wp Tryz.prog o a w K Q else E := by
  have hw : Region.wanted o (yielded ops a.tmps) = true := by simp [Region.wanted, hgd]
  rw [if_pos hw]
  obtain ⟨v', w', hr, h2, h3⟩ := run_append_row w base v n xs hown y rs hR h63 hbase o.type
  unfold Oper.wp execOp
  simp only [ho, resolve, invoke, builtin, Sem.run_bind, Sem.run_pure, Result.andThen_ok, List.map_toArray, List.map_cons, List.map_nil, hs, hx, hr]
  exact h v' w' h2 h3

theorem slice_upto {w : World} {a : Option Addr} {n cap k : Nat} {rs : List Rule} (hR : RowR w (.slice a n cap) rs) (hk : k ≤ n) :
    ∃ x, (∀ W, (Instr.sliceAt 39 (.slice a n cap) none (some (.int .i64 k)) none).run Tryz.prog W = .ok x W) ∧ RowR w x (rs.take k) := by
  refine ⟨.slice a k cap, ?_, hR.take hk⟩
  intro W
  obtain ⟨_, hc, hm⟩ := hR.len
  have k2 : (k : Int) ≤ cap := by omega
  have u := Tryz.underlying39
  obtain ⟨a', len', cap', e, h1, h2, h3, h4⟩ := hR
  cases e
  rcases h4 with ⟨rfl, hl, hc0⟩ | ⟨x, rfl, hl⟩ | ⟨b, off, rfl, hlt, hx⟩
  · have k0 : k = 0 := by omega
    subst k0
    subst hc0
    go_simp
  · go_simp
  · go_simp
theorem slice_on {w : World} {a : Option Addr} {n cap k : Nat} {rs : List Rule} (hR : RowR w (.slice a n cap) rs) (hk : k ≤ n) :
    ∃ x, (∀ W, (Instr.sliceAt 39 (.slice a n cap) (some (.int .i64 k)) none none).run Tryz.prog W = .ok x W) ∧ RowR w x (rs.drop k) := by
  obtain ⟨_, hc, hm⟩ := hR.len
  have k2 : (k : Int) ≤ n := by omega
  have k3 : (n : Int) ≤ cap := by omega
  have u := Tryz.underlying39
  by_cases hck : cap ≤ k
  · refine ⟨_, ?_, hR.drop_end hk hck⟩
    intro W
    have e1 : cap = k := by omega
    obtain ⟨a', len', cap', e, h1, h2, h3, h4⟩ := hR
    cases e
    rcases h4 with ⟨rfl, hl, hc0⟩ | ⟨x, rfl, hl⟩ | ⟨b, off, rfl, hlt, hx⟩
    · have k0 : k = 0 := by omega
      subst k0
      subst hc0
      subst hl
      go_simp
    · subst e1
      go_simp
      intro hh; exfalso; omega
    · subst e1
      go_simp
      intro hh; exfalso; omega
  · refine ⟨_, ?_, hR.drop hk⟩
    intro W
    have e1 : ¬ cap = k := by omega
    have e2 : (k : Int) ≤ cap := by omega
    obtain ⟨a', len', cap', e, h1, h2, h3, h4⟩ := hR
    cases e
    rcases h4 with ⟨rfl, hl, hc0⟩ | ⟨x, rfl, hl⟩ | ⟨b, off, rfl, hlt, hx⟩
    · omega
    · go_simp
      intro hh; exfalso; omega
    · go_simp
      intro hh; exfalso; omega

/-- Rules in another order. -/
theorem check_turned (rs : List Rule) (k : Nat) : checkL (rs.drop k ++ rs.take k) = checkL rs := by
  have hp : (rs.drop k ++ rs.take k).Perm rs := by
    have := List.perm_append_comm (l₁ := rs.drop k) (l₂ := rs.take k)
    rw [List.take_append_drop] at this
    exact this
  unfold checkL
  rw [okL_perm hp, hp.length_eq]
theorem check_part {rs qs : List Rule} (h : checkL rs = 0) (hl : qs.length ≤ rs.length) (ho : okL rs = true → okL qs = true) : checkL qs = 0 := by
  unfold checkL at h ⊢
  split at h
  · cases h
  · rename_i h1
    split at h
    · rename_i h2
      rw [if_neg (by omega), ho h2]
      rfl
    · cases h
theorem check_small {rs : List Rule} (h : rs.length ≤ 200) : checkL rs = 0 ∨ checkL rs = 50 := by
  unfold checkL
  rw [if_neg (by omega)]
  split
  · exact .inl rfl
  · exact .inr rfl
theorem FewOK.sub {rs qs : List Rule} (h : FewOK true rs) (hl : qs.length ≤ rs.length) (hm : ∀ r ∈ qs, r ∈ rs) : FewOK true qs :=
  fun _ => ⟨by have := (h rfl).1; omega, fun r hr => (h rfl).2 r (hm r hr)⟩

end Go.Proofs.YtamdlbefiggkfaaGreat.Rom

set_option linter.unusedVariables false
set_option linter.unusedSimpArgs false
set_option maxRecDepth 100000
namespace Go.Proofs.YtamdlbefiggkfaaGreat.Rom
open Go Go.RowKit Go.Shelf Go.Proofs.YtamdlbefiggkfaaGreat.Kit Go.Proofs.YtamdlbefiggkfaaGreat.Utf

/-- What an owned row of pieces holds. -/
theorem pc_cells {w : World} {base : Nat} {v : Value} {ps : List (List UInt8)} (h : w.ownsRow base 9 1 v ps.length (pcells ps)) (h0 : 0 < ps.length) :
    ∃ g cap, v = .slice (some ⟨g, 0, none⟩) ps.length cap ∧ base ≤ g ∧ g < w.heap.size ∧ ∀ k, k < ps.length → w.cell? ⟨g, k, none⟩ = some (.string (ba (ps.getD k []))) := by
  rcases h.2 with ⟨_, h1⟩ | ⟨g, cap, cur, rfl, hb, hg, _⟩
  · omega
  · obtain ⟨g', e, _, hg', hx, _⟩ := own_cells (a := some ⟨g, 0, none⟩) (cap := cap) h h0
    obtain rfl : g = g' := by simpa using e
    refine ⟨g, cap, rfl, hb, hg', fun k hk => hx k _ ?_⟩
    unfold pcells
    rw [List.getElem?_map, List.getD_eq_getElem?_getD, List.getElem?_eq_getElem hk]
    rfl

theorem fold_none {acc : List Rule} {k : Nat} {line : List UInt8} {rest : List (List UInt8)} (h : stepP acc line = none) : foldP acc k (line :: rest) = ([], k + 1, 50) := by
  show (match stepP acc line with | some acc' => foldP acc' (k + 1) rest | none => ([], k + 1, 50)) = _
  rw [h]
theorem fold_some {acc acc2 : List Rule} {k : Nat} {line : List UInt8} {rest : List (List UInt8)} (h : stepP acc line = some acc2) : foldP acc k (line :: rest) = foldP acc2 (k + 1) rest := by
  show (match stepP acc line with | some acc' => foldP acc' (k + 1) rest | none => ([], k + 1, 50)) = _
  rw [h]
/-- A line of rules in the reference's words. -/
theorem step_none {acc : List Rule} {line : List UInt8} (h : skips line = false) (hr : ruleOf line = none) : stepP acc line = none := by
  unfold stepP; rw [h, hr]; rfl
theorem step_rule {acc : List Rule} {line : List UInt8} {r : Rule} (h : skips line = false) (hr : ruleOf line = some r) : stepP acc line = if (!(findL acc r.k).2 && okR r && decide (acc.length < 500)) then some (acc ++ [r]) else none := by
  unfold stepP
  rw [h, hr]
  simp only [Bool.false_eq_true, if_false]
  rw [findL_iff, Bool.not_not, Bool.and_comm (okR r)]

/-- The words of a line. -/
inductive Words : List (List UInt8) → Option Rule → Prop
  | one (a) : Words [a] none
  | two (a b) : Words [a, b] (some ⟨ba a, ba b, ba []⟩)
  | three (a b) : Words [a, b, []] none
  | full (a b n) (h : n ≠ []) : Words [a, b, n] (some ⟨ba a, ba b, ba n⟩)
  | more (a b c d l) : Words (a :: b :: c :: d :: l) none
theorem words_of (line : List UInt8) : Words (pc 9 line) (ruleOf line) := by
  unfold ruleOf
  match h : pc 9 line with
  | [] => exact absurd h (pc_ne 9 line)
  | [a] => exact .one a
  | [a, b] => exact .two a b
  | [a, b, n] =>
    by_cases hn : n = []
    · subst hn; exact .three a b
    · simp only [if_neg hn]; exact .full a b n hn
  | a :: b :: c :: d :: l => exact .more a b c d l

theorem run_byte0 (s : ByteArray) (h : 0 < s.size) (w : World) : (Instr.index 9 (.string s) (.int .i64 0)).run Tryz.prog w = .ok (.int .u8 (bz s 0)) w := by
  have := run_byte s 0 h w
  simpa using this
theorem bz0 (b : UInt8) (l : List UInt8) : bz (ba (b :: l)) 0 = (b.toNat : Int) := by unfold bz; rw [bs_ba]; rfl

end Go.Proofs.YtamdlbefiggkfaaGreat.Rom
