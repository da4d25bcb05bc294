/-
  Joined texts: CalK, CalL, CalPa, CalUn, CalCu, NumX, NumAA.
-/
import Derived.Test.YteelmjmiankflaaGreatDoorM11
import Derived.Test.YteelmjmiankflaaGreatDoorM12
import Derived.Lib.AtoiErrMem
import Derived.Lib.AtoiAllCases
import Derived.Deep.RegionHeld3
import Derived.Test.YteelmjmiankflaaGreatDoorM6
import Derived.Test.YteelmjmiankflaaGreatDoorM8
import Derived.Test.YteelmjmiankflaaGreatDoorM9
set_option linter.unusedVariables false
set_option linter.unusedSimpArgs false
namespace Go.Proofs.YteelmjmiankflaaGreatDoor.Cal
open Go Go.RowKit Go.Proofs.YteelmjmiankflaaGreatDoor.Kit Go.Proofs.YteelmjmiankflaaGreatDoor.Utf
open Go.Proofs.YteelmjmiankflaaGreatDoor.Num

theorem pu10_dg : ∀ (ds : List Nat) (acc : Nat), (∀ d ∈ ds, d ≤ 9) → (acc + 1) * 10 ^ ds.length ≤ 1000000000000000000 → Lib.parseUint10 acc (ds.map fun d => UInt8.ofNat (48 + d)) = .ok (ds.foldl (fun a d => 10 * a + d) acc)
  | [], acc, _, _ => rfl
  | d :: ds, acc, h9, hb => by
    have hd := h9 d (by simp)
    have hp : 0 < 10 ^ ds.length := Nat.pow_pos (by decide)
    rw [List.length_cons, Nat.pow_succ] at hb
    have e : (acc + 1) * (10 ^ ds.length * 10) = ((acc + 1) * 10) * 10 ^ ds.length := by rw [Nat.mul_comm (10 ^ ds.length) 10, Nat.mul_assoc]
    rw [e] at hb
    have hle : (acc + 1) * 10 ≤ 1000000000000000000 := Nat.le_trans (Nat.le_mul_of_pos_right _ hp) hb
    have ht := toNat_ofNat (48 + d) (by omega)
    rw [List.map_cons, Lib.parseUint10, ht, if_pos (by omega), if_neg (by omega), if_neg (by omega), List.foldl_cons]
    rw [show acc * 10 + (48 + d - 48) = 10 * acc + d by omega]
    refine pu10_dg ds (10 * acc + d) (fun x hx => h9 x (by simp [hx])) (Nat.le_trans (Nat.mul_le_mul_right _ ?_) hb)
    omega
theorem pow18 : ∀ k, k ≤ 18 → 10 ^ k ≤ 1000000000000000000 := by decide
theorem valD_le (ds : List Nat) : ∀ acc, (∀ d ∈ ds, d ≤ 9) → ds.foldl (fun a d => 10 * a + d) acc + 1 ≤ (acc + 1) * 10 ^ ds.length := by
  induction ds with
  | nil => intro acc _; simp
  | cons d ds ih =>
    intro acc h9
    have h1 := ih (10 * acc + d) (fun x hx => h9 x (by simp [hx]))
    have hd := h9 d (by simp)
    rw [List.foldl_cons, List.length_cons, Nat.pow_succ]
    refine Nat.le_trans h1 ?_
    rw [Nat.mul_comm (10 ^ ds.length) 10, ← Nat.mul_assoc]
    exact Nat.mul_le_mul_right _ (by omega)
theorem atoi_dg (ds : List Nat) (h0 : ds ≠ []) (h9 : ∀ d ∈ ds, d ≤ 9) (h18 : ds.length ≤ 18) : Lib.atoiAll (bs (dg ds)) = .ok (valD ds) := by
  rw [bs_dg]
  cases ds with
  | nil => exact absurd rfl h0
  | cons d ds =>
    have hd := h9 d (by simp)
    have ht := toNat_ofNat (48 + d) (by omega)
    have hlim : (0 + 1) * 10 ^ (d :: ds).length ≤ 1000000000000000000 := by have := pow18 _ h18; omega
    have hv := valD_le (d :: ds) 0 h9
    have hp := pu10_dg (d :: ds) 0 h9 hlim
    rw [List.map_cons] at hp ⊢
    rw [Lib.atoiAll_plain _ _ (by rw [ht]; omega) (by rw [ht]; omega)]
    have hv2 : valD (d :: ds) < 1000000000000000000 := by unfold valD; omega
    unfold Lib.parseMag
    rw [if_neg (by simp), hp]
    show Lib.signless (.ok (valD (d :: ds))) = _
    unfold Lib.signless
    simp only []
    rw [if_neg (by omega)]

/-- strconv.Atoi at every string. -/
theorem atoi_any (s : ByteArray) (hs : s.size ≤ 281474976710656) (w : World) (hL : GLaid w) :
    Calls Tryz.prog 48 #[.string s] w fun e w' => ∃ v x, e = .returned (.tuple #[.int .i64 v, x]) ∧ -9223372036854775808 ≤ v ∧ v ≤ 9223372036854775807 ∧ (∀ n, Lib.atoiAll (bs s) = .ok n → v = n) ∧ Below w.heap.size w w' := by
  cases h : Lib.atoiAll (bs s)
  · rename_i v
    refine (Tryz.strconv_Atoi_ok s (by omega) v h w).mono ?_
    rintro e w' ⟨rfl, hw⟩
    have hbd := Lib.atoiAll_bounds h
    refine ⟨v, _, rfl, hbd.1, hbd.2, fun n hn => by cases hn; rfl, ?_⟩
    rcases hw with rfl | ⟨t, rfl⟩
    · exact Below.refl _ _
    · exact Lib.bytesWorld_below _ _ _
  · obtain ⟨tp, p, hv⟩ := hL.syn
    refine (Tryz.strconv_Atoi_syntax_var s hs h tp p w hv).mono ?_
    rintro e w' ⟨N, rfl, _, _, hb⟩
    exact ⟨0, _, rfl, by omega, by omega, fun n hn => (by cases hn), hb⟩
  · obtain ⟨tp, p, hv⟩ := hL.ran
    refine (Tryz.strconv_Atoi_range_var s hs h tp p w hv).mono ?_
    rintro e w' ⟨N, rfl, _, _, hb⟩
    have hsat : -9223372036854775808 ≤ Lib.atoiSat (bs s) ∧ Lib.atoiSat (bs s) ≤ 9223372036854775807 := by unfold Lib.atoiSat; split <;> omega
    exact ⟨Lib.atoiSat (bs s), _, rfl, hsat.1, hsat.2, fun n hn => (by cases hn), hb⟩

theorem parse_none (s : ByteArray) (hs : s.size ≤ 140737488355000) (h : ∀ d, ¬ WrS s d) (w : World) (hL : Laid w) :
    Calls Tryz.prog 47 #[.string s] w fun e w' => e = .returned (.tuple #[.string { data := #[] }, .bool false]) ∧ Below w.heap.size w w' := by
  refine (parse_any s w hs hL).mono ?_
  rintro e w' ⟨h1, hb⟩
  refine ⟨?_, hb⟩
  rcases h1 with ⟨d', h2, h3⟩ | ⟨h2, h3⟩
  · exact absurd h2 (h d')
  · exact h3

/-- The characters of all writings of numbers by kanji. -/
def NF : List Int := [38646, 22769, 24336, 21442, 22235, 20116, 20845, 19971, 20843, 20061, 25342, 30334, 21315, 19975, 20740, 20806, 20140] ++ NK
theorem nf_fp : ∀ d, d ≤ 9 → ∀ u, u ≤ 3 → ∀ c ∈ fp d u, c ∈ NF := by decide
theorem nf_gu : ∀ g, g ≤ 4 → ∀ c ∈ gu g, c ∈ NF := by decide
theorem nf_pd : ∀ d, d ≤ 9 → pd d ∈ NF := by decide
theorem nf_uo : ∀ b d a, d ≤ 9 → a ≤ 19 → ∀ c ∈ uo fp b d a, c ∈ NF := by
  intro b d a h9 ha c hc
  unfold uo at hc
  rcases List.mem_append.1 hc with hc | hc
  · split at hc
    · simp at hc
    · exact nf_fp d h9 (a % 4) (by omega) c hc
  · split at hc
    · exact nf_gu (a / 4) (by omega) c hc
    · simp at hc
theorem wr_NF {ds : List Nat} {cs : List Int} (hd : DS ds) (h : Wr ds cs) : ∀ c ∈ cs, c ∈ NF := by
  intro c hc
  rcases h with rfl | rfl | rfl
  · exact List.mem_append_right _ (kanji_NK hd c hc)
  · rw [posC_map] at hc
    obtain ⟨d, hd', rfl⟩ := List.mem_map.1 hc
    exact nf_pd d (hd.2.2.1 d hd')
  · unfold formC at hc
    split at hc
    · rw [List.mem_singleton.1 hc]; decide
    · exact eachS_mem nf_uo ds false hd.2.2.1 hd.2.1 c hc
theorem nf_na : ∀ c ∈ NF, c ∉ NA ∧ c ≠ 20803 := by decide

theorem nm_valid {cs : List Int} {n : Nat} (hn : n ≤ 9999) (h : Nm cs n) : ∀ c ∈ cs, validRune c = true := fun c hc => nc_valid c (h.chars hn c hc)
theorem list_str (p : ByteArray) (l : List UInt8) (h : (p.toList == l) = true) : bs p = l := by
  have := eq_of_beq h
  rw [ByteArray.toList_eq] at this
  exact this
theorem gan_bytes : encs [20803] = [229, 133, 131] := by decide

/-- What a piece of a form is read as. -/
def Reads1 (p : ByteArray) (v : Int) : Prop := ∀ cs (n : Nat), p = tx cs → n ≤ 9999 → Nm cs n → v = n

theorem reads_gan {p : ByteArray} (h : (p.toList == [229, 133, 131]) = true) : Reads1 p 1 := by
  intro cs n e hn hm
  have h1 := list_str p _ h
  rw [e, bs_tx, ← gan_bytes] at h1
  have := encs_inj (nm_valid hn hm) (by decide) h1
  subst this
  have := hm.unique hn (by decide) nm_one
  rw [this]; rfl
theorem reads_digits {p d : ByteArray} (h : WrS p d) {v : Int} (hv : ∀ n, Lib.atoiAll (bs d) = .ok n → v = n) : Reads1 p v := by
  intro cs n e hn hm
  obtain ⟨ds, cs', h1, h2, h3, h4⟩ := h.digits
  have hcs : cs = cs' := tx_inj (nm_valid hn hm) (val_W h1 h3) (by rw [← e, ← h4])
  subst hcs
  have hne := hm.ne hn
  rcases hm with ⟨rfl, _⟩ | ⟨k, _, rfl⟩ | rfl
  · exact absurd rfl (nf_na _ (wr_NF h1 h3 20803 (by simp))).2
  · obtain ⟨c, hc⟩ := List.exists_mem_of_ne_nil _ hne
    exact absurd (asc_NA (pad_le k n) c hc) (nf_na c (wr_NF h1 h3 c hc)).1
  · have hds : ds = digs n := unique h1 (digs_DS hn) h3 (.inl rfl)
    subst hds
    have := atoi_dg (digs n) (digs_ne n) (digs_le n) (by have := digs_len4 hn; omega)
    rw [valD_digs, ← h2] at this
    exact hv _ this
theorem reads_plain {p : ByteArray} (h0 : (p.toList == [229, 133, 131]) = false) (h : ∀ d, ¬ WrS p d) {v : Int} (hv : ∀ n, Lib.atoiAll (bs p) = .ok n → v = n) : Reads1 p v := by
  intro cs n e hn hm
  rcases hm with ⟨rfl, _⟩ | ⟨k, hk, rfl⟩ | rfl
  · rw [e] at h0; exact absurd h0 (by decide +kernel)
  · have hl := pad_len hn hk
    have := atoi_dg (pad k n) (pad_ne k n) (pad_le k n) (by omega)
    rw [valD_pad, dg_tx _ (pad_le k n), ← e] at this
    exact hv _ this
  · refine absurd ?_ (h (dg (digs n)))
    refine ⟨isDec_dg (digs_DS hn), .inl ?_⟩
    rw [wOut_dg kanjiC (digs_DS hn), e]

set_option maxRecDepth 100000 in
theorem readNumber_at (p : ByteArray) (hs : p.size ≤ 4294967296) (w : World) (hL : GLaid w) :
    Calls Tryz.prog 30 #[.string p] w fun e w' => ∃ v, e = .returned (.int .i64 v) ∧ -9223372036854775808 ≤ v ∧ v ≤ 9223372036854775807 ∧ Reads1 p v ∧ Below w.heap.size w w' := by
  have hB : Below w.heap.size w w := Below.refl _ _
  cases h0 : (p.toList == [229, 133, 131]) with
  | true =>
    have HR := Lib.hid (reads_gan h0)
    clear hs
    go_enter Tryz.func30, Tryz.ntmps30
    go_wp2
    go_ret
    exact ⟨1, rfl, by omega, by omega, HR.out, hB⟩
  | false =>
    by_cases h : ∃ d, WrS p d
    · obtain ⟨d, hd⟩ := h
      have hds : d.size ≤ 20 := by
        obtain ⟨ds, _, h1, h2, _⟩ := hd.digits
        rw [h2, dg_size]; exact h1.2.1
      have H1 := Lib.hid (parse_is p d (by omega) hd)
      have H2 := Lib.hid (atoi_any d (by omega))
      have HD := Lib.hid hd
      clear hs hds hd
      go_enter Tryz.func30, Tryz.ntmps30
      go_wp2_with (first
        | (go_at_call 47; (with_reducible refine (H1.out _ (hL.next hB).f.num).mono ?_); rintro e w1 ⟨rfl, hb⟩; have hB := hB.trans (hb.mono hB.size); clear hb)
        | (go_at_call 48; (with_reducible refine (H2.out _ (hL.next hB)).mono ?_); rintro e w1 ⟨v, x, rfl, hv0, hv1, hv, hb⟩; have HV := Lib.hid hv; clear hv; have hB := hB.trans (hb.mono hB.size); clear hb))
      go_ret
      exact ⟨v, rfl, hv0, hv1, reads_digits HD.out HV.out, hB⟩
    · have hn : ∀ d, ¬ WrS p d := fun d hd => h ⟨d, hd⟩
      have H1 := Lib.hid (parse_none p (by omega) hn)
      have H2 := Lib.hid (atoi_any p (by omega))
      have HN := Lib.hid hn
      have H0 := Lib.hid h0
      clear hs hn h
      go_enter Tryz.func30, Tryz.ntmps30
      go_wp2_with (first
        | (go_at_call 47; (with_reducible refine (H1.out _ (hL.next hB).f.num).mono ?_); rintro e w1 ⟨rfl, hb⟩; have hB := hB.trans (hb.mono hB.size); clear hb)
        | (go_at_call 48; (with_reducible refine (H2.out _ (hL.next hB)).mono ?_); rintro e w1 ⟨v, x, rfl, hv0, hv1, hv, hb⟩; have HV := Lib.hid hv; clear hv; have hB := hB.trans (hb.mono hB.size); clear hb))
      go_ret
      exact ⟨v, rfl, hv0, hv1, reads_plain H0.out HN.out HV.out, hB⟩

end Go.Proofs.YteelmjmiankflaaGreatDoor.Cal

set_option linter.unusedVariables false
set_option linter.unusedSimpArgs false
namespace Go.Proofs.YteelmjmiankflaaGreatDoor.Cal
open Go Go.RowKit Go.Proofs.YteelmjmiankflaaGreatDoor.Kit Go.Proofs.YteelmjmiankflaaGreatDoor.Utf
open Go.Proofs.YteelmjmiankflaaGreatDoor.Num

theorem eN_six (k : Nat) (hk : k < 5) : (encs (eN k)).length = 6 := eN_size k hk
theorem arr_list (l : List UInt8) : (⟨l.toArray⟩ : ByteArray).data.toList = l := by simp
theorem cp_yes (l : List UInt8) (k : Nat) (hk : k < 5) (h : Lib.hasPrefix l (encs (eN k)) = true) (w : World) :
    Calls Tryz.prog 26 #[.string ⟨l.toArray⟩, .string (tx (eN k))] w fun e w' => e = .returned (.tuple #[.string ⟨(l.drop 6).toArray⟩, .bool true]) ∧ w' = w := by
  refine (Tryz.strings_CutPrefix ⟨l.toArray⟩ (tx (eN k)) w).mono ?_
  rintro e w' ⟨rfl, rfl⟩
  have e1 : (tx (eN k)).data.toList = encs (eN k) := bs_tx _
  rw [arr_list, e1]
  unfold Lib.trimPrefix
  rw [if_pos h, eN_six k hk, h]
  exact ⟨rfl, rfl⟩
theorem cp_no (l : List UInt8) (k : Nat) (hk : k < 5) (h : Lib.hasPrefix l (encs (eN k)) = false) (w : World) :
    Calls Tryz.prog 26 #[.string ⟨l.toArray⟩, .string (tx (eN k))] w fun e w' => e = .returned (.tuple #[.string ⟨l.toArray⟩, .bool false]) ∧ w' = w := by
  refine (Tryz.strings_CutPrefix ⟨l.toArray⟩ (tx (eN k)) w).mono ?_
  rintro e w' ⟨rfl, rfl⟩
  have e1 : (tx (eN k)).data.toList = encs (eN k) := bs_tx _
  rw [arr_list, e1]
  unfold Lib.trimPrefix
  rw [if_neg (by rw [h]; decide), h]
  exact ⟨rfl, rfl⟩
theorem cutB_len (k : Nat) (r : List UInt8 × Int) : (cutB k r).1.length ≤ r.1.length := by
  unfold cutB; split
  · show (r.1.drop 6).length ≤ _; rw [List.length_drop]; omega
  · exact Nat.le_refl _
theorem cutN_len (l : List UInt8) : ∀ k, (cutN k l).1.length ≤ l.length
  | 0 => Nat.le_refl _
  | k + 1 => Nat.le_trans (cutB_len k _) (cutN_len l k)
theorem cutN_years (l : List UInt8) : ∀ k, k ≤ 5 → 0 ≤ (cutN k l).2 ∧ (cutN k l).2 ≤ 2018
  | 0, _ => by show (0 : Int) ≤ 0 ∧ (0 : Int) ≤ 2018; omega
  | k + 1, hk => by
    have ih := cutN_years l k (by omega)
    have := eY_bounds k (by omega)
    show 0 ≤ (cutB k (cutN k l)).2 ∧ (cutB k (cutN k l)).2 ≤ 2018
    unfold cutB
    split
    · show 0 ≤ eY k - 1 ∧ eY k - 1 ≤ 2018; omega
    · exact ih

/-- What read knows of a string's pieces. -/
theorem read_pieces {s : ByteArray} {day : Int} (h : IsForm s day) : ∃ (A B C : ByteArray) (rest : List ByteArray) (y m d e : Nat), IsDate day y m d ∧ Lib.goFieldsP isSep ⟨(cutN 5 (bs s)).1.toArray⟩ = A :: B :: C :: rest ∧ (y : Int) = (cutN 5 (bs s)).2 + (e : Nat) ∧
    (∀ v, Reads1 A v → v = e) ∧ (∀ v, Reads1 B v → v = m) ∧ (∀ v, Reads1 C v → v = d) := by
  obtain ⟨y, m, d, hd, cs, hc, rfl⟩ := h
  obtain ⟨o, A, B, C, T, x1, x2, e, hS, hy⟩ := shape hd hc
  obtain ⟨rest, hr⟩ := hS.flds
  have hcut := hS.cut
  refine ⟨tx A, tx B, tx C, rest.map tx, y, m, d, e, hd, ?_, ?_, fun v hv => hv A e rfl hS.le hS.na, fun v hv => hv B m rfl hS.lm hS.nb, fun v hv => hv C d rfl hS.ld hS.nc⟩
  · rw [bs_tx, hcut]
    show Lib.goFieldsP isSep (tx (tl A B C T x1 x2)) = _
    rw [fields_tx isSep _ hS.valid_tl, hr]; rfl
  · rw [bs_tx, hcut]; exact hy

theorem valid_nat {Y M D : Int} (h : Valid Y M D) : ∃ y m d : Nat, IsDate (num Y M D) y m d := by
  obtain ⟨h1, h2, h3, h4, h5, h6⟩ := h
  refine ⟨Y.toNat, M.toNat, D.toNat, ?_⟩
  rw [show ((Y.toNat : Nat) : Int) = Y by omega, show ((M.toNat : Nat) : Int) = M by omega, show ((D.toNat : Nat) : Int) = D by omega]
  exact ⟨⟨h1, h2, h3, h4, h5, h6⟩, rfl⟩

/-- What read returns. -/
def ReadPost (s : ByteArray) (w : World) (e : Ending) (w' : World) : Prop :=
  ∃ v b, e = .returned (.tuple #[.int .i64 v, .bool b]) ∧ (b = true → ∃ y m d : Nat, IsDate v y m d) ∧ (∀ day, IsForm s day → v = day ∧ b = true) ∧ Below w.heap.size w w'

theorem read_end {s : ByteArray} {w w' : World} {Y M D : Int} (h : ∀ day, IsForm s day → IsDate day Y M D) (hb : Below w.heap.size w w') : ReadPost s w (.returned (.tuple #[.int .i64 (dn Y M D), .bool (dk Y M D)])) w' := by
  refine ⟨_, _, rfl, fun hk => ?_, fun day hf => ?_, hb⟩
  · have hv : Valid Y M D := by simpa [dk] using hk
    unfold dn
    rw [if_pos hv]
    exact valid_nat hv
  · obtain ⟨hv, e⟩ := h day hf
    refine ⟨?_, by simpa [dk] using hv⟩
    unfold dn
    rw [if_pos hv, e]

theorem fields_le (s : ByteArray) : ∀ x ∈ Lib.goFieldsP isSep s, x.size ≤ s.size := by
  intro x hx
  unfold Lib.goFieldsP at hx
  obtain ⟨p, _, rfl⟩ := List.mem_map.1 hx
  rw [ByteArray.size_extract]; omega

set_option maxRecDepth 100000 in
set_option maxHeartbeats 2000000 in
theorem read_at (s : ByteArray) (hs : s.size ≤ 1048576) (w : World) (hL : GLaid w) : Calls Tryz.prog 13 #[.string s] w (ReadPost s w) := by
  have HP := Lib.hid (fun day (h : IsForm s day) => read_pieces h)
  have hlen : ∀ k, (⟨(cutN k (bs s)).1.toArray⟩ : ByteArray).size ≤ 1048576 := fun k => by
    have := cutN_len (bs s) k
    rw [bs_len] at this
    show (cutN k (bs s)).1.toArray.size ≤ _
    rw [List.size_toArray]; omega
  have HY := Lib.hid (cutN_years (bs s) 5 (Nat.le_refl _))
  obtain ⟨te, fz, he⟩ := hL.f.era.er
  have HE := Lib.hid he
  have HX := Lib.hid (fun (k : Nat) (hk : k < 5) W => index_era k hk W)
  have HYB := Lib.hid eY_bounds
  have HF := Lib.hid (fun W => fields_at ⟨(cutN 5 (bs s)).1.toArray⟩ (by have := hlen 5; omega) W)
  have h0 : (⟨(cutN 0 (bs s)).1.toArray⟩ : ByteArray) = s := by apply ba_ext; simp [cutN]
  have HS := Lib.hid (fun k => show cutN (k + 1) (bs s) = cutB k (cutN k (bs s)) from rfl)
  obtain ⟨F, hF⟩ : ∃ F, Lib.goFieldsP isSep ⟨(cutN 5 (bs s)).1.toArray⟩ = F := ⟨_, rfl⟩
  have hFs : ∀ x ∈ F, x.size ≤ 4294967296 := fun x hx => by
    have h1 := fields_le ⟨(cutN 5 (bs s)).1.toArray⟩ x (by rw [hF]; exact hx)
    have := hlen 5; omega
  rw [hF] at HF HP
  have HFs := Lib.hid hFs
  have HH0 := Lib.hid h0
  have HZ0 := Lib.hid (show (cutN 0 (bs s)).2 = 0 ∧ True from ⟨rfl, trivial⟩)
  obtain ⟨c, hc⟩ : ∃ c : Nat → List UInt8 × Int, (fun k => cutN k (bs s)) = c := ⟨_, rfl⟩
  have hc5 : cutN 5 (bs s) = c 5 := by rw [← hc]
  have hcc : ∀ k, cutN k (bs s) = c k := fun k => by rw [← hc]
  rw [hc5] at HF HP HY
  rw [hcc 0] at HH0 HZ0
  simp only [hcc] at HS
  clear he hF hFs h0 hlen hs hc hc5 hcc
  go_enter Tryz.func13, Tryz.ntmps13
  go_wp2_with (first
    | (refine wpList_load_row rfl 52 (.global 0) rfl 0 rfl te eraA fz _ HE.out Tryz.underlying52 rfl info_eras ?_))
  go_loopw [0, 4, 11] (fun sv yv i wr => ∃ k : Nat, i = .int .i64 k ∧ k ≤ 5 ∧ sv = .string ⟨(c k).1.toArray⟩ ∧ yv = .int .i64 (c k).2 ∧ Below w.heap.size w wr) (fun _ _ i _ => 5 - (intOf i).toNat)
  case atStart => exact ⟨0, rfl, by omega, by rw [HH0.out], by rw [HZ0.out.1], Below.refl _ _⟩
  case round =>
    obtain ⟨k, rfl, hk, rfl, rfl, hb⟩ := hrel
    by_cases hk5 : k < 5
    · have hx := HX.out k hk5
      have hy := HYB.out k hk5
      obtain ⟨l, hl⟩ : ∃ l, (c k).1 = l := ⟨_, rfl⟩
      obtain ⟨z, hz⟩ : ∃ z, (c k).2 = z := ⟨_, rfl⟩
      have hck : c k = (l, z) := by rw [← hl, ← hz]
      have hcn := HS.out k
      rw [hck] at hcn
      rw [hl, hz]
      have hbW : Below wr.heap.size wr (wr.alloc (.cells #[.string (tx (eN k)), .int .i64 (eY k), .int .i64 (eM k), .int .i64 (eD k)] 51)) := (Below.refl _ wr).alloc (Nat.le_refl _) _
      have hbb := hb.trans (hbW.mono hb.size)
      have k0 : (wr.alloc (.cells #[.string (tx (eN k)), .int .i64 (eY k), .int .i64 (eM k), .int .i64 (eD k)] 51)).cell? ⟨wr.heap.size, 0, none⟩ = some (.string (tx (eN k))) := by rw [World.cell?_alloc_at _ _ _ _ rfl]; rfl
      have k1 : (wr.alloc (.cells #[.string (tx (eN k)), .int .i64 (eY k), .int .i64 (eM k), .int .i64 (eD k)] 51)).cell? ⟨wr.heap.size, 1, none⟩ = some (.int .i64 (eY k)) := by rw [World.cell?_alloc_at _ _ _ _ rfl]; rfl
      have HBB := Lib.hid hbb
      clear hbW hbb hck hl hz
      cases hp : Lib.hasPrefix l (encs (eN k)) with
      | true =>
        have hcv : cutB k (l, z) = (l.drop 6, eY k - 1) := by unfold cutB; rw [if_pos hp]
        rw [hcv] at hcn
        have HC := Lib.hid (fun W => cp_yes l k hk5 hp W)
        have HN := Lib.hid hcn
        obtain ⟨R, hR⟩ : ∃ R, (⟨l.toArray⟩ : ByteArray) = R := ⟨_, rfl⟩
        obtain ⟨R2, hR2⟩ : ∃ R, (⟨(l.drop 6).toArray⟩ : ByteArray) = R := ⟨_, rfl⟩
        rw [hR, hR2] at HC
        rw [hR]
        have HR2 := Lib.hid hR2
        clear hcv hcn hp hR hR2
        go_wp2_with (go_at_call 26; (with_reducible refine (HC.out _).mono ?_); rintro e w2 ⟨rfl, hw2⟩; obtain rfl := hw2.symm)
        go_quiet (fail)
        go_wp2
        go_roundw
        case rel => exact ⟨k + 1, by go_num, by omega, by rw [HN.out, ← HR2.out], by rw [HN.out], below_drews HBB.out _⟩
        case measure => simp [intOf]; omega
      | false =>
        have hcv : cutB k (l, z) = (l, z) := cutB_no hp
        rw [hcv] at hcn
        have HC := Lib.hid (fun W => cp_no l k hk5 hp W)
        have HN := Lib.hid hcn
        obtain ⟨R, hR⟩ : ∃ R, (⟨l.toArray⟩ : ByteArray) = R := ⟨_, rfl⟩
        rw [hR] at HC
        rw [hR]
        have HR := Lib.hid hR
        clear hcv hcn hp hR
        go_wp2_with (go_at_call 26; (with_reducible refine (HC.out _).mono ?_); rintro e w2 ⟨rfl, hw2⟩; obtain rfl := hw2.symm)
        go_roundw
        case rel => exact ⟨k + 1, by go_num, by omega, by rw [HN.out, ← HR.out], by rw [HN.out], HBB.out⟩
        case measure => simp [intOf]; omega
    · obtain rfl : k = 5 := by omega
      obtain ⟨R, hR⟩ : ∃ R, (⟨(c 5).1.toArray⟩ : ByteArray) = R := ⟨_, rfl⟩
      obtain ⟨z, hz⟩ : ∃ z, (c 5).2 = z := ⟨_, rfl⟩
      have hzb := HY.out
      rw [hz] at hzb HP
      rw [hR] at HF
      rw [hR, hz]
      clear hR hz HX HYB HS HH0 HZ0 HY HE
      by_cases h3 : F.length < 3
      · have h3i : (F.length : Int) < 3 := by omega
        have HNO : Hid (∀ day, ¬ IsForm s day) := Lib.hid (fun day hf => by
          obtain ⟨A, B, C, rest, _, _, _, _, _, e, _⟩ := HP.out day hf
          rw [e] at h3
          simp at h3
          omega)
        clear HP
        go_wp2_with (go_at_call 27; (with_reducible refine (HF.out _).mono ?_); rintro e w2 ⟨A, n, rfl, hn, hown, hb2⟩; subst hn; have hb3 := hb.trans (hb2.mono hb.size); clear hb2)
        go_ret2
        exact ⟨0, false, rfl, (fun h => by cases h), fun day hf => absurd hf (HNO.out day), hb3⟩
      · obtain ⟨A, B, C, rest, rfl⟩ : ∃ A B C rest, F = A :: B :: C :: rest := by
          match F, h3 with
          | [], h => exact absurd (by decide) h
          | [_], h => exact absurd (by simp) h
          | [_, _], h => exact absurd (by simp) h
          | a :: b :: c :: r, _ => exact ⟨a, b, c, r, rfl⟩
        obtain ⟨n, hn⟩ : ∃ n, (A :: B :: C :: rest).length = n := ⟨_, rfl⟩
        have hn3 : 3 ≤ n := by rw [← hn]; simp
        have h3i : ¬ (n : Int) < 3 := by omega
        have i0 : (0 : Int) < n := by omega
        have i00 : 0 < n := by omega
        have i1 : (1 : Int) < n := by omega
        have i2 : (2 : Int) < n := by omega
        have HA := Lib.hid (readNumber_at A (HFs.out A (by simp)))
        have HB := Lib.hid (readNumber_at B (HFs.out B (by simp)))
        have HC := Lib.hid (readNumber_at C (HFs.out C (by simp)))
        rw [hn] at HF
        have HL2 := Lib.hid (fun W (h : Below w.heap.size w W) => hL.next h)
        clear hn h3 HFs hL
        go_wp2_with (first
          | (go_at_call 27; (with_reducible refine (HF.out _).mono ?_); rintro e w2 ⟨g, n', rfl, hn', hown, hb2⟩; subst hn'
             have c0 : w2.cell? ⟨g, 0, none⟩ = some (.string A) := (hown.cellAt 0 (by omega)).trans rfl
             have c1 : w2.cell? ⟨g, 1, none⟩ = some (.string B) := (hown.cellAt 1 (by omega)).trans rfl
             have c2 : w2.cell? ⟨g, 2, none⟩ = some (.string C) := (hown.cellAt 2 (by omega)).trans rfl
             have hb3 := hb.trans (hb2.mono hb.size)
             have HO := Lib.hid hown
             clear hb2 hown))
        have HST := Lib.hid (show ∀ W W', (W.cell? ⟨g, 0, none⟩ = some (.string A) ∧ W.cell? ⟨g, 1, none⟩ = some (.string B) ∧ W.cell? ⟨g, 2, none⟩ = some (.string C) ∧ Below w2.heap.size w2 W) → Below W.heap.size W W' → (W'.cell? ⟨g, 0, none⟩ = some (.string A) ∧ W'.cell? ⟨g, 1, none⟩ = some (.string B) ∧ W'.cell? ⟨g, 2, none⟩ = some (.string C) ∧ Below w2.heap.size w2 W') from fun W W' h hb => by
          have h2 := h.2.2.2.trans (hb.mono h.2.2.2.size)
          have := own_later HO.out h2
          exact ⟨(this.cellAt 0 (by omega)).trans rfl, (this.cellAt 1 (by omega)).trans rfl, (this.cellAt 2 (by omega)).trans rfl, h2⟩)
        have HLS := Lib.hid (show ∀ W, (W.cell? ⟨g, 0, none⟩ = some (.string A) ∧ W.cell? ⟨g, 1, none⟩ = some (.string B) ∧ W.cell? ⟨g, 2, none⟩ = some (.string C) ∧ Below w2.heap.size w2 W) → GLaid W from fun W h => HL2.out W (hb3.trans (h.2.2.2.mono hb3.size)))
        have hS0 : (fun W : World => W.cell? ⟨g, 0, none⟩ = some (.string A) ∧ W.cell? ⟨g, 1, none⟩ = some (.string B) ∧ W.cell? ⟨g, 2, none⟩ = some (.string C) ∧ Below w2.heap.size w2 W) w2.drew := ⟨c0, c1, c2, (Below.refl w2.heap.size w2).drew⟩
        simp only [] at hS0
        clear c0 c1 c2
        go_region_held3 (fun W => W.cell? ⟨g, 0, none⟩ = some (.string A) ∧ W.cell? ⟨g, 1, none⟩ = some (.string B) ∧ W.cell? ⟨g, 2, none⟩ = some (.string C) ∧ Below w2.heap.size w2 W) (first | assumption | exact hS0)
          (first
          | (go_at_call 30; (with_reducible refine (HA.out _ ?_).mono ?_); exact HLS.out _ (by assumption); rintro e w3 ⟨v1, rfl, b1, b1', r1, hbA⟩
             have hS3 := HST.out _ _ (by assumption) hbA
             have R1 := Lib.hid r1
             clear hbA r1)
          | (go_at_call 30; (with_reducible refine (HB.out _ ?_).mono ?_); exact HLS.out _ (by assumption); rintro e w4 ⟨v2, rfl, b2, b2', r2, hbA⟩
             have hS4 := HST.out _ _ (by assumption) hbA
             have R2 := Lib.hid r2
             clear hbA r2)
          | (go_at_call 30; (with_reducible refine (HC.out _ ?_).mono ?_); exact HLS.out _ (by assumption); rintro e w5 ⟨v3, rfl, b3, b3', r3, hbA⟩
             have hS5 := HST.out _ _ (by assumption) hbA
             have R3 := Lib.hid r3
             clear hbA r3)
          | (go_at_call 10; (with_reducible refine (day_any _ _ _ _ ?_).mono ?_); exact (HLS.out _ (by assumption)).f.era.base; rintro e w6 ⟨rfl, hbA⟩
             have hS6 := HST.out _ _ (by assumption) hbA
             clear hbA))
        go_wp2
        go_ret2
        refine read_end (fun day hf => ?_) (hb3.trans (hS6.2.2.2.mono hb3.size))
        obtain ⟨A', B', C', rest', y, m, d, e, hd, heq, hy, ha, hb', hc⟩ := HP.out day hf
        obtain ⟨e1, heq⟩ := List.cons.inj heq
        obtain ⟨e2, heq⟩ := List.cons.inj heq
        obtain ⟨e3, _⟩ := List.cons.inj heq
        have f1 := ha v1 (by rw [← e1]; exact R1.out)
        have f2 := hb' v2 (by rw [← e2]; exact R2.out)
        have f3 := hc v3 (by rw [← e3]; exact R3.out)
        have g1 := hd.1.1
        have g2 := hd.1.2.1
        have hw : IntKind.i64.wrap (z + v1) = y := by
          rw [f1, ← hy]
          exact IntWalk.i64_in _ ⟨by omega, by omega⟩
        rw [hw, f2, f3]
        exact hd

end Go.Proofs.YteelmjmiankflaaGreatDoor.Cal

set_option linter.unusedVariables false
set_option linter.unusedSimpArgs false
namespace Go.Proofs.YteelmjmiankflaaGreatDoor.Cal
open Go Go.RowKit Go.Proofs.YteelmjmiankflaaGreatDoor.Kit Go.Proofs.YteelmjmiankflaaGreatDoor.Utf
open Go.Proofs.YteelmjmiankflaaGreatDoor.Num

/-- slices.Contains over the forms. -/
theorem contains_at (s : ByteArray) (l : List (List Int)) (v : Value) (n B : Nat) (hn : l.length = n) (w : World) (h : w.ownsRow B 9 1 v n (strs l)) (h0 : 0 < n) (hm : n ≤ 6) :
    Calls Tryz.prog 14 #[v, .string s] w fun e w' => e = .returned (.bool (isB s l)) ∧ w' = w := by
  obtain ⟨a, cap, rfl⟩ := own_shape h
  obtain ⟨g, rfl, _, _, hc, _⟩ := own_cells h h0
  have e1 : Lib.containsS ((l.map tx).take n) s = isB s l := by
    rw [List.take_of_length_le (by simp; omega)]
    cases hb : isB s l with
    | true =>
      obtain ⟨cs, h1, h2⟩ := (isB_iff s l).1 hb
      rw [Lib.containsS_iff]
      exact List.mem_map.2 ⟨cs, h1, h2.symm⟩
    | false =>
      cases hcs : Lib.containsS (l.map tx) s with
      | false => rfl
      | true =>
        rw [Lib.containsS_iff] at hcs
        obtain ⟨cs, h1, h2⟩ := List.mem_map.1 hcs
        rw [(isB_iff s l).2 ⟨cs, h1, h2.symm⟩] at hb
        cases hb
  rw [← e1]
  refine Tryz.slices_Contains_string g 0 n cap (l.map tx) s w (by simp; omega) (by omega) (fun j hj => ?_)
  rw [Nat.zero_add]
  refine hc j _ ?_
  rw [List.length_map] at hj
  unfold strs
  rw [List.getElem?_map, List.getElem?_eq_getElem hj, List.getD_eq_getElem?_getD, List.getElem?_map, List.getElem?_eq_getElem hj]; rfl

set_option maxRecDepth 100000 in
theorem parseC_at (s : ByteArray) (hs : s.size ≤ 1048576) (w : World) (hL : GLaid w) : Calls Tryz.prog 6 #[.string s] w (ParsePost s w) := by
  have HR := Lib.hid (read_at s hs)
  clear hs
  go_enter Tryz.func6, Tryz.ntmps6
  go_wp2_with (go_at_call 13; (with_reducible refine (HR.out _ hL).mono ?_); rintro e w1 ⟨v, b, rfl, hv, hf, hb⟩)
  rotate_left
  · go_ret2
    exact ⟨.inr ⟨fun day h => (by have := (hf day h).2; simp_all), rfl⟩, hb⟩
  · obtain ⟨y, m, d, hd⟩ := hv (by assumption)
    have hy := year_count v y m d
    have HF := Lib.hid (fun W hW => formsY_at v y m d hd W hW)
    have HI := Lib.hid (isForm_iff (s := s) hd)
    have HV := Lib.hid (fun day h => (hf day h).1)
    obtain ⟨l, hl⟩ : ∃ l, yearForms v y m d = l := ⟨_, rfl⟩
    rw [hl] at HF HI hy
    obtain ⟨n, hn⟩ : ∃ n, l.length = n := ⟨_, rfl⟩
    rw [hn] at HF hy
    have HC := Lib.hid (fun (x : Value) (B : Nat) (W : World) (h : W.ownsRow B 9 1 x n (strs l)) => contains_at s l x n B hn W h (by omega) hy.2)
    clear hv hf hd hl hn
    cases hB : isB s l with
    | true =>
      rw [hB] at HC HI
      have HG := Lib.hid (HI.out.2 rfl)
      clear HI HV
      go_wp2_with (first
        | (go_at_call 15; (with_reducible refine (HF.out _ (hL.next hb).f).mono ?_); rintro e w2 ⟨x, rfl, ho, hb2⟩; have hb3 := hb.trans (hb2.mono hb.size); clear hb2)
        | (go_at_call 14; refine (HC.out _ _ _ ho).mono ?_; rintro e w3 ⟨rfl, hw3⟩; obtain rfl := hw3.symm))
      go_ret2
      exact ⟨.inl ⟨v, HG.out, rfl⟩, hb3⟩
    | false =>
      rw [hB] at HC HI
      have HN : Hid (∀ day, ¬ IsForm s day) := Lib.hid (fun day h => by
        have e := HV.out day h
        subst e
        have := HI.out.1 h
        cases this)
      clear HI HV
      go_wp2_with (first
        | (go_at_call 15; (with_reducible refine (HF.out _ (hL.next hb).f).mono ?_); rintro e w2 ⟨x, rfl, ho, hb2⟩; have hb3 := hb.trans (hb2.mono hb.size); clear hb2)
        | (go_at_call 14; refine (HC.out _ _ _ ho).mono ?_; rintro e w3 ⟨rfl, hw3⟩; obtain rfl := hw3.symm))
      go_ret2
      exact ⟨.inr ⟨HN.out, rfl⟩, hb3⟩

end Go.Proofs.YteelmjmiankflaaGreatDoor.Cal

set_option linter.unusedVariables false
set_option linter.unusedSimpArgs false
namespace Go.Proofs.YteelmjmiankflaaGreatDoor.Cal
open Go Go.RowKit Go.Proofs.YteelmjmiankflaaGreatDoor.Kit Go.Proofs.YteelmjmiankflaaGreatDoor.Utf
open Go.Proofs.YteelmjmiankflaaGreatDoor.Num

theorem ok2 {n1 n2 k1 k2 : Nat} {u1 u2 : List Int} (h1 : n1 ≤ 9999) (h2 : n2 ≤ 9999) (hk1 : k1 ≤ 4) (hk2 : k2 ≤ 4) (hu1 : u1 ∈ unitL) (hu2 : u2 ∈ unitL) : ∀ f ∈ ([(n1, k1, u1), (n2, k2, u2)] : List Fld), FOk f := by
  intro f hf
  simp only [List.mem_cons, List.not_mem_nil, or_false] at hf
  rcases hf with rfl | rfl
  · exact ⟨h1, hk1, hu1⟩
  · exact ⟨h2, hk2, hu2⟩
theorem wd_len : ∀ k, k < 7 → (encs [wdC k]).length ≤ 4 := by decide
theorem len_all {day : Int} {y m d : Nat} (h : IsDate day y m d) : ∀ cs ∈ allForms day y m d, (encs cs).length ≤ 1300 := by
  have hy : y ≤ 9999 := by have := h.1.2.1; omega
  have hm : m ≤ 9999 := by have := h.1.2.2.2.1; omega
  have hd : d ≤ 9999 := by have := h.1.2.2.2.2.2; have := len_bounds (y : Int) (m : Int); omega
  have h7 : (day % 7).toNat < 7 := by omega
  intro cs hc
  rcases List.mem_append.1 hc with hc | hc
  · rcases List.mem_append.1 hc with hc | hc
    · rcases List.mem_append.1 hc with hc | hc
      · have hP : (encs (plainF y m d)).length ≤ 400 * 3 := joinC_len decC dec_len [(y, 1, [24180]), (m, 1, [26376]), (d, 1, [26085])] (ok3 hy hm hd (by decide) (by decide) (by decide) (by decide) (by decide) (by decide))
        have hW := wd_len _ h7
        simp only [firstForms, List.mem_cons, List.not_mem_nil, or_false] at hc
        rcases hc with rfl | rfl
        · omega
        · rw [encs_append, encs_append, encs_append, List.length_append, List.length_append, List.length_append, show (encs [40]).length = 1 by decide, show (encs [41]).length = 1 by decide]
          omega
      · have hP : ∀ c, [c] ∈ unitL → (encs (sepF c y m d)).length ≤ 400 * 3 := fun c hcu => joinC_len decC dec_len [(y, 4, [c]), (m, 2, [c]), (d, 2, [])] (ok3 hy hm hd (by decide) (by decide) (by decide) hcu hcu (by decide))
        simp only [sepForms, List.mem_cons, List.not_mem_nil, or_false] at hc
        rcases hc with rfl | rfl
        · have := hP 47 (by decide); omega
        · have := hP 45 (by decide); omega
    · cases hk : cur day 5 with
      | none => rw [hk] at hc; simp at hc
      | some k =>
        rw [hk] at hc
        have he : eYear k y ≤ 9999 := by have := (era_year h hk).2.2.2; omega
        have hN := eN_len k (cur_lt hk)
        have h1 : (encs (eraF decC (eYear k y) m d)).length ≤ 400 * 3 := joinC_len (eraC decC) (era_len _ dec_len) [(eYear k y, 1, [24180]), (m, 1, [26376]), (d, 1, [26085])] (ok3 he hm hd (by decide) (by decide) (by decide) (by decide) (by decide) (by decide))
        have h2 : (encs (eraF kanC (eYear k y) m d)).length ≤ 400 * 3 := joinC_len (eraC kanC) (era_len _ kan_len) [(eYear k y, 1, [24180]), (m, 1, [26376]), (d, 1, [26085])] (ok3 he hm hd (by decide) (by decide) (by decide) (by decide) (by decide) (by decide))
        simp only [eraForms, List.mem_cons, List.not_mem_nil, or_false] at hc
        rcases hc with rfl | rfl
        · rw [encs_append, List.length_append]; omega
        · rw [encs_append, List.length_append]; omega
  · have h1 : (encs (joinC decC [(m, 1, [26376]), (d, 1, [26085])])).length ≤ 400 * 2 := joinC_len decC dec_len [(m, 1, [26376]), (d, 1, [26085])] (ok2 hm hd (by decide) (by decide) (by decide) (by decide))
    have h2 : (encs (joinC decC [(m, 1, [47]), (d, 1, [])])).length ≤ 400 * 2 := joinC_len decC dec_len [(m, 1, [47]), (d, 1, [])] (ok2 hm hd (by decide) (by decide) (by decide) (by decide))
    simp only [lastForms, List.mem_cons, List.not_mem_nil, or_false] at hc
    rcases hc with rfl | rfl
    · omega
    · omega

structure Facts (day : Int) (L : List (List Int)) (n q : Nat) : Prop where
  forms : ∀ w, FLaid w → Calls Tryz.prog 9 #[.int .i64 day] w fun e w' => ∃ v, e = .returned v ∧ w'.ownsRow w.heap.size 9 1 v n (strs L) ∧ Below w.heap.size w w'
  apart : ∀ i k, k < i → i < n → ((tx (L.getD i [])).toList == (tx (L.getD k [])).toList) = false
  size : ∀ i, i < n → (tx (L.getD i [])).size ≤ 1048576
  yes : ∀ i, i < q → IsForm (tx (L.getD i [])) day
  no : ∀ i, q ≤ i → i < n → ∀ v, ¬ IsForm (tx (L.getD i [])) v
  get : ∀ i, i < n → (strs L)[i]? = some (.string (tx (L.getD i [])))

theorem facts_of {day : Int} {y m d : Nat} (h : IsDate day y m d) (q : Nat) (hq : (yearForms day y m d).length = q) : Facts day (allForms day y m d) (q + 2) q := by
  have hl : (allForms day y m d).length = q + 2 := by rw [all_count, hq]
  refine ⟨fun w hL => ?_, fun i k hk hi => forms_apart h hk (by rw [hl]; exact hi), fun i hi => ?_, fun i hi => ?_, fun i h1 h2 v => ?_, fun i hi => ?_⟩
  · have := forms_at day y m d h w hL
    rw [hl] at this
    exact this
  · rw [tx_size]
    have hm : (allForms day y m d).getD i [] ∈ allForms day y m d := by
      rw [List.getD_eq_getElem?_getD, List.getElem?_eq_getElem (by rw [hl]; exact hi)]
      exact List.getElem_mem _
    have := len_all h _ hm
    omega
  · refine ⟨y, m, d, h, _, ?_, rfl⟩
    unfold allForms
    rw [List.getD_eq_getElem?_getD, List.getElem?_append_left (by rw [hq]; exact hi), List.getElem?_eq_getElem (by rw [hq]; exact hi)]
    exact List.getElem_mem _
  · refine last_no (m := m) (d := d) ?_ v
    unfold allForms
    rw [List.getD_eq_getElem?_getD, List.getElem?_append_right (by rw [hq]; exact h1), List.getElem?_eq_getElem (by rw [hq]; show i - q < 2; omega)]
    exact List.getElem_mem _
  · unfold strs
    rw [List.getElem?_map, List.getD_eq_getElem?_getD, List.getElem?_eq_getElem (by rw [hl]; exact hi)]; rfl

theorem facts {day : Int} {y m d : Nat} (h : IsDate day y m d) : (∃ L, Facts day L 6 4) ∨ (∃ L, Facts day L 8 6) := by
  have hc : (yearForms day y m d).length = 4 ∨ (yearForms day y m d).length = 6 := by
    unfold yearForms
    rcases cur day 5 with _ | k
    · left; rfl
    · right; rfl
  rcases hc with hc | hc
  · exact .inl ⟨_, facts_of h 4 hc⟩
  · exact .inr ⟨_, facts_of h 6 hc⟩

theorem parse_yes {s : ByteArray} {day : Int} (hs : s.size ≤ 1048576) (h : IsForm s day) (w : World) (hL : GLaid w) :
    Calls Tryz.prog 6 #[.string s] w fun e w' => e = .returned (.tuple #[.int .i64 day, .bool true]) ∧ Below w.heap.size w w' := by
  refine (parseC_at s hs w hL).mono ?_
  rintro e w' ⟨⟨day', h', rfl⟩ | ⟨hn, _⟩, hb⟩
  · rw [h'.unique h]; exact ⟨rfl, hb⟩
  · exact absurd h (hn day)
theorem parse_no {s : ByteArray} (hs : s.size ≤ 1048576) (h : ∀ day, ¬ IsForm s day) (w : World) (hL : GLaid w) :
    Calls Tryz.prog 6 #[.string s] w fun e w' => e = .returned (.tuple #[.int .i64 0, .bool false]) ∧ Below w.heap.size w w' := by
  refine (parseC_at s hs w hL).mono ?_
  rintro e w' ⟨⟨day', h', rfl⟩ | ⟨hn, rfl⟩, hb⟩
  · exact absurd h' (h day')
  · exact ⟨rfl, hb⟩

end Go.Proofs.YteelmjmiankflaaGreatDoor.Cal

set_option linter.unusedVariables false
set_option linter.unusedSimpArgs false
namespace Go.Proofs.YteelmjmiankflaaGreatDoor.Cal
open Go Go.RowKit Go.Proofs.YteelmjmiankflaaGreatDoor.Kit Go.Proofs.YteelmjmiankflaaGreatDoor.Utf
open Go.Proofs.YteelmjmiankflaaGreatDoor.Num

/-- A code's first byte, and those behind it. -/
theorem enc_bytes (c : Int) (h : validRune c = true) : ∃ b r, enc c = b :: r ∧ (b.toNat < 128 ∨ 192 ≤ b.toNat) ∧ ∀ x ∈ r, 128 ≤ x.toNat ∧ x.toNat < 192 := by
  have hv := (valid_iff c).1 h
  rcases enc_forms c h with ⟨h1, e⟩ | ⟨h1, h2, e⟩ | ⟨h1, h2, e⟩ | ⟨h1, h2, e⟩
  · refine ⟨_, [], e, .inl (by rw [toNat_ofNat _ (by omega)]; omega), by simp⟩
  · refine ⟨_, _, e, .inr (by rw [toNat_ofNat _ (by omega)]; omega), ?_⟩
    intro x hx
    rw [List.mem_singleton.1 hx, toNat_ofNat _ (by omega)]; omega
  · refine ⟨_, _, e, .inr (by rw [toNat_ofNat _ (by omega)]; omega), ?_⟩
    intro x hx
    simp only [List.mem_cons, List.not_mem_nil, or_false] at hx
    rcases hx with rfl | rfl <;> rw [toNat_ofNat _ (by omega)] <;> omega
  · refine ⟨_, _, e, .inr (by rw [toNat_ofNat _ (by omega)]; omega), ?_⟩
    intro x hx
    simp only [List.mem_cons, List.not_mem_nil, or_false] at hx
    rcases hx with rfl | rfl | rfl <;> rw [toNat_ofNat _ (by omega)] <;> omega

/-- A character's code stands in a string of characters only where the character does. -/
theorem no_code (x : Int) (hx : validRune x = true) : ∀ (p : List Int) (t : List UInt8) (j : Nat), (∀ c ∈ p, validRune c = true) → j < (encs p).length → ((encs p ++ t).drop j).take (enc x).length = enc x → (∃ q r, p = q ++ x :: r ∧ (encs q).length = j)
  | [], t, j, _, hj, _ => by simp [encs] at hj
  | c :: p, t, j, hv, hj, he => by
    have hc := hv c (by simp)
    have hel := enc_len c hc
    by_cases h0 : j = 0
    · subst h0
      rw [List.drop_zero, encs_cons] at he
      obtain ⟨t', ht⟩ : ∃ t', enc c ++ encs p ++ t = enc x ++ t' := ⟨_, by rw [← he]; exact (List.take_append_drop _ _).symm.trans (by rw [he])⟩
      have h1 := dec1_enc x hx t'
      rw [← ht, List.append_assoc, dec1_enc c hc] at h1
      obtain rfl := (Prod.mk.inj (Option.some.inj h1)).1
      exact ⟨[], p, rfl, rfl⟩
    · by_cases hjc : j < (enc c).length
      · exfalso
        obtain ⟨b, r, e1, e2, e3⟩ := enc_bytes c hc
        obtain ⟨b', r', f1, f2, f3⟩ := enc_bytes x hx
        have h1 : ((encs (c :: p) ++ t).drop j)[0]? = some b' := by
          have : (((encs (c :: p) ++ t).drop j).take (enc x).length)[0]? = some b' := by rw [he, f1]; rfl
          rw [List.getElem?_take] at this
          rwa [if_pos (by rw [f1]; simp)] at this
        rw [List.getElem?_drop, Nat.add_zero, encs_cons, e1] at h1
        obtain ⟨i, rfl⟩ : ∃ i, j = i + 1 := ⟨j - 1, by omega⟩
        rw [e1, List.length_cons] at hjc
        have h2 : (b :: r ++ encs p ++ t)[i + 1]? = r[i]? := by
          rw [List.cons_append, List.cons_append, List.getElem?_cons_succ, List.append_assoc, List.getElem?_append_left (by omega)]
        rw [h2] at h1
        have := e3 b' (List.mem_of_getElem? h1)
        omega
      · rw [encs_cons, List.length_append] at hj
        have he2 : ((encs p ++ t).drop (j - (enc c).length)).take (enc x).length = enc x := by
          rw [encs_cons, List.append_assoc, List.drop_append] at he
          rwa [List.drop_of_length_le (by omega), List.nil_append] at he
        obtain ⟨q, r, h1, h2⟩ := no_code x hx p t (j - (enc c).length) (fun a ha => hv a (by simp [ha])) (by omega) he2
        exact ⟨c :: q, r, by rw [h1]; rfl, by rw [encs_cons, List.length_append]; omega⟩

/-- Whether sep stands at j in s. -/
def occ (s sep : ByteArray) (j : Nat) : Bool := (s.extract j (j + sep.size)).toList == sep.toList
theorem occ_iff (s sep : ByteArray) (j : Nat) : occ s sep j = true ↔ ((bs s).drop j).take sep.size = bs sep := by
  unfold occ
  rw [beq_iff_eq, ByteArray.toList_eq, ByteArray.toList_eq, Lib.extract_data, Nat.add_sub_cancel_left]
def ctAt (s sep : ByteArray) : Option Nat := (List.range (s.size + 1 - sep.size)).find? (occ s sep)
theorem ct_some {s sep : ByteArray} {i : Nat} (h : ctAt s sep = some i) : i + sep.size ≤ s.size ∧ occ s sep i = true ∧ ∀ j, j < i → occ s sep j = false := by
  unfold ctAt at h
  have h1 := List.mem_range.1 (List.mem_of_find?_eq_some h)
  refine ⟨by omega, List.find?_some h, fun j hj => ?_⟩
  obtain ⟨_, la, lb, e, hno⟩ := List.find?_eq_some_iff_append.1 h
  have hlen : la.length = i := by
    have : (List.range (s.size + 1 - sep.size))[la.length]? = some i := by rw [e]; simp
    rw [List.getElem?_range (by have := congrArg List.length e; simp at this; omega)] at this
    exact Option.some.inj this
  have hjm : j ∈ la := by
    have h2 : la = (List.range (s.size + 1 - sep.size)).take i := by rw [e, ← hlen, List.take_left]
    rw [h2]
    rw [List.mem_iff_getElem?]
    exact ⟨j, by rw [List.getElem?_take, if_pos hj, List.getElem?_range (by omega)]⟩
  simpa using hno j hjm
theorem ct_none {s sep : ByteArray} (h : ctAt s sep = none) {j : Nat} (hj : j + sep.size ≤ s.size) : occ s sep j = false := by
  unfold ctAt at h
  have := List.find?_eq_none.1 h j (List.mem_range.2 (by omega))
  simpa using this
def ctA (s sep : ByteArray) : ByteArray := match ctAt s sep with | none => s | some i => s.extract 0 i
def ctR (s sep : ByteArray) : ByteArray := match ctAt s sep with | none => { data := #[] } | some i => s.extract (i + sep.size) s.size
def ctK (s sep : ByteArray) : Bool := (ctAt s sep).isSome

theorem ct_first {s sep : ByteArray} {i : Nat} (h1 : i + sep.size ≤ s.size) (h2 : occ s sep i = true) (h3 : ∀ j, j < i → occ s sep j = false) : ctAt s sep = some i := by
  cases h : ctAt s sep with
  | none => rw [ct_none h h1] at h2; cases h2
  | some k =>
    obtain ⟨a, b, c⟩ := ct_some h
    rcases Nat.lt_trichotomy i k with g | g | g
    · rw [c i g] at h2; cases h2
    · rw [g]
    · rw [h3 k g] at b; cases b

theorem tx_one_size (x : Int) : (tx [x]).size = (enc x).length := by rw [tx_size]; simp [encs]
theorem bs_tx_one (x : Int) : bs (tx [x]) = enc x := by rw [bs_tx]; simp [encs]
/-- At the first place of a character. -/
theorem ct_tx (p r : List Int) (x : Int) (hp : ∀ c ∈ p, validRune c = true) (hx : validRune x = true) (hn : x ∉ p) : ctAt (tx (p ++ x :: r)) (tx [x]) = some (encs p).length := by
  have hb : bs (tx (p ++ x :: r)) = encs p ++ (enc x ++ encs r) := by rw [bs_tx, encs_append, encs_cons]
  refine ct_first ?_ ?_ ?_
  · rw [← bs_len (tx (p ++ x :: r)), hb, tx_one_size, List.length_append, List.length_append]; omega
  · rw [occ_iff, hb, List.drop_left, tx_one_size, List.take_left, bs_tx_one]
  · intro j hj
    cases h : occ (tx (p ++ x :: r)) (tx [x]) j with
    | false => rfl
    | true =>
      rw [occ_iff, hb, tx_one_size, bs_tx_one] at h
      obtain ⟨q, r', e, _⟩ := no_code x hx p _ j hp hj h
      exact absurd (by rw [e]; simp) hn
theorem ct_tx_no (p : List Int) (x : Int) (hp : ∀ c ∈ p, validRune c = true) (hx : validRune x = true) (hn : x ∉ p) : ctAt (tx p) (tx [x]) = none := by
  cases h : ctAt (tx p) (tx [x]) with
  | none => rfl
  | some i =>
    obtain ⟨h1, h2, _⟩ := ct_some h
    rw [tx_one_size, tx_size] at h1
    rw [occ_iff, tx_one_size, bs_tx_one, bs_tx] at h2
    have hl := enc_len x hx
    have := no_code x hx p [] i hp (by omega) (by rw [List.append_nil]; exact h2)
    obtain ⟨q, r', e, _⟩ := this
    exact absurd (by rw [e]; simp) hn
theorem cut_tx (p r : List Int) (x : Int) (hp : ∀ c ∈ p, validRune c = true) (hx : validRune x = true) (hn : x ∉ p) :
    ctA (tx (p ++ x :: r)) (tx [x]) = tx p ∧ ctR (tx (p ++ x :: r)) (tx [x]) = tx r ∧ ctK (tx (p ++ x :: r)) (tx [x]) = true := by
  have h := ct_tx p r x hp hx hn
  unfold ctA ctR ctK
  rw [h]
  refine ⟨?_, ?_, rfl⟩
  · have := tx_extract [] p (x :: r)
    simpa [encs] using this
  · have := tx_extract (p ++ [x]) r []
    simp only [List.append_nil, List.append_assoc, List.singleton_append] at this
    rw [← this]
    show (tx (p ++ x :: r)).extract ((encs p).length + (tx [x]).size) (tx (p ++ x :: r)).size = _
    congr 1
    · rw [encs_append, List.length_append, tx_one_size]; simp [encs]
theorem cut_tx_no (p : List Int) (x : Int) (hp : ∀ c ∈ p, validRune c = true) (hx : validRune x = true) (hn : x ∉ p) :
    ctA (tx p) (tx [x]) = tx p ∧ ctR (tx p) (tx [x]) = { data := #[] } ∧ ctK (tx p) (tx [x]) = false := by
  have h := ct_tx_no p x hp hx hn
  unfold ctA ctR ctK
  rw [h]
  exact ⟨rfl, rfl, rfl⟩

theorem ctA_size (s sep : ByteArray) : (ctA s sep).size ≤ s.size := by
  unfold ctA; split
  · exact Nat.le_refl _
  · rw [ByteArray.size_extract]; omega
theorem ctR_size (s sep : ByteArray) : (ctR s sep).size ≤ s.size := by
  unfold ctR; split
  · exact Nat.zero_le _
  · rw [ByteArray.size_extract]; omega

theorem rcut_at (s sep : ByteArray) (hs : s.size ≤ 1048576) (hp : sep.size ≤ 100) (w : World) :
    Calls Tryz.prog 16 #[.string s, .string sep] w fun e w' => e = .returned (.tuple #[.string (ctA s sep), .string (ctR s sep), .bool (ctK s sep)]) ∧ Below w.heap.size w w' := by
  cases h : ctAt s sep with
  | none =>
    have hA : ctA s sep = s := by unfold ctA; rw [h]
    have hR : ctR s sep = { data := #[] } := by unfold ctR; rw [h]
    have hK : ctK s sep = false := by unfold ctK; rw [h]; rfl
    rw [hA, hR, hK]
    have HO := Lib.hid (fun j (hj : j + sep.size ≤ s.size) => ct_none h hj)
    clear h hA hR hK
    go_enter Tryz.func16, Tryz.ntmps16
    go_wp2
    go_loopw [7] (fun iv wr => ∃ k : Nat, iv = .int .i64 k ∧ k ≤ s.size + 1 ∧ Below w.heap.size w wr) (fun iv _ => s.size + 1 - (intOf iv).toNat)
    case atStart => exact ⟨0, rfl, Nat.zero_le _, Below.refl _ _⟩
    case round =>
      obtain ⟨k, rfl, hk, hb⟩ := hrel
      by_cases hle : k + sep.size ≤ s.size
      · have ho := HO.out k hle
        unfold occ at ho
        go_wp2
        go_roundw
        case rel => exact ⟨k + 1, by go_num, by omega, hb⟩
        case measure => simp [intOf]; omega
      · go_wp2
        (try simp only [Exit.inBlock, Exit.then]); refine bodyPost_ret (results_tmp3' rfl _ _ _) rfl ?_
        exact ⟨rfl, hb⟩
  | some i =>
    have hA : ctA s sep = s.extract 0 i := by unfold ctA; rw [h]
    have hR : ctR s sep = s.extract (i + sep.size) s.size := by unfold ctR; rw [h]
    have hK : ctK s sep = true := by unfold ctK; rw [h]; rfl
    rw [hA, hR, hK]
    obtain ⟨h1, h2, h3⟩ := ct_some h
    have HO := Lib.hid h3
    have H2 := Lib.hid h2
    clear h hA hR hK h2 h3
    go_enter Tryz.func16, Tryz.ntmps16
    go_wp2
    go_loopw [7] (fun iv wr => ∃ k : Nat, iv = .int .i64 k ∧ k ≤ i ∧ Below w.heap.size w wr) (fun iv _ => i + 1 - (intOf iv).toNat)
    case atStart => exact ⟨0, rfl, Nat.zero_le _, Below.refl _ _⟩
    case round =>
      obtain ⟨k, rfl, hk, hb⟩ := hrel
      by_cases hlt : k < i
      · have ho := HO.out k hlt
        unfold occ at ho
        go_wp2
        go_roundw
        case rel => exact ⟨k + 1, by go_num, by omega, hb⟩
        case measure => simp [intOf]; omega
      · obtain rfl : k = i := by omega
        have ho := H2.out
        unfold occ at ho
        have g0 : (0 : Int) ≤ k := by omega
        have g1 : (k : Int) ≤ s.size := by omega
        have g2 : (k : Int) + sep.size ≤ s.size := by omega
        have g3 : k ≤ s.size := by omega
        go_wp2
        go_quiet (fail)
        go_wp2
        (try simp only [Exit.inBlock, Exit.then]); refine bodyPost_ret (results_tmp3' rfl _ _ _) rfl ?_
        exact ⟨rfl, below_drews hb _⟩

end Go.Proofs.YteelmjmiankflaaGreatDoor.Cal

set_option linter.unusedVariables false
set_option linter.unusedSimpArgs false
namespace Go.Proofs.YteelmjmiankflaaGreatDoor.Num
open Go Go.RowKit Go.Proofs.YteelmjmiankflaaGreatDoor.Kit Go.Proofs.YteelmjmiankflaaGreatDoor.Utf

/-- The digit that a character is, in ASCII or full-width. -/
def wd (c : Int) : Option Nat := if 48 ≤ c ∧ c ≤ 57 then some (c - 48).toNat else if 65296 ≤ c ∧ c ≤ 65305 then some (c - 65296).toNat else none
def readW : List Int → Option (List Nat)
  | [] => some []
  | c :: cs => match wd c with
    | none => none
    | some d => (readW cs).map (d :: ·)
theorem wd_le {c : Int} {d : Nat} (h : wd c = some d) : d ≤ 9 := by
  unfold wd at h
  split at h
  · have := Option.some.inj h; omega
  · split at h
    · have := Option.some.inj h; omega
    · cases h
theorem readW_snoc {pre : List Int} {ds : List Nat} {c : Int} {d : Nat} (h : readW pre = some ds) (hd : wd c = some d) : readW (pre ++ [c]) = some (ds ++ [d]) := by
  induction pre generalizing ds with
  | nil =>
    obtain rfl : [] = ds := Option.some.inj h
    simp [readW, hd]
  | cons a pre ih =>
    simp only [List.cons_append, readW] at h ⊢
    cases ha : wd a with
    | none => rw [ha] at h; cases h
    | some x =>
      rw [ha] at h
      simp only at h ⊢
      cases hp : readW pre with
      | none => rw [hp] at h; cases h
      | some y =>
        rw [hp] at h
        obtain rfl : x :: y = ds := Option.some.inj h
        rw [ih hp]; rfl
theorem readW_none {pre : List Int} {c : Int} (t : List Int) (hd : wd c = none) : readW (pre ++ c :: t) = none := by
  induction pre with
  | nil => simp [readW, hd]
  | cons a pre ih =>
    simp only [List.cons_append, readW]
    cases wd a with
    | none => rfl
    | some x => simp only [ih]; rfl
theorem readW_len {pre : List Int} {ds : List Nat} (h : readW pre = some ds) : ds.length = pre.length := by
  induction pre generalizing ds with
  | nil => obtain rfl : [] = ds := Option.some.inj h; rfl
  | cons a pre ih =>
    simp only [readW] at h
    cases ha : wd a with
    | none => rw [ha] at h; cases h
    | some x =>
      rw [ha] at h
      simp only at h
      cases hp : readW pre with
      | none => rw [hp] at h; cases h
      | some y =>
        rw [hp] at h
        obtain rfl : x :: y = ds := Option.some.inj h
        simp [ih hp]
theorem wd_mark : wd 65533 = none := by decide

theorem rune_digit (d : Nat) (h : d ≤ 9) : Lib.runeCells (48 + (d : Int)) = [.int .u8 (48 + d : Int)] := by
  have : ∀ d : Nat, d ≤ 9 → Lib.runeCells (48 + (d : Int)) = [.int .u8 (48 + d : Int)] := by
    intro d hd
    have : d = 0 ∨ d = 1 ∨ d = 2 ∨ d = 3 ∨ d = 4 ∨ d = 5 ∨ d = 6 ∨ d = 7 ∨ d = 8 ∨ d = 9 := by omega
    rcases this with rfl | rfl | rfl | rfl | rfl | rfl | rfl | rfl | rfl | rfl <;> rfl
  exact this d h
theorem dg_rune (ds : List Nat) (d : Nat) (h : d ≤ 9) : Lib.byteCells (bs (dg ds)) ++ Lib.runeCells (48 + (d : Int)) = Lib.byteCells (bs (dg (ds ++ [d]))) := by
  rw [bs_dg (ds ++ [d]), List.map_append, byteCells_append, ← bs_dg, rune_digit d h]
  show _ ++ [_] = _ ++ [Value.int .u8 ((UInt8.ofNat (48 + d)).toNat : Int)]
  rw [toNat_ofNat _ (by omega)]; rfl

end Go.Proofs.YteelmjmiankflaaGreatDoor.Num

set_option linter.unusedVariables false
set_option linter.unusedSimpArgs false
namespace Go.Proofs.YteelmjmiankflaaGreatDoor.Num
open Go Go.RowKit Go.Proofs.YteelmjmiankflaaGreatDoor.Kit Go.Proofs.YteelmjmiankflaaGreatDoor.Utf

theorem drop_ofNat {s : ByteArray} {p n : Nat} (hp : p < s.size) (h : (s[p]'hp).toNat = n) : (bs s).drop p = UInt8.ofNat n :: (bs s).drop (p + 1) := by
  have e := bs_get hp
  rw [List.getElem?_eq_getElem (by rw [bs_len]; exact hp)] at e
  rw [List.drop_eq_getElem_cons (by rw [bs_len]; exact hp), Option.some.inj e, ← h, UInt8.ofNat_toNat]
theorem dec_asc {s : ByteArray} {p d : Nat} (hp : p < s.size) (h : (s[p]'hp).toNat = 48 + d) (hd : d ≤ 9) : dec1 ((bs s).drop p) = some (48 + (d : Int), 1) := by
  rw [drop_ofNat hp h]
  have := dec1_enc (48 + (d : Int)) ((valid_iff _).2 (by omega)) ((bs s).drop (p + 1))
  rw [dg_enc d hd] at this
  exact this
theorem enc_wide (d : Nat) (h : d ≤ 9) : enc (65296 + (d : Int)) = [239, 188, UInt8.ofNat (144 + d)] := by
  have : ∀ d : Nat, d ≤ 9 → enc (65296 + (d : Int)) = [239, 188, UInt8.ofNat (144 + d)] := by decide
  exact this d h
theorem dec_wide {s : ByteArray} {p d : Nat} (h3 : p + 3 ≤ s.size) (h0 : (s[p]'(by omega)).toNat = 239) (h1 : (s[p + 1]'(by omega)).toNat = 188) (h2 : (s[p + 2]'(by omega)).toNat = 144 + d) (hd : d ≤ 9) : dec1 ((bs s).drop p) = some (65296 + (d : Int), 3) := by
  rw [drop_ofNat _ h0, drop_ofNat _ h1, drop_ofNat _ h2]
  have := dec1_enc (65296 + (d : Int)) ((valid_iff _).2 (by omega)) ((bs s).drop (p + 2 + 1))
  rw [enc_wide d hd] at this
  exact this
theorem narrow_bad {s : ByteArray} {p : Nat} {pre : List Int} (hp : p < s.size) (hch : chars (bs s) = (chars ((bs s).drop p)).map (pre ++ ·)) (hA : ¬ (48 ≤ (s[p]'hp).toNat ∧ (s[p]'hp).toNat ≤ 57))
    (hB : ∀ h3 : p + 3 ≤ s.size, ¬ ((s[p]'hp).toNat = 239 ∧ (s[p + 1]'(by omega)).toNat = 188 ∧ 144 ≤ (s[p + 2]'(by omega)).toNat ∧ (s[p + 2]'(by omega)).toNat ≤ 153)) : rdOut readW s = { data := #[] } := by
  refine rdOut_bad fun cs hcs => ?_
  rw [hch] at hcs
  cases ht : chars ((bs s).drop p) with
  | none => rw [ht] at hcs; cases hcs
  | some t =>
    rw [ht] at hcs
    obtain rfl : pre ++ t = cs := Option.some.inj hcs
    obtain ⟨hv, hl⟩ := chars_some ht
    cases t with
    | nil => exact absurd hl (drop_ne hp)
    | cons x t =>
      have hat : ∀ k, (bs s)[p + k]? = (encs (x :: t))[k]? := fun k => by rw [← hl, List.getElem?_drop]
      refine readW_none t ?_
      unfold wd
      rw [if_neg, if_neg]
      · rintro ⟨x1, x2⟩
        obtain ⟨d, rfl⟩ : ∃ d : Nat, x = 65296 + (d : Int) := ⟨(x - 65296).toNat, by omega⟩
        have hd : d ≤ 9 := by omega
        rw [encs_cons, enc_wide d hd] at hl hat
        have hlen := congrArg List.length hl
        rw [List.length_drop, bs_len] at hlen
        simp only [List.length_append, List.length_cons] at hlen
        have h3 : p + 3 ≤ s.size := by omega
        have e0 := hat 0
        have e1 := hat 1
        have e2 := hat 2
        rw [bs_get (show p + 0 < s.size by omega)] at e0
        rw [bs_get (show p + 1 < s.size by omega)] at e1
        rw [bs_get (show p + 2 < s.size by omega)] at e2
        have e0' : s[p]'hp = 239 := Option.some.inj e0
        have e1' : s[p + 1]'(by omega) = 188 := Option.some.inj e1
        have e2' : s[p + 2]'(by omega) = UInt8.ofNat (144 + d) := Option.some.inj e2
        refine hB h3 ⟨by rw [e0']; rfl, by rw [e1']; rfl, ?_, ?_⟩
        · rw [e2', toNat_ofNat _ (by omega)]; omega
        · rw [e2', toNat_ofNat _ (by omega)]; omega
      · rintro ⟨x1, x2⟩
        obtain ⟨d, rfl⟩ : ∃ d : Nat, x = 48 + (d : Int) := ⟨(x - 48).toNat, by omega⟩
        have hd : d ≤ 9 := by omega
        rw [encs_cons, dg_enc d hd] at hat
        have e0 := hat 0
        rw [bs_get (show p + 0 < s.size by omega)] at e0
        have e0' : s[p]'hp = UInt8.ofNat (48 + d) := Option.some.inj e0
        refine hA ⟨?_, ?_⟩
        · rw [e0', toNat_ofNat _ (by omega)]; omega
        · rw [e0', toNat_ofNat _ (by omega)]; omega
theorem cut_one {s : ByteArray} {p d : Nat} (hp : p < s.size) (h : (s[p]'hp).toNat = 48 + d) : s.extract p (p + 1) = dg [d] := by
  apply ba_ext
  rw [Lib.extract_data]
  show ((bs s).drop p).take (p + 1 - p) = bs (dg [d])
  rw [drop_ofNat hp h, show p + 1 - p = 1 by omega, bs_dg]; rfl
theorem readW_le : ∀ {cs : List Int} {ds : List Nat}, readW cs = some ds → ∀ d ∈ ds, d ≤ 9 := by
  intro cs
  induction cs with
  | nil => intro ds h d hd; obtain rfl : [] = ds := Option.some.inj h; simp at hd
  | cons c cs ih =>
    intro ds h d hd
    simp only [readW] at h
    cases ha : wd c with
    | none => rw [ha] at h; cases h
    | some x =>
      rw [ha] at h
      simp only at h
      cases hp : readW cs with
      | none => rw [hp] at h; cases h
      | some y =>
        rw [hp] at h
        obtain rfl : x :: y = ds := Option.some.inj h
        rcases List.mem_cons.1 hd with rfl | hd
        · exact wd_le ha
        · exact ih hp d hd

end Go.Proofs.YteelmjmiankflaaGreatDoor.Num
