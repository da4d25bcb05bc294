/-
  Contracts of the reference's feed, Run, Step and Flush; of the statements' Given.
-/
import Derived.Test.YtmbccolkgephgaaAutRf
import Derived.Test.YtmbccolkgephgaaRomE
import Derived.Deep.RegionLaw
set_option linter.unusedVariables false
set_option linter.unusedSimpArgs false
set_option maxRecDepth 100000
namespace Go.Proofs.Ytmbccolkgephgaa.Aut
open Go Go.RowKit Go.Proofs.Ytmbccolkgephgaa.Kit Go.Proofs.Ytmbccolkgephgaa.Utf Go.Proofs.Ytmbccolkgephgaa.Rom

theorem feed_meas {p k : Nat} {p' k' : Nat} (h : (p' + k' = p + k ∧ k' < k) ∨ (p' + k' < p + k)) : (p' + k') * (p' + k' + 1) + k' < (p + k) * (p + k + 1) + k := by
  rcases h with ⟨h1, h2⟩ | h
  · rw [h1]; omega
  · have h1 : (p' + k') * (p' + k' + 1) + (p' + k') ≤ (p + k) * (p + k + 1) := by
      obtain ⟨T, hT⟩ : ∃ T, p + k = T + 1 := ⟨p + k - 1, by omega⟩
      have h2 : p' + k' ≤ T := by omega
      have h3 : (p' + k') * (p' + k' + 1) ≤ T * (T + 1) := Nat.mul_le_mul h2 (by omega)
      rw [hT]
      have h4 : (T + 1) * (T + 1 + 1) = T * (T + 1) + (T + 1) + (T + 1) := by
        rw [Nat.add_mul, Nat.one_mul, Nat.mul_add T (T + 1) 1, Nat.mul_one]; omega
      omega
    have h5 : k' ≤ p' + k' := by omega
    by_cases hk : k = 0
    · subst hk
      by_cases hk' : p' + k' = 0
      · have : k' = 0 := by omega
        subst this
        have : p' = 0 := by omega
        subst this
        have : 0 < p := by omega
        simp
        exact this
      · have : k' < p' + k' ∨ p' = 0 := by omega
        rcases this with h6 | h6
        · omega
        · subst h6
          obtain ⟨T, hT⟩ : ∃ T, p + 0 = T + 1 := ⟨p - 1, by omega⟩
          have h2 : 0 + k' ≤ T := by omega
          have h3 : (0 + k') * (0 + k' + 1) ≤ T * (T + 1) := Nat.mul_le_mul h2 (by omega)
          have h4 : (T + 1) * (T + 1 + 1) = T * (T + 1) + (T + 1) + (T + 1) := by
            rw [Nat.add_mul, Nat.one_mul, Nat.mul_add T (T + 1) 1, Nat.mul_one]; omega
          rw [hT]
          omega
    · omega
/-- The measure of feeding, of the slots of pending and keys. -/
def fmeas (a b : Value) : Nat := (strLen a + strLen b) * (strLen a + strLen b + 1) + strLen b

set_option maxHeartbeats 8000000 in
theorem rfeed_any (v : Value) (rs : List Rule) (p ks : ByteArray) (w : World) (hR : RowR w v rs) (hok : okL rs = true) (hsh : ∀ r ∈ rs, Short r) (hs : p.size + ks.size ≤ 60000) :
    Calls Try.prog 35 #[v, .string p, .string ks] w fun e w' => e = .returned (.tuple #[.string (ba (fd rs (bs p) (bs ks)).1), .string (ba (fd rs (bs p) (bs ks)).2)]) ∧ Below w.heap.size w w' := by
  have HR := Lib.hid hR
  have HLG : Hid (∀ (x : ByteArray) W, Below w.heap.size w W → x.size ≤ 1048576 → Calls Try.prog 52 #[v, .string x] W fun e w' => e = .returned (.bool (longL rs x)) ∧ w' = W) := Lib.hid fun x W hW hx => rlonger_any v rs x W (HR.out.later hW (Nat.le_refl _)) hx hsh
  have HAP : Hid (∀ (x : ByteArray) W, Below w.heap.size w W → x.size ≤ 1000000 → 0 < x.size → Calls Try.prog 39 #[v, .string x] W fun e w' => e = .returned (.tuple #[.string (ba (appO rs (bs x))), .string (ba (appK rs (bs x)))]) ∧ Below W.heap.size W w') := Lib.hid fun x W hW hx h0 => rapply_any v rs x W (HR.out.later hW (Nat.le_refl _)) hx h0 hsh
  clear hR hsh
  go_enter Try.func35, Try.ntmps35
  go_wp2
  go_loopw [1, 2, 8] (fun vp vk vo wr => ∃ q k o : By, vp = .string (ba q) ∧ vk = .string (ba k) ∧ vo = .string (ba o) ∧ o.length + 16 * (q.length + k.length) ≤ 16 * (p.size + ks.size) ∧ Hid (∀ o2 q2, Feeds rs q k o2 q2 → Feeds rs (bs p) (bs ks) (o ++ o2) q2) ∧ Below w.heap.size w wr) (fun vp vk _ _ => fmeas vp vk)
  case atStart => exact ⟨bs p, bs ks, [], by rw [ba_bs], by rw [ba_bs], rfl, by rw [bs_len, bs_len]; simp, Lib.hid (fun o2 q2 h => h), Below.refl _ _⟩
  case round =>
    obtain ⟨q, k, o, rfl, rfl, rfl, hl, hf, hbw⟩ := hrel
    have hws := hbw.size
    cases k with
    | nil =>
      have he : (ba []).toList.isEmpty = true := by rw [Lib.toList_data]; rfl
      have hfin := Lib.hid (hf.out [] q (.nil q)).fd
      rw [List.append_nil] at hfin
      go_wp2
      go_ret2
      exact ⟨by rw [hfin.out]; rfl, hbw⟩
    | cons c k =>
      have he : (ba (c :: k)).toList.isEmpty = false := by rw [Lib.toList_data]; rfl
      rw [List.length_cons] at hl
      have hqs : (ba q).size = q.length := ba_size _
      have hcs : (ba (c :: k)).size = k.length + 1 := by rw [ba_size]; rfl
      have x1 : (ba (c :: k)).extract 0 1 = ba [c] := by rw [ext_take, bs_ba]; rfl
      have x2 : (ba (c :: k)).extract 1 (k.length + 1) = ba k := by rw [← hcs, ext_drop, bs_ba]; rfl
      have hS : ba q ++ (ba (c :: k)).extract 0 1 = ba (q ++ [c]) := by rw [x1, ba_app]
      have hSz : (ba q ++ (ba (c :: k)).extract 0 1).size = q.length + 1 := by rw [hS, ba_size]; simp
      have hez : ((ba (c :: k)).extract 0 1).size = 1 := by rw [x1, ba_size]; rfl
      have hsum : ¬ 9223372036854775807 < (ba q).size + ((ba (c :: k)).extract 0 1).size := by omega
      have n1 : (1 : Int) ≤ (ba (c :: k)).size := by omega
      have HL := Lib.hid (HLG.out (ba q ++ (ba (c :: k)).extract 0 1) wr hbw (by omega))
      have HA := Lib.hid (HAP.out (ba q ++ (ba (c :: k)).extract 0 1) wr hbw (by omega) (by omega))
      rw [hS, bs_ba] at HA
      rw [← hS] at HA
      obtain ⟨lg, hlg⟩ : ∃ lg, longL rs (ba q ++ (ba (c :: k)).extract 0 1) = lg := ⟨_, rfl⟩
      rw [hlg] at HL
      have hlg2 : longL rs (ba (q ++ [c])) = lg := by rw [← hS]; exact hlg
      have HS := Lib.hid hS
      have X2 := Lib.hid x2
      have HG := Lib.hid hlg2
      clear hlg hlg2 hS hSz x1 x2
      cases lg
      · have hao := appO_len hok (rs := rs) (q ++ [c])
        have hak := appK_len hok (rs := rs) (s := q ++ [c]) (by simp)
        rw [List.length_append, List.length_singleton] at hak
        have hos : (ba o).size = o.length := ba_size _
        have has : (ba (appO rs (q ++ [c]))).size = (appO rs (q ++ [c])).length := ba_size _
        have hks : (ba (appK rs (q ++ [c]))).size = (appK rs (q ++ [c])).length := ba_size _
        have hx2s : ((ba (c :: k)).extract 1 (k.length + 1)).size = k.length := by rw [X2.out, ba_size]
        have hsum2 : ¬ 9223372036854775807 < (ba o).size + (ba (appO rs (q ++ [c]))).size := by omega
        have hsum3 : ¬ 9223372036854775807 < (ba (appK rs (q ++ [c]))).size + ((ba (c :: k)).extract 1 (k.length + 1)).size := by omega
        go_wp2_with (first
          | (go_at_call 52; (with_reducible refine HL.out.mono ?_); rintro e w1 ⟨rfl, hw1⟩; obtain rfl := hw1.symm)
          | (go_at_call 39; (with_reducible refine HA.out.mono ?_); rintro e w2 ⟨rfl, hb2⟩))
        go_roundw
        case rel =>
          refine ⟨[], appK rs (q ++ [c]) ++ k, o ++ appO rs (q ++ [c]), rfl, by rw [X2.out, ba_app], by rw [ba_app], ?_, ?_, hbw.trans (hb2.mono hws)⟩
          · simp only [List.length_append, List.length_nil]; omega
          · refine Lib.hid fun o2 q2 h => ?_
            rw [List.append_assoc]
            exact hf.out _ _ (.app HG.out h)
        case measure =>
          unfold fmeas
          rw [strLen_mk, strLen_mk, strLen_mk, strLen_mk]
          refine feed_meas (.inr ?_)
          rw [ByteArray.size_append, hx2s, hks, hqs, hcs]
          show (0 + _ : Nat) < _
          omega
      · go_wp2_with (go_at_call 52; (with_reducible refine HL.out.mono ?_); rintro e w1 ⟨rfl, hw1⟩; obtain rfl := hw1.symm)
        go_roundw
        case rel =>
          refine ⟨q ++ [c], k, o, by rw [HS.out], by rw [X2.out], rfl, ?_, ?_, hbw⟩
          · rw [List.length_append, List.length_singleton]; omega
          · exact Lib.hid fun o2 q2 h => hf.out _ _ (.wait HG.out h)
        case measure =>
          unfold fmeas
          rw [strLen_mk, strLen_mk, strLen_mk, strLen_mk]
          refine feed_meas (.inl ?_)
          rw [HS.out, X2.out, ba_size, ba_size, ba_size, ba_size, List.length_append]
          simp only [List.length_cons, List.length_nil]
          omega

theorem gvn6_any (v : Value) (rs : List Rule) (w : World) (hR : RowR w v rs) (hn : rs.length ≤ 1000000) :
    Calls Try.prog 17 #[v] w fun e w' => ∃ v', e = .returned v' ∧ w'.ownsRow w.heap.size 56 3 v' rs.length (rc rs) ∧ Below w.heap.size w w' := by
  obtain ⟨i0, hi0, hz0, hz1, hz2⟩ := info_parts info_rrule
  obtain ⟨a, len, cap, rfl, hlen, hcap, hmax, _⟩ := id hR
  subst hlen
  have HR := Lib.hid hR
  clear hR
  go_enter Try.func17, Try.ntmps17
  go_wp2
  go_loopw [4, 3] (fun i out wr => ∃ k : Nat, i = .int .i64 k ∧ k ≤ rs.length ∧ wr.ownsRow w.heap.size 56 3 out k (rc (rs.take k)) ∧ Below w.heap.size w wr) (fun i _ _ => rs.length - (intOf i).toNat)
  case atStart => exact ⟨0, rfl, Nat.zero_le _, World.ownsRow_nil _ _ _ _, Below.refl _ _⟩
  case round =>
    obtain ⟨k, rfl, hk, hown, hbw⟩ := hrel
    by_cases hkl : k < rs.length
    · obtain ⟨b, off, rfl, hb, hx⟩ := HR.out.at (by omega)
      obtain ⟨x0, x1, x2⟩ := hx k hkl
      rw [← hbw.cell (p := ⟨b, _, none⟩) hb] at x0 x1 x2
      have hsn := Lib.hid (rc_snoc (rs.take k) (ri rs k))
      have hts := Lib.hid (take_succ_ri rs k hkl)
      have hxl : (rc (rs.take k)).length = k * 3 := by rw [rc_len, len_take hk]
      generalize ri rs k = r at x0 x1 x2 hsn hts
      obtain ⟨rk, ro, rn⟩ := r
      simp only at x0 x1 x2
      have k0 : (0 : Int) ≤ k := by omega
      have k1 : (k : Int) < rs.length := by omega
      generalize rc (rs.take k) = xs at hown hsn hxl
      clear hx
      have hne : ∀ o : Value, wr.ownsRow w.heap.size 56 3 o k xs → o.ownBlock ≠ some b := by
        intro o ho e1
        rcases ho.2 with ⟨rfl, h0⟩ | ⟨g, c, cur, rfl, hbg, _⟩
        · simp [Value.ownBlock] at e1
        · simp [Value.ownBlock] at e1; omega
      have HNE := Lib.hid (hne _ hown)
      clear hne
      have hws := hbw.size
      go_wp2
      go_region_held3 (fun w' => w'.cell? ⟨b, off + k * 3, none⟩ = some (.string rk) ∧ w'.cell? ⟨b, off + k * 3 + 1, none⟩ = some (.string ro) ∧ w'.cell? ⟨b, off + k * 3 + 2, none⟩ = some (.string rn))
        (first
          | go_keep
          | (go_split_ands
             refine ⟨?_, ?_, ?_⟩
             · (rw [hgrow.cell_far _ (by simp; omega) (Ne.symm HNE.out)]; simp [*])
             · (rw [hgrow.cell_far _ (by simp; omega) (Ne.symm HNE.out)]; simp [*])
             · (rw [hgrow.cell_far _ (by simp; omega) (Ne.symm HNE.out)]; simp [*])))
        ((refine step_append_lies _ (by rfl) _ _ _ (by rfl) w.heap.size 56 i0 _ 3 48 Try.underlying29 hi0 hz0 hz1 hz2 rfl (by omega) _ k xs (by rfl) ((hown.alloc _).drew)
            ⟨wr.heap.size, 0, none⟩ 1 1 [.string rk, .string ro, .string rn] (by rfl) (by rfl) (World.news_of_block (cs := #[.string rk, .string ro, .string rn]) (t := 56) (fr := (0, 0)) (heap_alloc_new wr _)) (by simp [Value.oneCell'])
            (by omega) (by unfold maxLen; omega) (by omega) (by simp; omega) (wr.heap.size + 1) (by simp) ?_; intro gg cap1 w1 hown1 hgrow hat hlt))
      all_goals go_wp2
      all_goals exact ⟨⟨k + 1, by go_num, by omega, by rw [hts.out, hsn.out]; exact hown1, ((hbw.alloc hws _).drew).grown hgrow (by simp; omega) (fun j hj => (hown.lt j hj).1)⟩, by simp [intOf]; omega⟩
    · have e1 : k = rs.length := by omega
      subst e1
      rw [List.take_length] at hown
      go_wp2
      go_ret
      exact ⟨_, rfl, hown, hbw⟩


theorem rrun_any (v : Value) (rs : List Rule) (ks : ByteArray) (w : World) (hR : RowR w v rs) (hok : okL rs = true) (hsh : ∀ r ∈ rs, Short r) (hs : ks.size ≤ 50000) :
    Calls Try.prog 20 #[v, .string ks] w fun e w' => e = .returned (.tuple #[.string (ba (fd rs [] (keysOf (bs ks))).1), .string (ba (fd rs [] (keysOf (bs ks))).2)]) ∧ Below w.heap.size w w' := by
  have hkl := keysOf_le (bs ks)
  rw [bs_len] at hkl
  have HK := Lib.hid (fun W => rkeys_any ks W (by omega))
  have HF : Hid (∀ W, Below w.heap.size w W → Calls Try.prog 35 #[v, .string { data := #[] }, .string (ba (keysOf (bs ks)))] W fun e w' => e = .returned (.tuple #[.string (ba (fd rs [] (keysOf (bs ks))).1), .string (ba (fd rs [] (keysOf (bs ks))).2)]) ∧ Below W.heap.size W w') := Lib.hid fun W hW => by
    have h := rfeed_any v rs ⟨#[]⟩ (ba (keysOf (bs ks))) W (hR.later hW (Nat.le_refl _)) hok hsh (by rw [ba_size]; show 0 + _ ≤ _; omega)
    rw [bs_ba, bs_emp] at h
    exact h
  generalize ba (keysOf (bs ks)) = K at HK HF
  generalize ba (fd rs [] (keysOf (bs ks))).1 = O at *
  generalize ba (fd rs [] (keysOf (bs ks))).2 = Q at *
  clear hR hsh hkl
  go_enter Try.func20, Try.ntmps20
  go_wp2_with (first
    | (go_at_call 28; (with_reducible refine (HK.out _).mono ?_); rintro e w1 ⟨rfl, hb1⟩)
    | (go_at_call 35; (with_reducible refine (HF.out _ hb1).mono ?_); rintro e w2 ⟨rfl, hb2⟩))
  go_ret2
  exact ⟨rfl, hb1.trans (hb2.mono hb1.size)⟩

set_option maxHeartbeats 4000000 in
theorem rflush_any (v : Value) (rs : List Rule) (p : ByteArray) (w : World) (hR : RowR w v rs) (hok : okL rs = true) (hsh : ∀ r ∈ rs, Short r) (hs : p.size ≤ 50000) :
    Calls Try.prog 24 #[v, .string p] w fun e w' => ∃ F, e = .returned (.string (ba F)) ∧ Flushes rs (keysOf (bs p)) F ∧ Below w.heap.size w w' := by
  have HR := Lib.hid hR
  have hkl := keysOf_le (bs p)
  rw [bs_len] at hkl
  have HK := Lib.hid (fun W => rkeys_any p W (by omega))
  obtain ⟨K, hK⟩ : ∃ K, keysOf (bs p) = K := ⟨_, rfl⟩
  rw [hK] at HK hkl ⊢
  have HAP : Hid (∀ (x : ByteArray) W, Below w.heap.size w W → x.size ≤ 1000000 → 0 < x.size → Calls Try.prog 39 #[v, .string x] W fun e w' => e = .returned (.tuple #[.string (ba (appO rs (bs x))), .string (ba (appK rs (bs x)))]) ∧ Below W.heap.size W w') := Lib.hid fun x W hW hx h0 => rapply_any v rs x W (HR.out.later hW (Nat.le_refl _)) hx h0 hsh
  have HFD : Hid (∀ (k : By) W, Below w.heap.size w W → k.length ≤ 60000 → ∀ o q, Feeds rs [] k o q → Calls Try.prog 35 #[v, .string { data := #[] }, .string (ba k)] W fun e w' => e = .returned (.tuple #[.string (ba o), .string (ba q)]) ∧ Below W.heap.size W w') := Lib.hid fun k W hW hk o q hf => by
    have h := rfeed_any v rs ⟨#[]⟩ (ba k) W (HR.out.later hW (Nat.le_refl _)) hok hsh (by rw [ba_size]; show 0 + _ ≤ _; omega)
    rw [bs_ba, bs_emp, hf.fd] at h
    exact h
  clear hR hsh hK
  go_enter Try.func24, Try.ntmps24
  go_wp2_with (go_at_call 28; (with_reducible refine (HK.out _).mono ?_); rintro e w1 ⟨rfl, hb1⟩)
  go_loopw [6, 5] (fun v vo wr => ∃ (o q : By), v = .string (ba q) ∧ vo = .string (ba o) ∧ Hid (∀ F, Flushes rs q F → Flushes rs K (o ++ F)) ∧ o.length + 16 * q.length ≤ 16 * K.length ∧ Below w.heap.size w wr) (fun v _ _ => strLen v)
  case atStart => exact ⟨[], K, rfl, rfl, Lib.hid (fun F h => h), by simp, hb1⟩
  case round =>
    obtain ⟨o, q, rfl, rfl, hF, hl, hbr⟩ := hrel
    have hws := hbr.size
    cases q with
    | nil =>
      have he : (ba []).toList.isEmpty = true := by rw [Lib.toList_data]; rfl
      have hFl := Lib.hid (hF.out [] .nil)
      rw [List.append_nil] at hFl
      go_wp2
      go_ret
      exact ⟨o, rfl, hFl.out, hbr⟩
    | cons c q =>
      have hsz : (ba (c :: q)).size = q.length + 1 := by rw [ba_size]; rfl
      have hne2 : (ba (c :: q)).toList.isEmpty = false := by rw [Lib.toList_data]; rfl
      have hlk := appK_len hok (rs := rs) (s := c :: q) (by simp)
      have hlo := appO_len hok (rs := rs) (c :: q)
      rw [List.length_cons] at hl hlk
      have HA := Lib.hid (HAP.out (ba (c :: q)) wr hbr (by omega) (by omega))
      rw [bs_ba] at HA
      obtain ⟨o2, q2, hf2⟩ := feeds_ex hok [] (appK rs (c :: q))
      have hl2 := hf2.len hok
      rw [List.length_nil] at hl2
      have HF2 := Lib.hid (fun W hW => HFD.out (appK rs (c :: q)) W hW (by omega) o2 q2 hf2)
      have hos : (ba o).size = o.length := ba_size _
      have has : (ba (appO rs (c :: q))).size = (appO rs (c :: q)).length := ba_size _
      have ho2 : (ba o2).size = o2.length := ba_size _
      have hsm : (ba o ++ ba (appO rs (c :: q))).size = o.length + (appO rs (c :: q)).length := by rw [ByteArray.size_append, hos, has]
      have hsum1 : ¬ 9223372036854775807 < (ba o).size + (ba (appO rs (c :: q))).size := by omega
      have hsum2 : ¬ 9223372036854775807 < (ba o ++ ba (appO rs (c :: q))).size + (ba o2).size := by omega
      have HH := Lib.hid hF.out
      have HF3 := Lib.hid hf2
      have HLL := Lib.hid (And.intro hlo (And.intro hl2 hlk))
      clear hF hf2 hos has ho2 hsm hlo hl2 hlk
      go_wp2_with (first
        | (go_at_call 39; (with_reducible refine HA.out.mono ?_); rintro e w2 ⟨rfl, hb2⟩; have hbw2 := hbr.trans (hb2.mono hws))
        | (go_at_call 35; (with_reducible refine (HF2.out _ hbw2).mono ?_); rintro e w3 ⟨rfl, hb3⟩))
      obtain ⟨hlo, hl2, hlk⟩ := HLL.out
      go_roundw
      case rel =>
        refine ⟨o ++ (appO rs (c :: q) ++ o2), q2, rfl, by rw [ba_app, ba_app, ByteArray.append_assoc], Lib.hid fun F hF2 => ?_, ?_, hbw2.trans (hb3.mono hbw2.size)⟩
        · have := HH.out _ (Flushes.step (by simp) HF3.out hF2)
          simpa only [List.append_assoc] using this
        · simp only [List.length_append]; omega
      case measure => rw [strLen_mk, strLen_mk, hsz, ba_size]; omega

end Go.Proofs.Ytmbccolkgephgaa.Aut
