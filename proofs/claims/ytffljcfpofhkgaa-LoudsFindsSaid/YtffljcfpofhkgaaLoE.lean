/-
  Contract of Text.
-/
import Derived.Test.YtffljcfpofhkgaaLoMathE
set_option linter.unusedVariables false
set_option linter.unusedSimpArgs false
set_option maxRecDepth 100000
namespace Go.Proofs.Ytffljcfpofhkgaa.Lo
open Go Go.RowKit Go.Proofs.Ytffljcfpofhkgaa.Kit Go.Proofs.Ytffljcfpofhkgaa.Bv Go.Proofs.Ytffljcfpofhkgaa.Pk

/-- A string of bytes. -/
def ba (s : Str) : ByteArray := ⟨s.toArray⟩
theorem ba_size (s : Str) : (ba s).size = s.length := by simp [ba, ByteArray.size]
theorem ba_list (s : Str) : (ba s).data.toList = s := by simp [ba]

theorem nods_u64 {L : List Str} (hL : Ok L) (hN : (Gs L).length ≤ 524287) : U64 (nods L) := u64_of (B := 524287) (by decide) fun x hx => by
  unfold nods at hx
  obtain ⟨i, h1, rfl⟩ := List.mem_map.1 hx
  have := (ndx_is hL (List.mem_range.1 h1)).1
  omega
theorem spell_trie {B0 B1 : Nat} {L : List Str} {p : Nat} {w : World} (h : TrieAt B0 B1 w p L) (hL : Ok L) (hN : (Gs L).length ≤ 524287) (hB : B1 ≤ w.heap.size) (a : Option Addr) (c : Nat) (hR : Reads w (.slice a (labs L).length c) (u8s (labs L))) (k : Nat) (hk : k < (Gs L).length) :
    Calls Try.prog 48 #[.int .i64 (k : Int), .func (.func 49) #[.pointer (some ⟨p, 0, none⟩)] #[], .slice a (labs L).length c] w fun e w' => e = .returned (.string (ba (pre L k))) ∧ Below w.heap.size w w' := by
  have h1 := spell_any 49 #[.pointer (some ⟨p, 0, none⟩)] #[] (par L) (fun j => j < (Gs L).length) (labs L) a c k w hR (fun _ _ => by kernel_rfl) hk
    (fun j hj => by rw [labs_len hL]; omega)
    (fun j hj h0 => by obtain ⟨t, h1, _⟩ := par_in hL h0 hj; exact h1)
    (fun W hW j hj h0 => by
      obtain ⟨t, h1, h2, h3⟩ := par_in hL h0 hj
      have h4 := parent_any (h.below hW hB) hL hN (by have := hW.size; omega) h1 h2
      rw [← h3] at h4
      exact h4)
  rw [clm_pre hL 257 k hk (by have := (node_at hL hk).n256; omega)] at h1
  exact h1

set_option maxHeartbeats 2000000 in
theorem text_in {B0 B1 : Nat} {L : List Str} {p : Nat} {w : World} (h : TrieAt B0 B1 w p L) (hL : Ok L) (hN : (Gs L).length ≤ 524287) (hm : L.length ≤ 1048576) (hB : B1 ≤ w.heap.size) {i : Nat} (hi : i < L.length) :
    Calls Try.prog 27 #[.pointer (some ⟨p, 0, none⟩), .int .i64 (i : Int)] w fun e w' => e = .returned (.tuple #[.string (ba (sg L i)), .bool true]) ∧ Below w.heap.size w w' := by
  obtain ⟨ps, pe, pn, pd, a, c, hp, ⟨x0, x1, x2, x3, x4⟩, _, _, hR, _, hd⟩ := h.use
  obtain ⟨n1, n2, n3, n4⟩ := ndx_is hL hi
  have HG := Lib.hid (Pk.get_at hd hB (by rw [nods_len]; omega) (nods_u64 hL hN) (nods_get hi))
  have HS := Lib.hid (fun W (hW : Below w.heap.size w W) => spell_trie (h.below hW hB) hL hN (by have := hW.size; omega) a c (hR.later hW) (ndx L i) n1)
  rw [n4] at HS
  have HX := Lib.hid (fun W (hW : Below w.heap.size w W) => show W.cell? ⟨p, 2, none⟩ = some (.slice a (labs L).length c) by rw [hW.cell (p := ⟨p, 2, none⟩) (by show p < _; omega)]; exact x2)
  obtain ⟨k, hk⟩ : ∃ k, ndx L i = k := ⟨_, rfl⟩
  rw [hk] at HG HS n1
  obtain ⟨n, hn⟩ : ∃ n, (labs L).length = n := ⟨_, rfl⟩
  rw [hn] at HS HX
  have hwr : IntKind.i64.wrap (k : Int) = (k : Int) := by rw [IntKind.wrap_i64]; omega
  clear n1 n2 n3 n4 hk hn x0 x1 x2 x3 h hR hd hL hN hm hi
  go_enter Try.func27, Try.ntmps27
  go_wp2_with (first
    | (go_at_call 47; (with_reducible refine HG.out.mono ?_); rintro e w1 ⟨rfl, hb1⟩; have hx := HX.out _ hb1; have HS1 := Lib.hid (HS.out _ hb1))
    | (go_at_call 48; (with_reducible refine HS1.out.mono ?_); rintro e w2 ⟨rfl, hb2⟩; have hb3 := hb1.trans (hb2.mono hb1.size)))
  go_ret2
  exact ⟨rfl, hb3⟩
set_option maxHeartbeats 2000000 in
theorem text_out {B0 B1 : Nat} {L : List Str} {p : Nat} {w : World} (h : TrieAt B0 B1 w p L) (hL : Ok L) (hN : (Gs L).length ≤ 524287) (hB : B1 ≤ w.heap.size) {i : Int} (hi : i < 0 ∨ (L.length : Int) ≤ i) :
    Calls Try.prog 27 #[.pointer (some ⟨p, 0, none⟩), .int .i64 i] w fun e w' => e = .returned (.tuple #[.string (ba []), .bool false]) ∧ Below w.heap.size w w' := by
  obtain ⟨ps, pe, pn, pd, a, c, hp, ⟨x0, x1, x2, x3, x4⟩, _, _, hR, _, hd⟩ := h.use
  have HG := Lib.hid (Pk.get_out hd i (by rw [nods_len]; exact hi))
  have HS := spell_trie h hL hN hB a c hR 0 (gs_pos hL)
  rw [pre_zero hL, show ((0 : Nat) : Int) = 0 from rfl] at HS
  have HS := Lib.hid HS
  obtain ⟨n, hn⟩ : ∃ n, (labs L).length = n := ⟨_, rfl⟩
  rw [hn] at HS x2
  clear hn x0 x1 x3 h hR hd hL hN hi
  go_enter Try.func27, Try.ntmps27
  go_wp2_with (first
    | (go_at_call 47; (with_reducible refine HG.out.mono ?_); rintro e w1 ⟨rfl, rfl⟩)
    | (go_at_call 48; (with_reducible refine HS.out.mono ?_); rintro e w2 ⟨rfl, hb2⟩))
  go_ret2
  exact ⟨rfl, hb2⟩
theorem text_nil (i : Int) (w : World) :
    Calls Try.prog 27 #[.pointer none, .int .i64 i] w fun e w' => e = .returned (.tuple #[.string (ba []), .bool false]) ∧ w = w' := by
  go_enter Try.func27, Try.ntmps27
  go_wp2
  go_ret2
  exact ⟨rfl, rfl⟩
end Go.Proofs.Ytffljcfpofhkgaa.Lo
