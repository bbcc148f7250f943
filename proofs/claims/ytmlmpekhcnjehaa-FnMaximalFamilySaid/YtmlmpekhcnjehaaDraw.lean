/- Contracts of the draws: whatever the bytes are, a draw ends, and leaves what was there as it was. -/
import Derived.Test.YtmlmpekhcnjehaaRegBase
import Derived.Test.YtmlmpekhcnjehaaRegFrame
namespace Go.Proofs.Ytmlmpekhcnjehaa
open Go.RowKit

theorem IsBytes.below {w w' : World} {a : Option Addr} {len cap : Nat} {zs : List Int} (h : IsBytes w a len cap zs) (hb : Below w.heap.size w w') : IsBytes w' a len cap zs := by
  rcases h with h | ⟨x, hx, hl, hm, hz, hcell, hwz⟩
  · exact .inl h
  · exact .inr ⟨x, hx, hl, hm, hz, fun i hi => (hb.cell (World.block_lt_of_cell? _ _ (hcell i hi))).trans (hcell i hi), hwz⟩
/-- A reader of bytes: its block, its place p, the bytes zs (which lie in a block before its own). -/
def RdAt (w : World) (b p : Nat) (zs : List Int) : Prop :=
  b < w.heap.size ∧ w.frozen? ⟨b, 1, none⟩ = false ∧ w.cell? ⟨b, 1, none⟩ = some (.int .i64 p) ∧ zs.length ≤ 2000 ∧ (∀ z ∈ zs, 0 ≤ z ∧ z < 256) ∧
  ∃ a cap, w.cell? ⟨b, 0, none⟩ = some (.slice a zs.length cap) ∧
    (zs = [] ∨ ∃ blk off, a = some ⟨blk, off, none⟩ ∧ blk < b ∧ ∀ i, i < zs.length → w.cell? ⟨blk, off + i, none⟩ = some (.int .u8 (zs.getD i 0)))
theorem RdAt.kept {w w' : World} {b p : Nat} {zs : List Int} {row : Option Nat} (h : RdAt w b p zs) (hg : w.grownBy w' row) (hne : ∀ k, row = some k → b < k) : RdAt w' b p zs := by
  obtain ⟨h1, h2, h3, h4, h5, a, cap, h6, h7⟩ := h
  have hb : some b ≠ row := fun e => by have := hne b e.symm; omega
  refine ⟨Nat.lt_of_lt_of_le h1 hg.size, frozen_kept' h2 h1 hg hb, hg.cell h3 hb, h4, h5, a, cap, hg.cell h6 hb, ?_⟩
  rcases h7 with h7 | ⟨blk, off, ha, hlt, hc⟩
  · exact .inl h7
  · exact .inr ⟨blk, off, ha, hlt, fun i hi => hg.cell (hc i hi) (fun e => by have := hne blk e.symm; omega)⟩
theorem Below.grownBy' {w w' : World} (h : Below w.heap.size w w') : w.grownBy w' none := ⟨h.os, h.tape, h.output, h.size, fun k hk _ => h.block k hk⟩
theorem RdAt.below {w w' : World} {b p : Nat} {zs : List Int} (h : RdAt w b p zs) (hb : Below w.heap.size w w') : RdAt w' b p zs :=
  h.kept (Below.grownBy' hb) (fun k e => by cases e)
theorem RdAt.next {w : World} {b p : Nat} {zs : List Int} (h : RdAt w b p zs) :
    RdAt (w.setCell ⟨b, 1, none⟩ (.int .i64 ((p : Int) + 1))) b (p + 1) zs ∧ w.grownBy (w.setCell ⟨b, 1, none⟩ (.int .i64 ((p : Int) + 1))) (some b) := by
  obtain ⟨h1, h2, h3, h4, h5, a, cap, h6, h7⟩ := h
  refine ⟨⟨?_, ?_, ?_, h4, h5, a, cap, ?_, ?_⟩, ?_⟩
  · simp; omega
  · simp [World.frozen?_setCell, h2]
  · exact World.cell?_setCell_same' _ _ _ (by rw [h3]; rfl)
  · go_simp
  · rcases h7 with h7 | ⟨blk, off, ha, hlt, hc⟩
    · exact .inl h7
    · refine .inr ⟨blk, off, ha, hlt, fun i hi => ?_⟩
      have hne : blk ≠ b := by omega
      exact (World.cell?_of_block (a := ⟨blk, off + i, none⟩) (Below.heap_setCell _ _ _ _ hne)).trans (hc i hi)
  · exact ⟨rfl, rfl, rfl, by simp, fun k hk hne => Below.heap_setCell _ _ _ _ (fun e => hne (by rw [e]))⟩
/-- The sums of a draw behind the bytes' end, each by its own name. -/
theorem wrap_nat (a : Nat) (h : a ≤ 1000000000) : IntKind.i64.wrap (a : Int) = (a : Int) := IntWalk.i64_in _ (by omega)
theorem pick_facts (p L : Nat) (hp : p ≤ 1000000) (hl : 1 ≤ L) : ∃ A B I1 I2 D M3 : Nat,
    IntKind.i64.wrap ((p : Int) * 7) = A ∧ IntKind.i64.wrap ((A : Int) + 3) = B ∧ (p : Int) % (L : Int) = I1 ∧ (p : Int).tmod (L : Int) = I1 ∧ (B : Int) % (L : Int) = I2 ∧ (B : Int).tmod (L : Int) = I2 ∧ I1 < L ∧ I2 < L ∧
    IntKind.i64.wrap ((p : Int) / (L : Int)) = D ∧ IntKind.i64.wrap ((p : Int).tdiv (L : Int)) = D ∧ D ≤ 1000000 ∧ IntKind.i64.wrap ((p : Int) * 29) = M3 ∧ M3 ≤ 29000000 := by
  have h1 : p / L ≤ p := Nat.div_le_self p L
  refine ⟨p * 7, p * 7 + 3, p % L, (p * 7 + 3) % L, p / L, p * 29, ?_, ?_, ?_, ?_, ?_, ?_, Nat.mod_lt _ (by omega), Nat.mod_lt _ (by omega), ?_, ?_, by omega, ?_, by omega⟩
  · rw [show (p : Int) * 7 = ((p * 7 : Nat) : Int) by omega]; exact wrap_nat _ (by omega)
  · rw [show ((p * 7 : Nat) : Int) + 3 = ((p * 7 + 3 : Nat) : Int) by omega]; exact wrap_nat _ (by omega)
  · exact (Int.natCast_emod _ _).symm
  · rw [Int.tmod_eq_emod_of_nonneg (by omega)]; exact (Int.natCast_emod _ _).symm
  · exact (Int.natCast_emod _ _).symm
  · rw [Int.tmod_eq_emod_of_nonneg (by omega)]; exact (Int.natCast_emod _ _).symm
  · rw [← Int.natCast_ediv]; exact wrap_nat _ (by omega)
  · rw [Int.tdiv_eq_ediv_of_nonneg (by omega), ← Int.natCast_ediv]; exact wrap_nat _ (by omega)
  · rw [show (p : Int) * 29 = ((p * 29 : Nat) : Int) by omega]; exact wrap_nat _ (by omega)
theorem pick_sums (z1 z2 M3 D : Nat) (h1 : z1 < 256) (h2 : z2 < 256) (h3 : M3 ≤ 29000000) (h4 : D ≤ 1000000) : ∃ M1 M2 S1 S2 M4 X Y : Nat,
    IntKind.i64.wrap ((z1 : Int) * 131) = M1 ∧ IntKind.i64.wrap ((z2 : Int) * 1117) = M2 ∧ IntKind.i64.wrap ((M1 : Int) + (M2 : Int)) = S1 ∧ IntKind.i64.wrap ((S1 : Int) + (M3 : Int)) = S2 ∧
    IntKind.i64.wrap ((D : Int) * 53) = M4 ∧ IntKind.i64.wrap ((S2 : Int) + (M4 : Int)) = X ∧ X ≤ 1000000000 ∧ bits .xor .i64 (X : Int) ((X : Int) / 64) = Y := by
  obtain ⟨X, hX⟩ : ∃ X, z1 * 131 + z2 * 1117 + M3 + D * 53 = X := ⟨_, rfl⟩
  have hXb : X ≤ 1000000000 := by omega
  have hx := xor64 X (X / 64) (by omega) (by omega)
  rw [show ((X / 64 : Nat) : Int) = (X : Int) / 64 by omega] at hx
  refine ⟨z1 * 131, z2 * 1117, z1 * 131 + z2 * 1117, z1 * 131 + z2 * 1117 + M3, D * 53, X, X ^^^ X / 64, ?_, ?_, ?_, ?_, ?_, ?_, hXb, hx⟩
  · rw [show (z1 : Int) * 131 = ((z1 * 131 : Nat) : Int) by omega]; exact wrap_nat _ (by omega)
  · rw [show (z2 : Int) * 1117 = ((z2 * 1117 : Nat) : Int) by omega]; exact wrap_nat _ (by omega)
  · rw [← Int.natCast_add]; exact wrap_nat _ (by omega)
  · rw [← Int.natCast_add]; exact wrap_nat _ (by omega)
  · rw [show (D : Int) * 53 = ((D * 53 : Nat) : Int) by omega]; exact wrap_nat _ (by omega)
  · rw [← Int.natCast_add, hX]; exact wrap_nat _ (by omega)
/-- What a draw leaves: a number below n; the reader is one place further. -/
def PickPost (n b p : Nat) (zs : List Int) (w : World) (e : Ending) (w' : World) : Prop :=
  ∃ k : Nat, k < n ∧ e = .returned (.int .i64 k) ∧ RdAt w' b (p + 1) zs ∧ w.grownBy w' (some b)
set_option maxRecDepth 100000 in
theorem pick_nil (b p n : Nat) (w : World) (h : RdAt w b p []) (hp : p ≤ 1000000) (hn : 1 ≤ n) (hn2 : n ≤ 1000000) :
    Calls Try.prog 49 #[.pointer (some ⟨b, 0, none⟩), .int .i64 n] w (PickPost n b p [] w) := by
  obtain ⟨q1, q2⟩ := h.next
  obtain ⟨h1, h2, h3, h4, h5, a, cap, h6, h7⟩ := h
  go_enter Try.func49, Try.ntmps49
  go_wp2
  go_ret
  exact ⟨0, by omega, rfl, q1, q2⟩
set_option maxRecDepth 100000 in
theorem pick_first (b p n : Nat) (zs : List Int) (w : World) (h : RdAt w b p zs) (hp : p ≤ 1000000) (hn : 1 ≤ n) (hn2 : n ≤ 1000000) (hlt : p < zs.length) :
    Calls Try.prog 49 #[.pointer (some ⟨b, 0, none⟩), .int .i64 n] w (PickPost n b p zs w) := by
  obtain ⟨q1, q2⟩ := h.next
  obtain ⟨h1, h2, h3, h4, h5, a, cap, h6, h7⟩ := h
  obtain ⟨blk, off, rfl, hbk, hc⟩ : ∃ blk off, a = some ⟨blk, off, none⟩ ∧ blk < b ∧ ∀ i, i < zs.length → w.cell? ⟨blk, off + i, none⟩ = some (.int .u8 (zs.getD i 0)) := by
    rcases h7 with rfl | h7
    · simp at hlt
    · exact h7
  have hne : blk ≠ b := by omega
  have hcp := hc p hlt
  obtain ⟨z, hz⟩ : ∃ z, zs.getD p 0 = z := ⟨_, rfl⟩
  rw [hz] at hcp
  have hz2 : 0 ≤ z ∧ z < 256 := by
    rw [← hz, List.getD_eq_getElem?_getD, List.getElem?_eq_getElem hlt]
    exact h5 _ (List.getElem_mem hlt)
  obtain ⟨hz0, hz1⟩ := hz2
  have hl0 : ((zs.length : Int) == 0) = false := by simp; intro e; subst e; simp at hlt
  have hmod := Int.emod_nonneg z (show (n : Int) ≠ 0 by omega)
  have hmod2 := Int.emod_lt_of_pos z (show 0 < (n : Int) by omega)
  obtain ⟨k, hk⟩ : ∃ k : Nat, z % (n : Int) = k := ⟨(z % (n : Int)).toNat, by omega⟩
  have hkn : k < n := by omega
  clear hc hz hmod hmod2 h5
  have HK := Lib.hid hk
  clear hk
  go_enter Try.func49, Try.ntmps49
  go_wp2
  go_ret
  exact ⟨k, hkn, ret_int HK.out, q1, q2⟩
set_option maxRecDepth 100000 in
theorem pick_more (b p n : Nat) (zs : List Int) (w : World) (h : RdAt w b p zs) (hp : p ≤ 1000000) (hn : 1 ≤ n) (hn2 : n ≤ 1000000) (hl : 1 ≤ zs.length) (hge : zs.length ≤ p) :
    Calls Try.prog 49 #[.pointer (some ⟨b, 0, none⟩), .int .i64 n] w (PickPost n b p zs w) := by
  obtain ⟨q1, q2⟩ := h.next
  obtain ⟨h1, h2, h3, h4, h5, a, cap, h6, h7⟩ := h
  obtain ⟨blk, off, rfl, hbk, hc⟩ : ∃ blk off, a = some ⟨blk, off, none⟩ ∧ blk < b ∧ ∀ i, i < zs.length → w.cell? ⟨blk, off + i, none⟩ = some (.int .u8 (zs.getD i 0)) := by
    rcases h7 with rfl | h7
    · simp at hl
    · exact h7
  obtain ⟨L, hL⟩ : ∃ L, zs.length = L := ⟨_, rfl⟩
  have hz : ∀ i, i < L → ∃ z : Nat, z < 256 ∧ w.cell? ⟨blk, off + i, none⟩ = some (.int .u8 z) := by
    intro i hi
    have hi' : i < zs.length := by omega
    have h8 : 0 ≤ zs.getD i 0 ∧ zs.getD i 0 < 256 := by
      rw [List.getD_eq_getElem?_getD, List.getElem?_eq_getElem hi']
      exact h5 _ (List.getElem_mem hi')
    exact ⟨(zs.getD i 0).toNat, by omega, by rw [hc i hi']; congr 2; omega⟩
  rw [hL] at h6 hl hge h4
  have hne : blk ≠ b := by omega
  obtain ⟨A, B, I1, I2, D, M3, a1, a2, a3, a4, a5, a6, hI1, hI2, a7, a8, hD, a9, hM3⟩ := pick_facts p L hp hl
  obtain ⟨z1, hz1, hc1⟩ := hz I1 hI1
  obtain ⟨z2, hz2, hc2⟩ := hz I2 hI2
  obtain ⟨M1, M2, S1, S2, M4, X, Y, s1, s2, s3, s4, s5, s6, hX, s7⟩ := pick_sums z1 z2 M3 D hz1 hz2 hM3 hD
  have hl0 : ((L : Int) == 0) = false := by simp; omega
  have hk : (Y : Int) % (n : Int) = ((Y % n : Nat) : Int) := (Int.natCast_emod _ _).symm
  have hkn : Y % n < n := Nat.mod_lt _ (by omega)
  have i1 : (0 : Int) ≤ (I1 : Int) := by omega
  have i2 : (I1 : Int) < (L : Int) := by omega
  have i3 : (0 : Int) ≤ (I2 : Int) := by omega
  have i4 : (I2 : Int) < (L : Int) := by omega
  have i5 : (1 : Int) ≤ (L : Int) := by omega
  have H := Lib.hid (And.intro a1 (And.intro a2 (And.intro a3 (And.intro a4 (And.intro a5 (And.intro a6 (And.intro a7 (And.intro a8 a9))))))))
  have G := Lib.hid (And.intro s1 (And.intro s2 (And.intro s3 (And.intro s4 (And.intro s5 s6)))))
  have HK := Lib.hid hk
  have HX2 := Lib.hid s7
  clear hz hc hL h5 a1 a2 a3 a4 a5 a6 a7 a8 a9 s1 s2 s3 s4 s5 s6 s7 hk h7
  go_enter Try.func49, Try.ntmps49
  go_wp2
  obtain ⟨W, e0, e1, e2, e3, e4, e5, hW⟩ : ∃ W, RdAt W b (p + 1) zs ∧ w.grownBy W (some b) ∧ W.cell? ⟨b, 0, none⟩ = some (.slice (some ⟨blk, off, none⟩) L cap) ∧ W.cell? ⟨blk, off + I1, none⟩ = some (.int .u8 z1) ∧ W.cell? ⟨blk, off + I2, none⟩ = some (.int .u8 z2) ∧
      W.cell? ⟨b, 1, none⟩ = some (.int .i64 ((p : Int) + 1)) ∧ w.setCell ⟨b, 1, none⟩ (.int .i64 ((p : Int) + 1)) = W :=
    ⟨_, q1, q2, by go_simp, (World.cell?_of_block (a := ⟨blk, off + I1, none⟩) (Below.heap_setCell _ _ _ _ hne)).trans hc1, (World.cell?_of_block (a := ⟨blk, off + I2, none⟩) (Below.heap_setCell _ _ _ _ hne)).trans hc2, World.cell?_setCell_same' _ _ _ (by rw [h3]; rfl), rfl⟩
  rw [hW]
  clear hW h6 hc1 hc2 h3 h2 q1 q2
  obtain ⟨a1, a2, a3, a4, a5, a6, a7, a8, a9⟩ := H.out
  obtain ⟨s1, s2, s3, s4, s5, s6⟩ := G.out
  go_quiet (fail)
  clear a1 a2 a3 a4 a5 a6 a7 a8 a9 s1 s2 s3 s4 s5 s6
  have s7 := HX2.out
  have hk := HK.out
  go_wp2
  go_ret
  exact ⟨Y % n, hkn, rfl, RdAt.below e0 (below_drewN (Below.refl _ _) nq), e1.trans (grownBy_drewN' W nq _)⟩
theorem pick_any (b p n : Nat) (zs : List Int) (w : World) (h : RdAt w b p zs) (hp : p ≤ 1000000) (hn : 1 ≤ n) (hn2 : n ≤ 1000000) :
    Calls Try.prog 49 #[.pointer (some ⟨b, 0, none⟩), .int .i64 n] w (PickPost n b p zs w) := by
  by_cases h1 : p < zs.length
  · exact pick_first b p n zs w h hp hn hn2 h1
  · by_cases h2 : 1 ≤ zs.length
    · exact pick_more b p n zs w h hp hn hn2 h2 (by omega)
    · obtain rfl : zs = [] := List.length_eq_zero_iff.1 (by omega)
      exact pick_nil b p n w h hp hn hn2
/-- What opening the bytes leaves: a reader of them, at the first place, in a new block. -/
def OpenPost (w : World) (e : Ending) (w' : World) : Prop :=
  ∃ b zs, e = .returned (.pointer (some ⟨b, 0, none⟩)) ∧ RdAt w' b 0 zs ∧ Below w.heap.size w w' ∧ w.heap.size ≤ b
theorem bytes_data {w : World} {a : Option Addr} {len cap : Nat} {zs : List Int} (h : IsBytes w a len cap zs) (n : Nat) (hn : n ≤ len) :
    ∃ ys : List Int, ys.length = n ∧ (∀ z ∈ ys, 0 ≤ z ∧ z < 256) ∧ (ys = [] ∨ ∃ blk off, a = some ⟨blk, off, none⟩ ∧ blk < w.heap.size ∧ ∀ i, i < ys.length → w.cell? ⟨blk, off + i, none⟩ = some (.int .u8 (ys.getD i 0))) := by
  rcases h with ⟨rfl, rfl, rfl, rfl⟩ | ⟨x, rfl, hl, hm, hz, hcell, hwz⟩
  · obtain rfl : n = 0 := by omega
    exact ⟨[], rfl, by simp, .inl rfl⟩
  · refine ⟨zs.take n, by simp; omega, ?_, ?_⟩
    · intro z hz'
      have := bounds_u8 (hwz z (List.mem_of_mem_take hz'))
      omega
    · by_cases h0 : n = 0
      · left; subst h0; simp
      · right
        obtain ⟨blk, off, spot⟩ := x
        have hc0 := hcell 0 (by omega)
        have hspot : spot = none := by simpa [Addr.add] using World.cell?_spot hc0
        subst hspot
        refine ⟨blk, off, rfl, ?_, ?_⟩
        · exact World.block_lt_of_cell? _ _ hc0
        · intro i hi
          have hi' : i < n := by simp at hi; omega
          have := hcell i (by omega)
          have e : (⟨blk, off, none⟩ : Addr).add i = ⟨blk, off + i, none⟩ := by
            cases i with
            | zero => rfl
            | succ i => simp [Addr.add]
          rw [e] at this
          rw [this]
          congr 2
          rw [List.getD_eq_getElem?_getD, List.getD_eq_getElem?_getD, List.getElem?_take_of_lt hi']
theorem rd_new {w : World} {t : TypeId} {a : Option Addr} {n cap : Nat} {zs : List Int} (hn : n = zs.length) (h4 : zs.length ≤ 2000) (h5 : ∀ z ∈ zs, 0 ≤ z ∧ z < 256)
    (h7 : zs = [] ∨ ∃ blk off, a = some ⟨blk, off, none⟩ ∧ blk < w.heap.size ∧ ∀ i, i < zs.length → w.cell? ⟨blk, off + i, none⟩ = some (.int .u8 (zs.getD i 0))) :
    RdAt (w.alloc (.cells #[.slice a n cap, .int .i64 0] t)) w.heap.size 0 zs := by
  subst hn
  refine ⟨by simp, by simp, by simp, h4, h5, a, cap, by simp, ?_⟩
  rcases h7 with h7 | ⟨blk, off, ha, hlt, hc⟩
  · exact .inl h7
  · refine .inr ⟨blk, off, ha, hlt, fun i hi => ?_⟩
    exact (World.cell?_of_block (a := ⟨blk, off + i, none⟩) (Below.heap_alloc _ _ _ hlt)).trans (hc i hi)
set_option maxRecDepth 100000 in
theorem open_any (a : Option Addr) (len cap : Nat) (zs : List Int) (w : World) (h : IsBytes w a len cap zs) :
    Calls Try.prog 26 #[.slice a len cap] w (OpenPost w) := by
  by_cases hl : 2000 < len
  · have hcap : ¬ ((cap : Int) < 2000) := by
      rcases h with ⟨_, rfl, _, _⟩ | ⟨x, _, hl', _⟩ <;> omega
    obtain ⟨ys, hy, h5, h7⟩ := bytes_data h 2000 (by omega)
    go_enter Try.func26, Try.ntmps26
    go_wp2
    go_ret
    exact ⟨w.heap.size, ys, rfl, rd_new hy.symm (by omega) h5 h7, by go_grown, Nat.le_refl _⟩
  · obtain ⟨ys, hy, h5, h7⟩ := bytes_data h len (Nat.le_refl _)
    go_enter Try.func26, Try.ntmps26
    go_wp2
    go_ret
    exact ⟨w.heap.size, ys, rfl, rd_new hy.symm (by omega) h5 h7, by go_grown, Nat.le_refl _⟩
/-- A row of numbers in a block. -/
def IntsAt (w : World) (L : Nat) (xs : List Int) : Prop := L < w.heap.size ∧ ∀ i, i < xs.length → w.cell? ⟨L, i, none⟩ = some (.int .i64 (xs.getD i 0))
theorem IntsAt.new (w : World) (t : TypeId) (xs : List Int) : IntsAt (w.alloc (.cells (xs.map (Value.int .i64)).toArray t)) w.heap.size xs := by
  refine ⟨by simp, fun i hi => ?_⟩
  rw [World.cell?_alloc_new]
  simp [List.getD_eq_getElem?_getD, List.getElem?_eq_getElem hi]
theorem RdAt.alloc {w : World} {b p : Nat} {zs : List Int} (h : RdAt w b p zs) (o : Obj) : RdAt (w.alloc o) b p zs := h.below ((Below.refl _ _).alloc (Nat.le_refl _) _)
def NumPost (xs : List Int) (b p : Nat) (zs : List Int) (w : World) (e : Ending) (w' : World) : Prop :=
  ∃ v, v ∈ xs ∧ e = .returned (.int .i64 v) ∧ RdAt w' b (p + 1) zs ∧ w.grownBy w' (some b)
set_option maxRecDepth 100000 in
theorem num_any (b p : Nat) (zs : List Int) (w : World) (L n : Nat) (xs : List Int) (hr : RdAt w b p zs) (hx : IntsAt w L xs) (hn : xs.length = n) (hLb : b < L) (hp : p ≤ 1000000) (h1 : 1 ≤ n) (h2 : n ≤ 1000) :
    Calls Try.prog 27 #[.pointer (some ⟨b, 0, none⟩), .slice (some ⟨L, 0, none⟩) n n] w (NumPost xs b p zs w) := by
  have HN := Lib.hid hn
  clear hn
  go_enter Try.func27, Try.ntmps27
  go_wp2_with fail
  refine (pick_any b p n zs _ hr hp h1 (by omega)).mono ?_
  rintro e w1 ⟨k, hk, rfl, hr1, hg⟩
  have hkx : k < xs.length := by rw [HN.out]; exact hk
  have hc : w1.cell? ⟨L, k, none⟩ = some (.int .i64 (xs.getD k 0)) := hg.cell (hx.2 k hkx) (by simp; omega)
  obtain ⟨v, hv⟩ : ∃ v, xs.getD k 0 = v := ⟨_, rfl⟩
  rw [hv] at hc
  have hm : v ∈ xs := by
    rw [← hv, List.getD_eq_getElem?_getD, List.getElem?_eq_getElem hkx]
    exact List.getElem_mem hkx
  clear hv hkx hx
  go_wp2
  go_ret
  exact ⟨v, hm, rfl, hr1, hg⟩
/-- A number was drawn, which fits its kind; what was there is as it was. -/
def DrawInt (w : World) (e : Ending) (w' : World) : Prop := ∃ v : Int, e = .returned (.int .i64 v) ∧ (-9223372036854775808 ≤ v ∧ v ≤ 9223372036854775807) ∧ Below w.heap.size w w'
theorem below_grown {B : Nat} {a w w' : World} {b : Nat} (h : Below B a w) (hs : B ≤ a.heap.size) (hg : w.grownBy w' (some b)) (hb : B ≤ b) : Below B a w' :=
  h.grown hg (Nat.le_trans hs h.size) (fun k e => by cases e; exact hb)
end Go.Proofs.Ytmlmpekhcnjehaa
