/- Contracts of the draws: whatever the bytes are, a draw ends, and leaves what was there as it was. -/
import Derived.Test.YtagdfohjhokgiaaRegBase
import Derived.Test.YtagdfohjhokgiaaRegFrame
namespace Go.Proofs.Ytagdfohjhokgiaa
open Go.RowKit

theorem IsBytes.below {w w' : World} {a : Option Addr} {len cap : Nat} {zs : List Int} (h : IsBytes w a len cap zs) (hb : Below w.heap.size w w') : IsBytes w' a len cap zs := by
  rcases h with h | ⟨x, hx, hl, hm, hz, hcell, hwz⟩
  · exact .inl h
  · exact .inr ⟨x, hx, hl, hm, hz, fun i hi => (hb.cell (World.block_lt_of_cell? _ _ (hcell i hi))).trans (hcell i hi), hwz⟩
/-- A reader of bytes: its block, its place p, the bytes zs (which lie in a block before its own). -/
def RdAt (w : World) (b p : Nat) (zs : List Int) : Prop :=
  b < w.heap.size ∧ w.frozen? ⟨b, 1, none⟩ = false ∧ w.cell? ⟨b, 1, none⟩ = some (.int .i64 p) ∧ zs.length ≤ 2000 ∧ (∀ z ∈ zs, 0 ≤ z ∧ z < 256) ∧
  ∃ a cap, w.cell? ⟨b, 0, none⟩ = some (.slice a zs.length cap) ∧
    (zs = [] ∨ ∃ blk off, a = some ⟨blk, off, none⟩ ∧ blk < b ∧ ∀ i, i < zs.length → w.cell? ⟨blk, off + i, none⟩ = some (.int .u8 (zs.getD i 0)))
theorem RdAt.kept {w w' : World} {b p : Nat} {zs : List Int} {row : Option Nat} (h : RdAt w b p zs) (hg : w.grownBy w' row) (hne : ∀ k, row = some k → b < k) : RdAt w' b p zs := by
  obtain ⟨h1, h2, h3, h4, h5, a, cap, h6, h7⟩ := h
  have hb : some b ≠ row := fun e => by have := hne b e.symm; omega
  refine ⟨Nat.lt_of_lt_of_le h1 hg.size, frozen_kept' h2 h1 hg hb, hg.cell h3 hb, h4, h5, a, cap, hg.cell h6 hb, ?_⟩
  rcases h7 with h7 | ⟨blk, off, ha, hlt, hc⟩
  · exact .inl h7
  · exact .inr ⟨blk, off, ha, hlt, fun i hi => hg.cell (hc i hi) (fun e => by have := hne blk e.symm; omega)⟩
theorem Below.grownBy' {w w' : World} (h : Below w.heap.size w w') : w.grownBy w' none := ⟨h.os, h.tape, h.output, h.size, fun k hk _ => h.block k hk⟩
theorem RdAt.below {w w' : World} {b p : Nat} {zs : List Int} (h : RdAt w b p zs) (hb : Below w.heap.size w w') : RdAt w' b p zs :=
  h.kept (Below.grownBy' hb) (fun k e => by cases e)
theorem RdAt.next {w : World} {b p : Nat} {zs : List Int} (h : RdAt w b p zs) :
    RdAt (w.setCell ⟨b, 1, none⟩ (.int .i64 ((p : Int) + 1))) b (p + 1) zs ∧ w.grownBy (w.setCell ⟨b, 1, none⟩ (.int .i64 ((p : Int) + 1))) (some b) := by
  obtain ⟨h1, h2, h3, h4, h5, a, cap, h6, h7⟩ := h
  refine ⟨⟨?_, ?_, ?_, h4, h5, a, cap, ?_, ?_⟩, ?_⟩
  · simp; omega
  · simp [World.frozen?_setCell, h2]
  · exact World.cell?_setCell_same' _ _ _ (by rw [h3]; rfl)
  · go_simp
  · rcases h7 with h7 | ⟨blk, off, ha, hlt, hc⟩
    · exact .inl h7
    · refine .inr ⟨blk, off, ha, hlt, fun i hi => ?_⟩
      have hne : blk ≠ b := by omega
      exact (World.cell?_of_block (a := ⟨blk, off + i, none⟩) (Below.heap_setCell _ _ _ _ hne)).trans (hc i hi)
  · exact ⟨rfl, rfl, rfl, by simp, fun k hk hne => Below.heap_setCell _ _ _ _ (fun e => hne (by rw [e]))⟩
/-- The sums of a draw behind the bytes' end, each by its own name. -/
theorem wrap_nat (a : Nat) (h : a ≤ 1000000000) : IntKind.i64.wrap (a : Int) = (a : Int) := IntWalk.i64_in _ (by omega)
theorem pick_facts (p L : Nat) (hp : p ≤ 1000000) (hl : 1 ≤ L) : ∃ A B I1 I2 D M3 : Nat,
    IntKind.i64.wrap ((p : Int) * 7) = A ∧ IntKind.i64.wrap ((A : Int) + 3) = B ∧ (p : Int) % (L : Int) = I1 ∧ (p : Int).tmod (L : Int) = I1 ∧ (B : Int) % (L : Int) = I2 ∧ (B : Int).tmod (L : Int) = I2 ∧ I1 < L ∧ I2 < L ∧
    IntKind.i64.wrap ((p : Int) / (L : Int)) = D ∧ IntKind.i64.wrap ((p : Int).tdiv (L : Int)) = D ∧ D ≤ 1000000 ∧ IntKind.i64.wrap ((p : Int) * 29) = M3 ∧ M3 ≤ 29000000 := by
  have h1 : p / L ≤ p := Nat.div_le_self p L
  refine ⟨p * 7, p * 7 + 3, p % L, (p * 7 + 3) % L, p / L, p * 29, ?_, ?_, ?_, ?_, ?_, ?_, Nat.mod_lt _ (by omega), Nat.mod_lt _ (by omega), ?_, ?_, by omega, ?_, by omega⟩
  · rw [show (p : Int) * 7 = ((p * 7 : Nat) : Int) by omega]; exact wrap_nat _ (by omega)
  · rw [show ((p * 7 : Nat) : Int) + 3 = ((p * 7 + 3 : Nat) : Int) by omega]; exact wrap_nat _ (by omega)
  · exact (Int.natCast_emod _ _).symm
  · rw [Int.tmod_eq_emod_of_nonneg (by omega)]; exact (Int.natCast_emod _ _).symm
  · exact (Int.natCast_emod _ _).symm
  · rw [Int.tmod_eq_emod_of_nonneg (by omega)]; exact (Int.natCast_emod _ _).symm
  · rw [← Int.natCast_ediv]; exact wrap_nat _ (by omega)
  · rw [Int.tdiv_eq_ediv_of_nonneg (by omega), ← Int.natCast_ediv]; exact wrap_nat _ (by omega)
  · rw [show (p : Int) * 29 = ((p * 29 : Nat) : Int) by omega]; exact wrap_nat _ (by omega)
theorem pick_sums (z1 z2 M3 D : Nat) (h1 : z1 < 256) (h2 : z2 < 256) (h3 : M3 ≤ 29000000) (h4 : D ≤ 1000000) : ∃ M1 M2 S1 S2 M4 X Y : Nat,
    IntKind.i64.wrap ((z1 : Int) * 131) = M1 ∧ IntKind.i64.wrap ((z2 : Int) * 1117) = M2 ∧ IntKind.i64.wrap ((M1 : Int) + (M2 : Int)) = S1 ∧ IntKind.i64.wrap ((S1 : Int) + (M3 : Int)) = S2 ∧
    IntKind.i64.wrap ((D : Int) * 53) = M4 ∧ IntKind.i64.wrap ((S2 : Int) + (M4 : Int)) = X ∧ X ≤ 1000000000 ∧ bits .xor .i64 (X : Int) ((X : Int) / 64) = Y := by
  obtain ⟨X, hX⟩ : ∃ X, z1 * 131 + z2 * 1117 + M3 + D * 53 = X := ⟨_, rfl⟩
  have hXb : X ≤ 1000000000 := by omega
  have hx := xor64 X (X / 64) (by omega) (by omega)
  rw [show ((X / 64 : Nat) : Int) = (X : Int) / 64 by omega] at hx
  refine ⟨z1 * 131, z2 * 1117, z1 * 131 + z2 * 1117, z1 * 131 + z2 * 1117 + M3, D * 53, X, X ^^^ X / 64, ?_, ?_, ?_, ?_, ?_, ?_, hXb, hx⟩
  · rw [show (z1 : Int) * 131 = ((z1 * 131 : Nat) : Int) by omega]; exact wrap_nat _ (by omega)
  · rw [show (z2 : Int) * 1117 = ((z2 * 1117 : Nat) : Int) by omega]; exact wrap_nat _ (by omega)
  · rw [← Int.natCast_add]; exact wrap_nat _ (by omega)
  · rw [← Int.natCast_add]; exact wrap_nat _ (by omega)
  · rw [show (D : Int) * 53 = ((D * 53 : Nat) : Int) by omega]; exact wrap_nat _ (by omega)
  · rw [← Int.natCast_add, hX]; exact wrap_nat _ (by omega)
/-- What a draw leaves: a number below n; the reader is one place further. -/
def PickPost (n b p : Nat) (zs : List Int) (w : World) (e : Ending) (w' : World) : Prop :=
  ∃ k : Nat, k < n ∧ e = .returned (.int .i64 k) ∧ RdAt w' b (p + 1) zs ∧ w.grownBy w' (some b)
/-- What opening the bytes leaves: a reader of them, at the first place, in a new block. -/
def OpenPost (w : World) (e : Ending) (w' : World) : Prop :=
  ∃ b zs, e = .returned (.pointer (some ⟨b, 0, none⟩)) ∧ RdAt w' b 0 zs ∧ Below w.heap.size w w' ∧ w.heap.size ≤ b
theorem bytes_data {w : World} {a : Option Addr} {len cap : Nat} {zs : List Int} (h : IsBytes w a len cap zs) (n : Nat) (hn : n ≤ len) :
    ∃ ys : List Int, ys.length = n ∧ (∀ z ∈ ys, 0 ≤ z ∧ z < 256) ∧ (ys = [] ∨ ∃ blk off, a = some ⟨blk, off, none⟩ ∧ blk < w.heap.size ∧ ∀ i, i < ys.length → w.cell? ⟨blk, off + i, none⟩ = some (.int .u8 (ys.getD i 0))) := by
  rcases h with ⟨rfl, rfl, rfl, rfl⟩ | ⟨x, rfl, hl, hm, hz, hcell, hwz⟩
  · obtain rfl : n = 0 := by omega
    exact ⟨[], rfl, by simp, .inl rfl⟩
  · refine ⟨zs.take n, by simp; omega, ?_, ?_⟩
    · intro z hz'
      have := bounds_u8 (hwz z (List.mem_of_mem_take hz'))
      omega
    · by_cases h0 : n = 0
      · left; subst h0; simp
      · right
        obtain ⟨blk, off, spot⟩ := x
        have hc0 := hcell 0 (by omega)
        have hspot : spot = none := by simpa [Addr.add] using World.cell?_spot hc0
        subst hspot
        refine ⟨blk, off, rfl, ?_, ?_⟩
        · exact World.block_lt_of_cell? _ _ hc0
        · intro i hi
          have hi' : i < n := by simp at hi; omega
          have := hcell i (by omega)
          have e : (⟨blk, off, none⟩ : Addr).add i = ⟨blk, off + i, none⟩ := by
            cases i with
            | zero => rfl
            | succ i => simp [Addr.add]
          rw [e] at this
          rw [this]
          congr 2
          rw [List.getD_eq_getElem?_getD, List.getD_eq_getElem?_getD, List.getElem?_take_of_lt hi']
/-- A row of numbers in a block. -/
def IntsAt (w : World) (L : Nat) (xs : List Int) : Prop := L < w.heap.size ∧ ∀ i, i < xs.length → w.cell? ⟨L, i, none⟩ = some (.int .i64 (xs.getD i 0))
theorem IntsAt.new (w : World) (t : TypeId) (xs : List Int) : IntsAt (w.alloc (.cells (xs.map (Value.int .i64)).toArray t)) w.heap.size xs := by
  refine ⟨by simp, fun i hi => ?_⟩
  rw [World.cell?_alloc_new]
  simp [List.getD_eq_getElem?_getD, List.getElem?_eq_getElem hi]
theorem RdAt.alloc {w : World} {b p : Nat} {zs : List Int} (h : RdAt w b p zs) (o : Obj) : RdAt (w.alloc o) b p zs := h.below ((Below.refl _ _).alloc (Nat.le_refl _) _)
def NumPost (xs : List Int) (b p : Nat) (zs : List Int) (w : World) (e : Ending) (w' : World) : Prop :=
  ∃ v, v ∈ xs ∧ e = .returned (.int .i64 v) ∧ RdAt w' b (p + 1) zs ∧ w.grownBy w' (some b)
/-- A number was drawn, which fits its kind; what was there is as it was. -/
def DrawInt (w : World) (e : Ending) (w' : World) : Prop := ∃ v : Int, e = .returned (.int .i64 v) ∧ (-9223372036854775808 ≤ v ∧ v ≤ 9223372036854775807) ∧ Below w.heap.size w w'
theorem below_grown {B : Nat} {a w w' : World} {b : Nat} (h : Below B a w) (hs : B ≤ a.heap.size) (hg : w.grownBy w' (some b)) (hb : B ≤ b) : Below B a w' :=
  h.grown hg (Nat.le_trans hs h.size) (fun k e => by cases e; exact hb)
end Go.Proofs.Ytagdfohjhokgiaa
