/- The bits of a register of the model. -/
import Derived.Test.YtmlmpekhcnjehaaRegWalk
import Derived.Test.YtmlmpekhcnjehaaSeqFun
import Derived.Deep.RegionWith
namespace Go.Proofs.Ytmlmpekhcnjehaa
open Go.RowKit
set_option linter.unusedVariables false
/-- The first bits of a register. -/
def runS (s t x n : Nat) : ByteArray := strF n (fun i => 48 + stepsN s t i x % 2)
theorem runS_size (s t x n : Nat) : (runS s t x n).size = n := strF_size _ _
theorem Bytes.kept {w w' : World} {b : Nat} {t : TypeId} {n : Nat} {f : Nat → Nat} {row : Option Nat} (h : Bytes w b t n f) (hg : w.grownBy w' row) (hne : some b ≠ row) : Bytes w' b t n f :=
  World.rowIs.of_block h (hg.block b h.lt hne)
set_option maxRecDepth 100000 in
theorem l1Run_any (s t x n : Nat) (w : World) (h : RegN s t x) (hn : n ≤ 1000000) :
    Calls Try.prog 57 #[.agg #[.int .i64 s, .int .i64 t, .int .i64 x], .int .i64 n] w fun e w' => e = .returned (.string (runS s t x n)) ∧ Below w.heap.size w w' := by
  have hmk := make_bytes n (by omega) (by omega)
  go_enter Try.func57, Try.ntmps57
  go_wp2
  clear hmk
  go_loopw [6] (fun i wr => ∃ k : Nat, k ≤ n ∧ i = .int .i64 k ∧ RegAt wr w.heap.size s t (stepsN s t k x : Nat) ∧ (∀ o, wr.frozen? ⟨w.heap.size, o, none⟩ = false) ∧ Bytes wr (w.heap.size + 1) 5 n (fun v => if v < k then 48 + stepsN s t v x % 2 else 0) ∧ Below w.heap.size w wr) (fun i _ => n - (intOf i).toNat)
  case atStart =>
    have k1 : Below w.heap.size w (w.alloc (.cells #[.int .i64 s, .int .i64 t, .int .i64 x] 57)) := (Below.refl _ _).alloc (Nat.le_refl _) _
    have k2 := RegAt.new w 57 s t x
    have k3 : Below (w.heap.size + 1) (w.alloc (.cells #[.int .i64 s, .int .i64 t, .int .i64 x] 57)) ((w.alloc (.cells #[.int .i64 s, .int .i64 t, .int .i64 x] 57)).alloc (.cells (madeCells #[.int .u8 0] n) 5)) := (Below.refl _ _).alloc (by simp) _
    refine ⟨0, by omega, rfl, k2.below k3 (by omega), fun o => (k3.frozen (p := ⟨w.heap.size, o, none⟩) (by simp)).trans (by simp), ?_, k1.alloc (by simp) _⟩
    have := Bytes.new (w := w.alloc (.cells #[.int .i64 s, .int .i64 t, .int .i64 x] 57)) (t := 5) (n := n) (b := w.heap.size + 1) (by simp)
    exact this.congr (fun v _ => by simp)
  case round =>
    obtain ⟨k, hk, rfl, rA, rf, rB, rb⟩ := hrel
    by_cases hlt : k < n
    · have hr := h.steps k
      have hL := fun w => l1Step_any s t (stepsN s t k x) w hr
      obtain ⟨y, hy⟩ : ∃ y, stepsN s t k x = y := ⟨_, rfl⟩
      have hyl := hr.lt
      have htw := tw_le s h.hi
      rw [hy] at rA hL hyl
      obtain ⟨c0, c1, c2, cl⟩ := id rA
      obtain ⟨V, hV⟩ : ∃ V, 48 + y % 2 = V := ⟨_, rfl⟩
      have v1 : (48 : Int) + (y : Int) % 2 = (V : Int) := by omega
      have v2 : IntKind.u8.wrap (V : Int) = (V : Int) := IntWalk.u8_in _ (by omega)
      have hb := rB.cell k hlt
      have hf := World.rowIs.frozen rB k
      have i0 : (0 : Int) ≤ (k : Int) := by omega
      have i1 : (k : Int) < (n : Int) := by omega
      have kg := grown_set wr (w.heap.size + 1) k (.int .u8 (V : Nat))
      have kA := rA.kept kg (by simp)
      have kf := fun o => frozen_kept' (rf o) rA.2.2.2 kg (by simp)
      have kB : Bytes (wr.setCell ⟨w.heap.size + 1, k, none⟩ (.int .u8 (V : Nat))) (w.heap.size + 1) 5 n (fun v => if v < k + 1 then 48 + stepsN s t v x % 2 else 0) :=
        row_step (F := fun v => 48 + stepsN s t v x % 2) rB (by show 48 + stepsN s t k x % 2 = V; rw [hy]; exact hV)
      have kb := rb.grown kg rb.size (fun k e => by cases e; omega)
      have HF := Lib.hid kf
      have HB := Lib.hid kB
      have HL := Lib.hid hL
      have HY := Lib.hid hy
      clear rA rf rB rb kg hL hV hy kf kB
      go_wp2_with fail
      clear v1 v2 hb hf c0 c1 c2 cl
      obtain ⟨W, hW⟩ : ∃ W, wr.setCell ⟨w.heap.size + 1, k, none⟩ (.int .u8 (V : Nat)) = W := ⟨_, rfl⟩
      have kf := HF.out
      have kB := HB.out
      rw [hW] at kA kb kf kB ⊢
      clear hW HF HB
      refine (HL.out _).mono ?_
      rintro e w2 ⟨rfl, hb2⟩
      have qA := kA.below hb2 kA.2.2.2
      have qf : ∀ o, w2.frozen? ⟨w.heap.size, o, none⟩ = false := fun o => (hb2.frozen (p := ⟨w.heap.size, o, none⟩) kA.2.2.2).trans (kf o)
      have qB := kB.below hb2 kB.lt
      have qb := below_then kb (Nat.le_refl _) hb2
      obtain ⟨m0, m1, m2, ml⟩ := id qA
      have n0 := qf 0
      have n1 := qf 1
      have n2 := qf 2
      have QB := Lib.hid qB
      have QF := Lib.hid qf
      clear kA kf kB kb hb2 qB qf
      go_wp2
      obtain ⟨r1, r2, r3⟩ := walk_set3 qA s t (stepN s t y : Nat)
      go_roundw
      case rel =>
        refine ⟨k + 1, by omega, by go_num, ?_, fun o => (r2 _).trans (QF.out o), QB.out.kept r3 (by simp), qb.grown r3 qb.size (fun k e => by cases e; exact Nat.le_refl _)⟩
        simp only [stepsN, HY.out]; exact r1
      case measure => simp [intOf]; omega
    · obtain rfl : k = n := by omega
      have hst := fun cap => rB.str (P := Try.prog) 27 5 9 (by kernel_rfl) (by kernel_rfl) (by kernel_rfl) 0 k cap (by omega)
      obtain ⟨y, hy⟩ : ∃ y, strF k (fun i => if 0 + i < k then 48 + stepsN s t (0 + i) x % 2 else 0) = y := ⟨_, rfl⟩
      rw [hy] at hst
      have HY : Hid (y = runS s t x k) := Lib.hid (by rw [← hy]; exact strF_congr fun i hi => by simp [hi])
      clear hy rA rf rB
      go_wp2
      go_ret
      exact ⟨ret_str HY.out, rb⟩
end Go.Proofs.Ytmlmpekhcnjehaa
