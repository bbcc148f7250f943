/- RunRegister of the program: the bits of a register. -/
import Derived.Test.YtmlmpekhcnjehaaRunLaw
import Derived.Test.YtmlmpekhcnjehaaBld
import Derived.Test.YtmlmpekhcnjehaaSRun
namespace Go.Proofs.Ytmlmpekhcnjehaa
open Go.RowKit Go.Shelf
set_option linter.unusedVariables false
attribute [local go_sem] Oper.semAt_some
/-- A builder stays one where another block turns, that is neither its own nor its row. -/
theorem BldAt.kept {B b : Nat} {l : List UInt8} {w w' : World} {row : Option Nat} (h : BldAt B b l w) (hg : w.grownBy w' row) (hr : ∀ r, row = some r → r < B ∨ ∃ o : Obj, w.heap[r]? = some o ∧ o.isCells = false) : BldAt B b l w' := by
  have one : ∀ p, Lib.BuilderAtF 70 5 B b p (Lib.byteCells l) w → Lib.BuilderAtF 70 5 B b p (Lib.byteCells l) w' := by
    rintro p ⟨hB, v, hb, hown, hne⟩
    have hlt : b < w.heap.size := (Array.getElem?_eq_some_iff.1 hb).1
    refine ⟨hB, v, (hg.block b hlt (fun e => ?_)).trans hb, hown.kept hg ?_, hne⟩
    · rcases hr b e.symm with h1 | ⟨o, ho, hc⟩
      · omega
      · rw [hb] at ho; injection ho with ho; rw [← ho] at hc; exact absurd hc (by simp [Obj.isCells])
    · cases ho : v.ownBlock with
      | none => exact .inl rfl
      | some g =>
        refine .inr (fun e => ?_)
        rcases hr g e.symm with h1 | ⟨o, ho', hc⟩
        · have := (hown.lt g ho).1; omega
        · obtain ⟨c, fz, hcell⟩ := Lib.ownsRowF_kind hown g ho
          rw [hcell] at ho'; injection ho' with ho'; rw [← ho'] at hc; exact absurd hc (by simp [Obj.isCells])
  exact h.elim (fun x => .inl (one _ x)) (fun x => .inr (one _ x))
theorem run_valid (s t x : Nat) (w : World) (h : RegN s t x) :
    Calls Try.prog 53 #[.agg #[.int .i64 s, .int .i64 t, .int .i64 x]] w fun e w' => e = .returned (.bool true) ∧ Below w.heap.size w w' := by
  rw [← h.valid]; exact iRegisterValid_any _ _ _ w
theorem run_invalid (S T X : Int) (w : World) (h : regB S T X = false) :
    Calls Try.prog 53 #[.agg #[.int .i64 S, .int .i64 T, .int .i64 X]] w fun e w' => e = .returned (.bool false) ∧ Below w.heap.size w w' := by
  rw [← h]; exact iRegisterValid_any _ _ _ w
set_option maxRecDepth 100000 in
theorem run_fn (rb c : Nat) (w : World) :
    Calls Try.prog 54 #[.pointer (some ⟨rb, 0, none⟩), .int .i64 c] w fun e w' => e = .returned (.func (.func 72) #[] #[.pointer (some ⟨w.heap.size + 1, 0, none⟩), .pointer (some ⟨w.heap.size, 0, none⟩)]) ∧
      w' = (w.alloc (.cells #[.pointer (some ⟨rb, 0, none⟩)] 91)).alloc (.cells #[.int .i64 c] 3) := by
  go_enter Try.func54, Try.ntmps54
  go_wp2
  go_ret
  exact ⟨rfl, rfl⟩
/-- The first bits as a list. -/
def bitsL (s t x n : Nat) : List UInt8 := (List.range n).map fun i => UInt8.ofNat (48 + stepsN s t i x % 2)
theorem bitsL_succ (s t x n : Nat) : bitsL s t x (n + 1) = bitsL s t x n ++ [UInt8.ofNat (48 + stepsN s t n x % 2)] := by
  unfold bitsL; rw [List.range_succ, List.map_append]; rfl
theorem bitsL_len (s t x n : Nat) : (bitsL s t x n).length = n := by simp [bitsL]
/-- The state of the loop, k rounds of the iterator and j bytes of the text being over. -/
def RunI (w : World) (rb tb bp bc c s t x : Nat) (k j : Nat) (W : World) : Prop :=
  W.heap[bp]? = some (.cells #[.pointer (some ⟨rb, 0, none⟩)] 91 (0, 0)) ∧ W.heap[bc]? = some (.cells #[.int .i64 c] 3 (0, 0)) ∧ RegAt W rb s t (stepsN s t k x : Nat) ∧ W.frozen? ⟨rb, 2, none⟩ = false ∧ BldAt tb tb (bitsL s t x j) W ∧ Below w.heap.size w W
theorem RunI.at {w W : World} {rb tb bp bc c s t x k j : Nat} (h : RunI w rb tb bp bc c s t x k j W) : RunAt W bp bc rb c s t (stepsN s t k x) :=
  ⟨by rw [Lib.cell_of_heap h.1]; rfl, by rw [Lib.cell_of_heap h.2.1]; rfl, h.2.2.1, h.2.2.2.1⟩
theorem runI_own {w : World} {rb tb bp bc c s t x B : Nat} (f : Nat → Nat) (g : Nat → Nat) (h1 : rb < B) (h2 : bp < B) (h3 : bc < B) (h4 : w.heap.size ≤ B) :
    OwnFrom B (fun k W => RunI w rb tb bp bc c s t x (f k) (g k) W) := by
  rintro k W W' row ⟨a1, a2, a3, a4, a5, a6⟩ hg hr
  have ne : ∀ q, q < B → some q ≠ row := fun q hq e => by have := (hr q e.symm).1; omega
  refine ⟨(hg.block bp (Array.getElem?_eq_some_iff.1 a1).1 (ne bp h2)).trans a1, (hg.block bc (Array.getElem?_eq_some_iff.1 a2).1 (ne bc h3)).trans a2, a3.kept hg (ne rb h1), frozen_kept' a4 a3.2.2.2 hg (ne rb h1), a5.kept hg (fun r e => .inr (hr r e).2), a6.grown hg a6.size (fun r e => ?_)⟩
  have := (hr r e).1
  omega
set_option maxHeartbeats 2000000 in
set_option maxRecDepth 100000 in
theorem iRun_yes (s t x n : Nat) (w : World) (h : RegN s t x) (hn : n ≤ 600) :
    Calls Try.prog 33 #[.agg #[.int .i64 s, .int .i64 t, .int .i64 x], .int .i64 n] w fun e w' => e = .returned (.tuple #[.string (runS s t x n), .bool true]) ∧ Below w.heap.size w w' := by
  have hn0 : ¬ ((n : Int) < 0) := by omega
  have hn6 : ¬ ((600 : Int) < (n : Int)) := by omega
  refine (callsIn_wide (n := 5)).1 ?_
  refine callsIn_of_wp_marks Try.func33 rfl trivial ?_ rfl
  simp only [Try.ntmps33, List.size_toArray, List.length_cons, List.length_nil, Nat.reduceAdd, Nat.reduceSub, Array.replicate_succ, Array.replicate_zero, List.push_toArray, List.append_toArray, List.nil_append, List.cons_append]
  gi_wp2
  refine ⟨trivial, (callsIn_wide.2 (run_valid s t x _ h)).mono ?_⟩
  rintro e w1 ⟨rfl, hb1⟩
  have b1 := below_then ((Below.refl _ w).alloc (Nat.le_refl _) _) (by simp) hb1
  have r1 := (RegAt.new w 57 s t x).below hb1 (by simp)
  have f1 : w1.frozen? ⟨w.heap.size, 2, none⟩ = false := (hb1.frozen (p := ⟨w.heap.size, 2, none⟩) (by simp)).trans (by simp)
  have hs1 : w.heap.size < w1.heap.size := by have := hb1.size; simp at this; omega
  clear hb1
  gi_wp2
  refine ⟨trivial, (callsIn_wide.2 (run_fn w.heap.size n _)).mono ?_⟩
  rintro e w2 ⟨rfl, hw2⟩
  have hsz : (w1.alloc (Obj.cells #[Value.pointer none, Value.slice none 0 0] 70)).heap.size = w1.heap.size + 1 := by simp
  rw [hsz]
  have hI : RunI w w.heap.size w1.heap.size (w1.heap.size + 1) (w1.heap.size + 1 + 1) n s t x 0 0 w2 := by
    have q1 : Below w1.heap.size w1 w2 := by rw [hw2]; exact (((Below.refl _ w1).alloc (Nat.le_refl _) _).alloc (by simp) _).alloc (by simp; omega) _
    refine ⟨?_, ?_, ?_, ?_, ?_, ?_⟩
    · rw [hw2, ← hsz]
      rw [Lib.alloc_old _ _ _ (by simp)]
      exact heap_alloc_new _ _
    · rw [hw2, ← hsz]
      have := heap_alloc_new ((w1.alloc (Obj.cells #[Value.pointer none, Value.slice none 0 0] 70)).alloc (.cells #[.pointer (some ⟨w.heap.size, 0, none⟩)] 91)) (.cells #[.int .i64 n] 3)
      rwa [World.size_alloc] at this
    · exact r1.below q1 hs1
    · exact (q1.frozen (p := ⟨w.heap.size, 2, none⟩) hs1).trans f1
    · rw [hw2]
      exact ((Lib.IsBuilderF.of (Lib.fresh_isBuilder 70 5 w1)).alloc _).alloc _
    · exact below_then b1 (Nat.le_refl _) q1
  have hs2 : w2.heap.size = w1.heap.size + 3 := by rw [hw2]; simp
  have hrt : w.heap.size < w1.heap.size := hs1
  clear hw2 b1 r1 f1 hs1 hsz
  gi_wp2
  refine range_run (w1.heap.size + 1) (w1.heap.size + 1 + 1) w.heap.size n s t x h (by omega) (by omega) (by omega) (by omega) rfl (enters_of Try.func72 (by kernel_rfl) rfl) rfl
    (fun k W => RunI w w.heap.size w1.heap.size (w1.heap.size + 1) (w1.heap.size + 1 + 1) n s t x k k W) (fun k W => RunI w w.heap.size w1.heap.size (w1.heap.size + 1) (w1.heap.size + 1 + 1) n s t x k (k + 1) W) (fun _ _ => False)
    (runI_own (fun k => k) (fun k => k) (by omega) (by omega) (by omega) hI.2.2.2.2.2.size) (runI_own (fun k => k) (fun k => k + 1) (by omega) (by omega) (by omega) hI.2.2.2.2.2.size) (fun _ _ _ _ hs _ _ => hs)
    (fun k W hk => hk.at) (fun k W hk => hk.at) ?step hI
    (fun k V => { tmps := #[.agg #[.int .i64 s, .int .i64 t, .int .i64 x], .int .i64 n, .pointer (some ⟨w.heap.size, 0, none⟩), undef, .string ⟨#[]⟩, .bool false, .pointer (some ⟨w1.heap.size, 0, none⟩), undef, .int .u8 (V : Nat), .agg #[.int .i64 s, .int .i64 t, .int .i64 x], .bool true, .bool false, .bool false, .int .i64 n, .bool (decide ((n : Int) < 0)), .bool (decide ((n : Int) < 0)), .bool (decide ((n : Int) < 0)), .int .i64 n, .bool (decide ((600 : Int) < (n : Int))), .bool (decide ((n : Int) < 0) || decide ((600 : Int) < (n : Int))), .int .i64 n, .func (.func 72) #[] #[.pointer (some ⟨w1.heap.size + 1 + 1, 0, none⟩), .pointer (some ⟨w1.heap.size + 1, 0, none⟩)], .int .i64 k, .int .u8 (V : Nat), undef, undef, undef], defers := [] }) ?assign ?body ?done ?stop
  case step =>
    rintro k W W' ⟨a1, a2, a3, a4, a5, a6⟩ hg ⟨c1, c2, cR, cf⟩
    exact ⟨(hg.block _ (Array.getElem?_eq_some_iff.1 a1).1 (by simp; omega)).trans a1, (hg.block _ (Array.getElem?_eq_some_iff.1 a2).1 (by simp; omega)).trans a2, cR, cf, a5.kept hg (fun r e => by injection e with e; left; omega), a6.grown hg a6.size (fun r e => by injection e with e; omega)⟩
  case assign =>
    intro l k V W K hK
    gi_wp2
    exact hK
  case body =>
    intro l k W hk hkn
    obtain ⟨V, hV⟩ : ∃ V, 48 + stepsN s t k x % 2 = V := ⟨_, rfl⟩
    rw [hV]
    have hsW := hk.2.2.2.2.1
    have hWs : w1.heap.size ≤ W.heap.size := by have := (Array.getElem?_eq_some_iff.1 hk.1).1; omega
    gi_wp2
    refine ⟨trivial, CallsIn.inRound l ((callsIn_wide.2 (bld_byte w1.heap.size w1.heap.size (bitsL s t x k) V W hsW (by omega) (by rw [bitsL_len]; omega) hWs)).mono ?_)⟩
    rintro e W2 ⟨rfl, hB, hb, hk2⟩
    obtain ⟨a1, a2, a3, a4, a5, a6⟩ := hk
    have hM : RunI w w.heap.size w1.heap.size (w1.heap.size + 1) (w1.heap.size + 1 + 1) n s t x k (k + 1) W2 :=
      ⟨hk2 _ _ a1 (fun e => by injection e with e; omega) (fun c fz e => by injection e with _ e; exact absurd e (by decide)), hk2 _ _ a2 (fun e => by injection e with e; omega) (fun c fz e => by injection e with _ e; exact absurd e (by decide)),
        a3.below hb hrt, (hb.frozen (p := ⟨w.heap.size, 2, none⟩) hrt).trans a4, by rw [bitsL_succ, hV]; exact hB, a6.trans (hb.mono (by omega))⟩
    have hKF : KeepsFrom w2.heap.size W W2 := ⟨hb.size, fun q o hq ho hc => hk2 q o ho (fun e => by injection e with e; omega) (fun c fz e => by rw [e] at hc; exact absurd hc (by simp [Obj.isCells]))⟩
    gi_wp2
    exact ⟨hKF, hM⟩
  case done =>
    intro D W hD hk hDk
    obtain ⟨a1, a2, a3, a4, a5, a6⟩ := hk
    have hWs : w1.heap.size ≤ W.heap.size := by have := (Array.getElem?_eq_some_iff.1 a1).1; omega
    gi_wp2
    refine ⟨trivial, (callsIn_wide.2 (bld_string w1.heap.size w1.heap.size (bitsL s t x n) W a5 hWs)).mono ?_⟩
    rintro e W2 ⟨rfl, hB, hb, hk2⟩
    have hD2 : W2.heap[D]? = some (.deferred (some [])) := hk2 _ _ hDk (fun e => by injection e with e; omega) (fun c fz e => by cases e)
    have hfin : Below w.heap.size w (W2.putObj D (.deferred none)) := by
      have h1 := a6.trans (hb.mono (by omega))
      exact h1.grown (grownBy_putObj' W2 D (.deferred none)) h1.size (fun r e => by injection e with e; omega)
    gi_wp2
    refine ⟨by simp, .inl ⟨_, _, rfl, run_takeDeferred hD2, ?_⟩⟩
    exact ⟨_, results_tmp2 rfl _ _ _, rfl, hfin⟩
  case stop =>
    intro D k W _ _ hf _
    exact hf.elim
end Go.Proofs.Ytmlmpekhcnjehaa
