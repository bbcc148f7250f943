/- A range over the bits of a register: the iterator steps the register, through a pointer, between two rounds. Its contract, and the law of the loop. -/
import Derived.Test.YtmlmpekhcnjehaaRegBase
import Derived.RangeFuncNested
import Derived.RangeFuncBound
import Derived.RangeFuncCalls
import Derived.RangeFuncLeaves
import Derived.Shelf.Abstract
import Derived.WalkKit
import Derived.OwnWalkIn
import Derived.TacticsInMore
import Derived.LoopNIn
import Derived.LoopIn
namespace Go.Proofs.Ytmlmpekhcnjehaa
open Go.RowKit Go.Shelf
set_option linter.unusedVariables false
attribute [local go_sem] Oper.semAt_some
/-- What the iterator has captured, and the register that it steps. -/
def RunAt (W : World) (bp bc rb c s t x : Nat) : Prop :=
  W.cell? ⟨bp, 0, none⟩ = some (.pointer (some ⟨rb, 0, none⟩)) ∧ W.cell? ⟨bc, 0, none⟩ = some (.int .i64 c) ∧ RegAt W rb s t x ∧ W.frozen? ⟨rb, 2, none⟩ = false
theorem bit_value (x : Nat) (h : x < 256) : ∃ B V : Nat, bits .and .i64 (x : Int) 1 = (B : Int) ∧ B < 2 ∧ (48 : Int) + (B : Int) = (V : Int) ∧ V = 48 + x % 2 ∧ V < 50 :=
  ⟨x % 2, 48 + x % 2, and64_one x (by omega), by omega, by omega, rfl, by omega⟩
set_option maxRecDepth 100000 in
set_option maxHeartbeats 1000000 in
theorem run1_in (n l bp bc rb c s t x : Nat) (hR : RegN s t x) (hc : c ≤ 100000) (hp : bp ≠ rb) (hb : bc ≠ rb) (J K Jx : Nat → World → Prop)
    (hJ : ∀ k W, J k W → RunAt W bp bc rb c s t (stepsN s t k x)) (hK : ∀ k W, K k W → RunAt W bp bc rb c s t (stepsN s t k x))
    (hY : ∀ (k : Nat) W, J k W → k < c → YieldAt Fence.wide (n - 1) Try.prog l #[.int .i64 k, .int .u8 ((48 + stepsN s t k x % 2 : Nat) : Int)] W fun e W' =>
      (e = .returned (.bool true) ∧ K k W') ∨ (e = .returned (.bool false) ∧ Jx k W'))
    (hS : ∀ (k : Nat) W W', K k W → W.grownBy W' (some rb) → RunAt W' bp bc rb c s t (stepsN s t (k + 1) x) → J (k + 1) W')
    (W : World) (h0 : J 0 W) :
    CallsIn Fence.wide n Try.prog 72 #[.func (.yield l) #[] #[], .pointer (some ⟨bc, 0, none⟩), .pointer (some ⟨bp, 0, none⟩)] W fun e W' => (∃ v, e = .returned v) ∧ (J c W' ∨ ∃ k, k < c ∧ Jx k W') := by
  have hW := (hJ 0 W h0).2.1
  refine callsIn_of_wp Try.func72 rfl trivial ?_ rfl
  simp only [Try.ntmps72, List.size_toArray, List.length_cons, List.length_nil, Nat.reduceAdd, Nat.reduceSub, Array.replicate_succ, Array.replicate_zero, List.push_toArray, List.append_toArray, List.nil_append, List.cons_append]
  gi_wp2
  gi_loopw [6] (fun i wr => ∃ k : Nat, k ≤ c ∧ i = .int .i64 k ∧ J k wr) (fun i _ => c - (intOf i).toNat)
  case atStart => exact ⟨0, by omega, rfl, h0⟩
  case round =>
    obtain ⟨k, hk, rfl, hj⟩ := hrel
    by_cases hlt : k < c
    · obtain ⟨c1, c2, ⟨d0, d1, d2, dl⟩, df⟩ := hJ k wr hj
      obtain ⟨fn, tmps, assign, body, hy, hRd⟩ := hY k wr hj hlt
      have hx8 := Nat.lt_of_lt_of_le (hR.steps k).lt (tw_le s hR.hi)
      obtain ⟨B, V, v1, v2, v3, v4, v5⟩ := bit_value (stepsN s t k x) hx8
      rw [← v4] at hy
      obtain ⟨X, hX⟩ : ∃ X, stepsN s t k x = X := ⟨_, rfl⟩
      rw [hX] at d2 v1 hx8
      have HX := Lib.hid hX
      have V4 := Lib.hid v4
      clear hX v4
      gi_wp2
      refine ⟨fun h => (by simp [Fence.wide] at h), hRd.mono ?_⟩
      rintro e W' (⟨rfl, hk'⟩ | ⟨rfl, hx'⟩)
      · obtain ⟨m1, m2, mR, mf⟩ := hK k W' hk'
        have mR2 := mR
        rw [HX.out] at mR2
        clear v1 v2 v3 hx8 d0 d1 d2 dl df c1 c2 hy hRd
        gi_wp2
        refine ⟨trivial, fun h => (by simp [Fence.wide] at h), (callsIn_wide.2 (step_any rb s t X _ (by rw [← HX.out]; exact hR.steps k) mR2 mf)).mono ?_⟩
        rintro e W2 ⟨⟨v, rfl⟩, qR, qf, hg⟩
        have hj2 := hS k W' W2 hk' hg ⟨hg.cell m1 (by simp [hp]), hg.cell m2 (by simp [hb]), by rw [show stepsN s t (k + 1) x = stepN s t (stepsN s t k x) from rfl, HX.out]; exact qR, qf⟩
        clear qR qf hg mR mR2 mf m1 m2 hk'
        gi_wp2
        go_roundw
        case rel => exact ⟨k + 1, by omega, by go_num, hj2⟩
        case measure => simp [intOf]; omega
      · gi_wp2
        refine bodyPost_ret (results_none rfl _ _ _) rfl ?_
        exact ⟨⟨_, rfl⟩, .inr ⟨k, hlt, hx'⟩⟩
    · obtain rfl : k = c := by omega
      gi_wp2
      go_end0
      exact ⟨⟨_, rfl⟩, .inl hj⟩
/-- How a round may be left: it goes on, or it returns. -/
def runPost (B : Nat) (M Ix : Nat → World → Prop) (k : Nat) (W : World) : Exit → Act → World → Prop
  | .normal, _, W' => KeepsFrom B W W' ∧ M k W'
  | .ret, _, W' => KeepsFrom B W W' ∧ Ix k W'
  | _, _, _ => False
/-- The loop over the bits of a register. I: ahead of a round; M: behind its body, ahead of the step; Ix: the body has returned. -/
theorem range_run {n : Nat} {g : Operand} {ps : Array Tmp} {assign body : Code} {Q : Exit → Act → World → Prop} {a : Act} {w : World} (bp bc rb c s t x : Nat) (hR : RegN s t x) (hc : c ≤ 100000)
    (hp : bp ≠ rb) (hb : bc ≠ rb) (hrw : rb < w.heap.size) (hg : a.eval g = .func (.func 72) #[] #[.pointer (some ⟨bc, 0, none⟩), .pointer (some ⟨bp, 0, none⟩)])
    (eg : ∀ args w, (callFunc 72 args).run Try.prog w = .ok (.enter 72 args) w) (hps : ps.size = 2)
    (I M Ix : Nat → World → Prop) (hI : OwnFrom w.heap.size I) (hM : OwnFrom w.heap.size M) (hIx : OwnFrom w.heap.size Ix)
    (rI : ∀ k W, I k W → RunAt W bp bc rb c s t (stepsN s t k x)) (rM : ∀ k W, M k W → RunAt W bp bc rb c s t (stepsN s t k x))
    (hS : ∀ (k : Nat) W W', M k W → W.grownBy W' (some rb) → RunAt W' bp bc rb c s t (stepsN s t (k + 1) x) → I (k + 1) W') (h0 : I 0 w) (a₁ : Nat → Nat → Act)
    (hassign : ∀ (l k V : Nat) (W : World) (K : Act → World → Prop), K (a₁ k V) W →
      assign.wpIn (Fence.wide.inRound l) (n - 1 - 1) Try.prog (Exit.then K (fun _ _ _ => False)) { tmps := (ps.zip #[.int .i64 k, .int .u8 (V : Nat)]).foldl (fun t (p, v) => t.setIfInBounds p v) a.tmps, defers := [] } W)
    (hbody : ∀ (l k : Nat) (W : World), I k W → k < c → body.wpIn (Fence.wide.inRound l) (n - 1 - 1) Try.prog (runPost w.heap.size M Ix k W) (a₁ k (48 + stepsN s t k x % 2)) W)
    (hdone : ∀ (D : Nat) (W : World), w.heap.size ≤ D → I c W → W.heap[D]? = some (.deferred (some [])) → Q .normal { a with defers := { target := .collected D, args := #[] } :: a.defers } W)
    (hstop : ∀ (D k : Nat) (W : World), w.heap.size ≤ D → k < c → Ix k W → W.heap[D]? = some (.deferred (some [])) → Code.ret.wpIn Fence.wide n Try.prog Q { a with defers := { target := .collected D, args := #[] } :: a.defers } W) :
    (Code.rangeFunc g ps assign body).wpIn Fence.wide n Try.prog Q a w := by
  refine wpIn_rangeFunc fun fn _ => ?_
  -- the two blocks of the loop's own: the deferred calls of its rounds, and its record
  let R : LoopState → Option Code → Loop := fun st pe => { state := st, pending := pe, fn, tmps := a.tmps, params := ps, assign, body, defers := w.heap.size }
  let V : LoopState → Option Code → World → Prop := fun st pe W => W.heap[w.heap.size + 1]? = some (.loop (R st pe)) ∧ W.heap[w.heap.size]? = some (.deferred (some []))
  have vlt : ∀ {st pe W}, V st pe W → w.heap.size + 1 < W.heap.size := fun h => (Array.getElem?_eq_some_iff.1 h.1).1
  have vput : ∀ {st pe W} (st' : LoopState) (pe' : Option Code), V st pe W → V st' pe' (W.putObj (w.heap.size + 1) (.loop (R st' pe'))) := fun st' pe' h =>
    ⟨World.putObj_heap_same (vlt h), (World.putObj_heap_other (by omega)).trans h.2⟩
  have vkeep : ∀ {st pe W W'}, V st pe W → KeepsFrom w.heap.size W W' → V st pe W' := fun h k => ⟨k.same _ _ (by omega) h.1 rfl, k.same _ _ (Nat.le_refl _) h.2 rfl⟩
  have vgrown : ∀ {st pe W W'}, V st pe W → W.grownBy W' (some rb) → V st pe W' := fun h k =>
    ⟨(k.block _ (vlt h) (fun e => by injection e with e; omega)).trans h.1, (k.block _ (by have := vlt h; omega) (fun e => by injection e with e; omega)).trans h.2⟩
  have iput : ∀ {P : Nat → World → Prop} {k W st pe} (o : Obj), OwnFrom w.heap.size P → V st pe W → P k W → P k (W.putObj (w.heap.size + 1) o) := fun o hP h hp => hP.putObj o hp (by omega) h.1 rfl
  let W1 := (w.alloc (.deferred (some []))).alloc (.loop (R .ready none))
  have v1 : V .ready none W1 := by
    refine ⟨?_, (Below.heap_alloc _ _ _ (by simp)).trans (World.alloc_heap_new w _)⟩
    have := World.alloc_heap_new (w.alloc (.deferred (some []))) (.loop (R .ready none))
    rwa [World.size_alloc] at this
  refine ⟨w.heap.size + 1, [{ target := .collected w.heap.size, args := #[] }], W1, { target := .fn (.func 72) #[.pointer (some ⟨bc, 0, none⟩), .pointer (some ⟨bp, 0, none⟩)], args := #[.func (.yield (w.heap.size + 1)) #[] #[]] }, W1, 72,
    #[.func (.yield (w.heap.size + 1)) #[] #[], .pointer (some ⟨bc, 0, none⟩), .pointer (some ⟨bp, 0, none⟩)], W1, run_enterLoop_outer _ _ _ _ _, ?_, fun _ _ => trivial, ?_, fun h => (by simp [Fence.wide] at h), ?_⟩
  · simp only [resolve, hg]
    simp [go_sem]
  · simp [invoke, go_sem, eg]
  · refine (run1_in (n - 1) (w.heap.size + 1) bp bc rb c s t x hR hc hp hb (fun k W => I k W ∧ V .ready none W) (fun k W => M k W ∧ V .ready none W) (fun k W => Ix k W ∧ V .done (some .ret) W)
      (fun k W h => rI k W h.1) (fun k W h => rM k W h.1) ?_ (fun k W W' h hg' hr => ⟨hS k W W' h.1 hg' hr, vgrown h.2 hg'⟩) W1 ⟨hI.alloc _ (hI.alloc _ h0), v1⟩).mono ?_
    · intro k W ⟨hi, hv⟩ hk
      refine ⟨fn, _, assign, body, run_yield (args := #[.int .i64 k, .int .u8 ((48 + stepsN s t k x % 2 : Nat) : Int)]) hv.1 (by rw [show (R .ready none).params = ps from rfl, hps]; rfl), roundIn_of_wpIn trivial (hassign _ k _ W _ ?_)⟩
      refine ⟨_, run_beginRound hv.1 rfl, ?_⟩
      have hb2 := vput .busy none hv
      refine wpIn_mono (hbody _ k _ (iput _ hI hv hi) hk) ?_
      rintro e a3 W3 hpost
      cases e with
      | normal =>
        obtain ⟨hk3, hm3⟩ := hpost
        have v3 := vkeep hb2 hk3
        exact ⟨_, _, run_endRound none v3.1, .inl ⟨rfl, iput _ hM v3 hm3, vput .ready none v3⟩⟩
      | ret =>
        obtain ⟨hk3, hm3⟩ := hpost
        have v3 := vkeep hb2 hk3
        exact ⟨_, _, run_endRound (some .ret) v3.1, .inr ⟨rfl, iput _ hIx v3 hm3, vput .done (some .ret) v3⟩⟩
      | exit id => exact hpost.elim
      | goto t => exact hpost.elim
      | panic ch => exact hpost.elim
      | outgrown => exact hpost.elim
    · rintro e W2 ⟨⟨v, rfl⟩, ⟨hi, hv⟩ | ⟨k, hk, hi, hv⟩⟩
      · exact ⟨none, _, run_endLoop hv.1 (by simp [R]), hdone _ _ (Nat.le_refl _) (iput _ hI hv hi) ((World.putObj_heap_other (by omega)).trans hv.2)⟩
      · exact ⟨some .ret, _, run_endLoop hv.1 (by simp [R]), hstop _ k _ (Nat.le_refl _) hk (iput _ hIx hv hi) ((World.putObj_heap_other (by omega)).trans hv.2)⟩
end Go.Proofs.Ytmlmpekhcnjehaa
