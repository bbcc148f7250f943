/- startsWith of the program: whether the bits of a register begin with a text. -/
import Derived.Test.YtmmonhagceacjaaRunReg
import Derived.Test.YtmmonhagceacjaaSeqTurn
namespace Go.Proofs.Ytmmonhagceacjaa
open Go.RowKit Go.Shelf
set_option linter.unusedVariables false
attribute [local go_sem] Oper.semAt_some
/-- The state of the loop, k rounds of the iterator being over; the first j bits are those of the text. -/
def StartI (w : World) (rb sb rs bp bc c s t x : Nat) (z : ByteArray) (k j : Nat) (W : World) : Prop :=
  W.heap[bp]? = some (.cells #[.pointer (some ⟨rb, 0, none⟩)] 108 (0, 0)) ∧ W.heap[bc]? = some (.cells #[.int .i64 c] 3 (0, 0)) ∧ RegAt W rb s t (stepsN s t k x : Nat) ∧ W.frozen? ⟨rb, 2, none⟩ = false ∧
    W.heap[sb]? = some (.cells #[.string z] 9 (0, 0)) ∧ W.heap[rs]? = some (.cells #[.bool false] 4 (0, 0)) ∧ Below w.heap.size w W ∧ ∀ i, i < j → 48 + stepsN s t i x % 2 = zb z i
def StartX (w : World) (rs s t x : Nat) (z : ByteArray) (W : World) : Prop :=
  W.heap[rs]? = some (.cells #[.bool false] 4 (0, 0)) ∧ Below w.heap.size w W ∧ runS s t x z.size ≠ z
theorem StartI.at {w W : World} {rb sb rs bp bc c s t x k j : Nat} {z : ByteArray} (h : StartI w rb sb rs bp bc c s t x z k j W) : RunAt W bp bc rb c s t (stepsN s t k x) :=
  ⟨by rw [Lib.cell_of_heap h.1]; rfl, by rw [Lib.cell_of_heap h.2.1]; rfl, h.2.2.1, h.2.2.2.1⟩
theorem startI_own {w : World} {rb sb rs bp bc c s t x B : Nat} {z : ByteArray} (f : Nat → Nat) (g : Nat → Nat) (h1 : rb < B) (h2 : bp < B) (h3 : bc < B) (h5 : sb < B) (h6 : rs < B) (h4 : w.heap.size ≤ B) :
    OwnFrom B (fun k W => StartI w rb sb rs bp bc c s t x z (f k) (g k) W) := by
  rintro k W W' row ⟨a1, a2, a3, a4, a5, a6, a7, a8⟩ hg hr
  have ne : ∀ q, q < B → some q ≠ row := fun q hq e => by have := (hr q e.symm).1; omega
  have kp : ∀ (q : Nat) (o : Obj), q < B → W.heap[q]? = some o → W'.heap[q]? = some o := fun q o hq ho => (hg.block q (Array.getElem?_eq_some_iff.1 ho).1 (ne q hq)).trans ho
  refine ⟨kp _ _ h2 a1, kp _ _ h3 a2, a3.kept hg (ne rb h1), frozen_kept' a4 a3.2.2.2 hg (ne rb h1), kp _ _ h5 a5, kp _ _ h6 a6, a7.grown hg a7.size (fun r e => ?_), a8⟩
  have := (hr r e).1
  omega
theorem startX_own {w : World} {rs s t x B : Nat} {z : ByteArray} (h6 : rs < B) (h4 : w.heap.size ≤ B) : OwnFrom B (fun (_ : Nat) W => StartX w rs s t x z W) := by
  rintro k W W' row ⟨a6, a7, a8⟩ hg hr
  refine ⟨(hg.block rs (Array.getElem?_eq_some_iff.1 a6).1 (fun e => by have := (hr rs e.symm).1; omega)).trans a6, a7.grown hg a7.size (fun r e => ?_), a8⟩
  have := (hr r e).1
  omega
theorem set_same_bool {W : World} {rs : Nat} {b b' : Bool} (h : W.heap[rs]? = some (.cells #[.bool b] 4 (0, 0))) : (W.setCell ⟨rs, 0, none⟩ (.bool b')).heap[rs]? = some (.cells #[.bool b'] 4 (0, 0)) := by
  rw [setCell_eq_setRow W rs 0 _ _ (0, 0) _ h]
  exact setRow_heap W rs _ _ _ _ h
theorem alloc_at (W : World) (o : Obj) (k : Nat) (h : W.heap.size = k) : (W.alloc o).heap[k]? = some o := by subst h; exact heap_alloc_new W o
set_option maxHeartbeats 2000000 in
set_option maxRecDepth 100000 in
theorem starts_any (s t x : Nat) (z : ByteArray) (w : World) (h : RegN s t x) (hz : z.size ≤ 600) :
    Calls Try.prog 79 #[.agg #[.int .i64 s, .int .i64 t, .int .i64 x], .string z] w fun e w' => e = .returned (.bool (decide (runS s t x z.size = z))) ∧ Below w.heap.size w w' := by
  refine (callsIn_wide (n := 5)).1 ?_
  refine callsIn_of_wp_marks Try.func79 rfl trivial ?_ rfl
  simp only [Try.ntmps79, List.size_toArray, List.length_cons, List.length_nil, Nat.reduceAdd, Nat.reduceSub, Array.replicate_succ, Array.replicate_zero, List.push_toArray, List.append_toArray, List.nil_append, List.cons_append]
  gi_wp2
  refine ⟨trivial, (callsIn_wide.2 (run_fn w.heap.size z.size _)).mono ?_⟩
  rintro e w2 ⟨rfl, hw2⟩
  have hsz : (((w.alloc (.cells #[.int .i64 s, .int .i64 t, .int .i64 x] 24)).alloc (.cells #[.string z] 9)).alloc (.cells #[.bool false] 4)).heap.size = w.heap.size + 1 + 1 + 1 := by simp
  rw [hsz]
  have hs2 : w2.heap.size = w.heap.size + 1 + 1 + 1 + 1 + 1 := by rw [hw2]; simp
  have hI : StartI w w.heap.size (w.heap.size + 1) (w.heap.size + 1 + 1) (w.heap.size + 1 + 1 + 1) (w.heap.size + 1 + 1 + 1 + 1) z.size s t x z 0 0 w2 := by
    have r1 := RegAt.new w 24 s t x
    have q1 : Below (w.heap.size + 1) (w.alloc (.cells #[.int .i64 s, .int .i64 t, .int .i64 x] 24)) w2 := by
      rw [hw2]
      exact ((((Below.refl _ _).alloc (by simp) _).alloc (by simp) _).alloc (by simp) _).alloc (by simp) _
    have q0 : Below w.heap.size w w2 := ((Below.refl _ w).alloc (Nat.le_refl _) _).trans (q1.mono (by omega))
    refine ⟨?_, ?_, r1.below q1 (by omega), (q1.frozen (p := ⟨w.heap.size, 2, none⟩) (by simp)).trans (by simp), ?_, ?_, q0, fun i hi => absurd hi (Nat.not_lt_zero i)⟩
    · rw [hw2, Lib.alloc_old _ _ _ (by first | (simp; done) | (simp; omega))]; exact alloc_at _ _ _ (by simp)
    · rw [hw2]; exact alloc_at _ _ _ (by simp)
    · rw [hw2, Lib.alloc_old _ _ _ (by first | (simp; done) | (simp; omega)), Lib.alloc_old _ _ _ (by first | (simp; done) | (simp; omega)), Lib.alloc_old _ _ _ (by first | (simp; done) | (simp; omega))]; exact alloc_at _ _ _ (by simp)
    · rw [hw2, Lib.alloc_old _ _ _ (by first | (simp; done) | (simp; omega)), Lib.alloc_old _ _ _ (by first | (simp; done) | (simp; omega))]; exact alloc_at _ _ _ (by simp)
  clear hw2 hsz
  gi_wp2
  refine range_run (w.heap.size + 1 + 1 + 1) (w.heap.size + 1 + 1 + 1 + 1) w.heap.size z.size s t x h (by omega) (by omega) (by omega) (by omega) rfl (enters_of Try.func97 (by kernel_rfl) rfl) rfl
    (fun k W => StartI w w.heap.size (w.heap.size + 1) (w.heap.size + 1 + 1) (w.heap.size + 1 + 1 + 1) (w.heap.size + 1 + 1 + 1 + 1) z.size s t x z k k W) (fun k W => StartI w w.heap.size (w.heap.size + 1) (w.heap.size + 1 + 1) (w.heap.size + 1 + 1 + 1) (w.heap.size + 1 + 1 + 1 + 1) z.size s t x z k (k + 1) W) (fun _ W => StartX w (w.heap.size + 1 + 1) s t x z W)
    (startI_own (fun k => k) (fun k => k) (by omega) (by omega) (by omega) (by omega) (by omega) (by omega)) (startI_own (fun k => k) (fun k => k + 1) (by omega) (by omega) (by omega) (by omega) (by omega) (by omega)) (startX_own (by omega) (by omega))
    (fun k W hk => hk.at) (fun k W hk => hk.at) ?step hI
    (fun k V => { tmps := #[.agg #[.int .i64 s, .int .i64 t, .int .i64 x], .string z, .pointer (some ⟨w.heap.size, 0, none⟩), .pointer (some ⟨w.heap.size + 1, 0, none⟩), .pointer (some ⟨w.heap.size + 1 + 1, 0, none⟩), .int .i64 k, .int .u8 (V : Nat), .string z, .int .i64 z.size, .func (.func 97) #[] #[.pointer (some ⟨w.heap.size + 1 + 1 + 1 + 1, 0, none⟩), .pointer (some ⟨w.heap.size + 1 + 1 + 1, 0, none⟩)], .int .i64 k, .int .u8 (V : Nat), undef, undef, undef, undef, undef], defers := [] }) ?assign ?body ?done ?stop
  case step =>
    rintro k W W' ⟨a1, a2, a3, a4, a5, a6, a7, a8⟩ hg ⟨c1, c2, cR, cf⟩
    have kp : ∀ (q : Nat) (o : Obj), w.heap.size ≠ q → W.heap[q]? = some o → W'.heap[q]? = some o := fun q o hq ho => (hg.block q (Array.getElem?_eq_some_iff.1 ho).1 (by simp; omega)).trans ho
    exact ⟨kp _ _ (by omega) a1, kp _ _ (by omega) a2, cR, cf, kp _ _ (by omega) a5, kp _ _ (by omega) a6, a7.grown hg a7.size (fun r e => by injection e with e; omega), a8⟩
  case assign =>
    intro l k V W K hK
    gi_wp2
    exact hK
  case body =>
    intro l k W hk hkn
    obtain ⟨a1, a2, a3, a4, a5, a6, a7, a8⟩ := hk
    have c3 : W.cell? ⟨w.heap.size + 1, 0, none⟩ = some (.string z) := by rw [Lib.cell_of_heap a5]; rfl
    have c4 : W.cell? ⟨w.heap.size + 1 + 1, 0, none⟩ = some (.bool false) := by rw [Lib.cell_of_heap a6]; rfl
    have f4 : W.frozen? ⟨w.heap.size + 1 + 1, 0, none⟩ = false := by simp [World.frozen?, a6]
    have HZ := Lib.hid (zb_at z k hkn)
    have i0 : (0 : Int) ≤ (k : Int) := by omega
    have i1 : (k : Int) < (z.size : Int) := by omega
    obtain ⟨V, hV⟩ : ∃ V, 48 + stepsN s t k x % 2 = V := ⟨_, rfl⟩
    rw [hV]
    have HV := Lib.hid hV
    have HA := Lib.hid (And.intro a1 (And.intro a2 (And.intro a3 (And.intro a4 (And.intro a5 (And.intro a6 (And.intro a7 a8)))))))
    clear hV a1 a2 a3 a4 a5 a6 a7 a8
    by_cases hd : V = zb z k
    · have ht : ((V : Int) != ((z[k].toNat : Nat) : Int)) = false := by rw [HZ.out, hd]; simp
      have HD := Lib.hid hd
      clear hd
      gi_wp2
      obtain ⟨a1, a2, a3, a4, a5, a6, a7, a8⟩ := HA.out
      exact ⟨⟨Nat.le_refl _, fun q o _ ho _ => ho⟩, a1, a2, a3, a4, a5, a6, a7, fun i hi => by
        by_cases e : i = k
        · subst e; rw [HV.out]; exact HD.out
        · exact a8 i (by omega)⟩
    · have ht : ((V : Int) != ((z[k].toNat : Nat) : Int)) = true := by rw [HZ.out]; simp; omega
      have HX : Hid (runS s t x z.size ≠ z) := Lib.hid (fun e => by
        have h1 := zb_strF (f := fun i => 48 + stepsN s t i x % 2) hkn (show 48 + stepsN s t k x % 2 < 256 by omega)
        have h2 : zb (runS s t x z.size) k = 48 + stepsN s t k x % 2 := h1
        rw [e, HV.out] at h2
        exact hd h2.symm)
      clear hd
      gi_wp2
      obtain ⟨a1, a2, a3, a4, a5, a6, a7, a8⟩ := HA.out
      exact ⟨⟨by simp, fun q o hq ho _ => (Below.heap_setCell _ _ _ _ (by show q ≠ w.heap.size + 1 + 1; omega)).trans ho⟩, set_same_bool a6, a7.setCell (p := ⟨w.heap.size + 1 + 1, 0, none⟩) (by show w.heap.size ≤ w.heap.size + 1 + 1; omega) _, HX.out⟩
  case done =>
    intro D W hD hk hDk
    obtain ⟨a1, a2, a3, a4, a5, a6, a7, a8⟩ := hk
    have c4 : W.cell? ⟨w.heap.size + 1 + 1, 0, none⟩ = some (.bool false) := by rw [Lib.cell_of_heap a6]; rfl
    have f4 : W.frozen? ⟨w.heap.size + 1 + 1, 0, none⟩ = false := by simp [World.frozen?, a6]
    have hyes : runS s t x z.size = z := ba_ext (runS_size _ _ _ _) fun i hi => by
      rw [runS_size] at hi
      have h1 : zb (runS s t x z.size) i = 48 + stepsN s t i x % 2 := zb_strF hi (by omega)
      rw [h1]; exact a8 i hi
    have HY := Lib.hid hyes
    have hD2 : (W.setCell ⟨w.heap.size + 1 + 1, 0, none⟩ (.bool true)).heap[D]? = some (.deferred (some [])) := (Below.heap_setCell _ _ _ _ (by show D ≠ w.heap.size + 1 + 1; omega)).trans hDk
    have h6 := set_same_bool (b' := true) a6
    have h7 := a7.setCell (p := ⟨w.heap.size + 1 + 1, 0, none⟩) (by show w.heap.size ≤ w.heap.size + 1 + 1; omega) (.bool true)
    clear hyes a1 a2 a3 a4 a5 a6 a7 a8 hDk
    have hfin : Below w.heap.size w ((W.setCell ⟨w.heap.size + 1 + 1, 0, none⟩ (.bool true)).putObj D (.deferred none)) := h7.grown (grownBy_putObj' _ D (.deferred none)) h7.size (fun r e => by injection e with e; omega)
    have hc : ((W.setCell ⟨w.heap.size + 1 + 1, 0, none⟩ (.bool true)).putObj D (.deferred none)).cell? ⟨w.heap.size + 1 + 1, 0, none⟩ = some (.bool true) := by
      rw [Lib.cell_of_heap ((World.putObj_heap_other (by omega)).trans h6)]; rfl
    gi_wp2
    refine ⟨by simp, .inl ⟨_, _, rfl, run_takeDeferred hD2, ?_⟩⟩
    exact ⟨_, by simp [results, Try.results79, go_sem, hc] <;> rfl, by rw [decide_eq_true HY.out], hfin⟩
  case stop =>
    intro D k W hD hkn hx hDk
    obtain ⟨h6, h7, h8⟩ := hx
    have hfin : Below w.heap.size w (W.putObj D (.deferred none)) := h7.grown (grownBy_putObj' _ D (.deferred none)) h7.size (fun r e => by injection e with e; omega)
    have hc : (W.putObj D (.deferred none)).cell? ⟨w.heap.size + 1 + 1, 0, none⟩ = some (.bool false) := by
      rw [Lib.cell_of_heap ((World.putObj_heap_other (by omega)).trans h6)]; rfl
    gi_wp2
    refine ⟨by simp, .inl ⟨_, _, rfl, run_takeDeferred hDk, ?_⟩⟩
    exact ⟨_, by simp [results, Try.results79, go_sem, hc] <;> rfl, by rw [decide_eq_false h8], hfin⟩
end Go.Proofs.Ytmmonhagceacjaa
