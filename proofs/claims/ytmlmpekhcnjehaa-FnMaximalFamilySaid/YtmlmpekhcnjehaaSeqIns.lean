/- Ascending lists: the model's l1Insert and l2Has, and what is true of the lists that they make. -/
import Derived.Test.YtmlmpekhcnjehaaSeqTable
namespace Go.Proofs.Ytmlmpekhcnjehaa
open Go.RowKit
set_option linter.unusedVariables false
/-- A list's elements by their index. -/
def LF (l : List Int) : Nat → Int := fun j => l.getD j 0
/-- A number put ahead of the first greater one. -/
def insL (n : Int) : List Int → List Int
  | [] => [n]
  | x :: l => if n < x then n :: x :: l else x :: insL n l
def gtL (n : Int) (l : List Int) : Bool := l.any fun x => decide (n < x)
theorem insL_length (n : Int) : ∀ l, (insL n l).length = l.length + 1
  | [] => rfl
  | x :: l => by
    simp only [insL]
    split
    · rfl
    · simp only [List.length_cons, insL_length n l]
theorem gtL_cons (n x : Int) (l : List Int) : gtL n (x :: l) = (decide (n < x) || gtL n l) := rfl
theorem gtL_app (n x : Int) (l : List Int) : gtL n (l ++ [x]) = (gtL n l || decide (n < x)) := by unfold gtL; simp
theorem insL_app (n x : Int) : ∀ l, gtL n l = true → insL n (l ++ [x]) = insL n l ++ [x]
  | [], h => by simp [gtL] at h
  | y :: l, h => by
    rw [gtL_cons] at h
    simp only [List.cons_append, insL]
    by_cases hy : n < y
    · simp [hy]
    · simp only [hy, decide_false, Bool.false_or] at h
      simp only [hy, if_false, List.cons_append, insL_app n x l h]
theorem insL_new (n x : Int) (hx : n < x) : ∀ l, gtL n l = false → insL n (l ++ [x]) = l ++ [n] ++ [x]
  | [], h => by simp [insL, hx]
  | y :: l, h => by
    rw [gtL_cons, Bool.or_eq_false_iff] at h
    have hy : ¬ n < y := by simpa using h.1
    simp only [List.cons_append, insL, hy, if_false]
    rw [insL_new n x hx l h.2]
theorem insL_end (n : Int) : ∀ l, gtL n l = false → insL n l = l ++ [n]
  | [], h => rfl
  | y :: l, h => by
    rw [gtL_cons, Bool.or_eq_false_iff] at h
    have hy : ¬ n < y := by simpa using h.1
    simp only [List.cons_append, insL, hy, if_false, insL_end n l h.2]
/-- What the loop of l1Insert has made of the first elements. -/
def InsAt (n : Int) (t : List Int) (dd : Bool) (lo : List Int) : Prop := gtL n t = dd ∧ lo = if dd then insL n t else t
theorem InsAt.new {n x : Int} {t lo : List Int} (h : InsAt n t false lo) (hx : n < x) : InsAt n (t ++ [x]) true (lo ++ [n] ++ [x]) := by
  obtain ⟨h1, rfl⟩ := h
  exact ⟨by rw [gtL_app]; simp [hx], by simp only [if_true]; exact (insL_new n x hx _ h1).symm⟩
theorem InsAt.old {n x : Int} {t lo : List Int} (h : InsAt n t false lo) (hx : ¬ n < x) : InsAt n (t ++ [x]) false (lo ++ [x]) := by
  obtain ⟨h1, rfl⟩ := h
  exact ⟨by rw [gtL_app, h1]; simp; omega, by simp⟩
theorem InsAt.done {n x : Int} {t lo : List Int} (h : InsAt n t true lo) : InsAt n (t ++ [x]) true (lo ++ [x]) := by
  obtain ⟨h1, rfl⟩ := h
  exact ⟨by rw [gtL_app, h1]; rfl, by simp only [if_true]; exact (insL_app n x _ h1).symm⟩
theorem InsAt.len {n : Int} {t lo : List Int} {dd : Bool} (h : InsAt n t dd lo) : lo.length ≤ t.length + 1 := by
  obtain ⟨h1, rfl⟩ := h
  cases dd with
  | true => simp only [if_true, insL_length]; omega
  | false => simp
theorem take_next (l : List Int) (k : Nat) (h : k < l.length) : l.take (k + 1) = l.take k ++ [LF l k] := by
  rw [List.take_succ_eq_append_getElem h]
  unfold LF
  rw [List.getD_eq_getElem?_getD, List.getElem?_eq_getElem h]
  rfl
theorem OF.snoc {w : World} {B : Nat} {v : Value} {l : List Int} {y : Int} (h : OF w B v (l.length + 1) (fun j => if j < l.length then LF l j else y)) : OF w B v (l ++ [y]).length (LF (l ++ [y])) := by
  rw [List.length_append]
  refine OF.congr h fun j hj => ?_
  simp only [List.length_singleton] at hj
  unfold LF
  by_cases e : j < l.length
  · rw [if_pos e, List.getD_eq_getElem?_getD, List.getD_eq_getElem?_getD, List.getElem?_append_left e]
  · obtain rfl : j = l.length := by omega
    rw [if_neg e, List.getD_eq_getElem?_getD, List.getElem?_append_right (Nat.le_refl _)]
    simp
set_option maxHeartbeats 1600000 in
set_option maxRecDepth 100000 in
theorem l1Insert_any (v : Value) (B : Nat) (l : List Int) (n : Int) (w : World) (hv : OF w B v l.length (LF l)) (hl : l.length ≤ 1000) :
    Calls Try.prog 68 #[v, .int .i64 n] w fun e w' => ∃ v', e = .returned v' ∧ OF w' w.heap.size v' (insL n l).length (LF (insL n l)) ∧ Below w.heap.size w w' := by
  obtain ⟨a, cap, rfl, ha⟩ := hv.form
  by_cases h0 : 0 < l.length
  · obtain ⟨g, rfl, -, -, -⟩ := ha h0
    have Q := Lib.hid hv
    clear hv ha
    go_enter Try.func68, Try.ntmps68
    go_wp2
    go_loopw [5, 6, 7] (fun o d i wr => ∃ (k : Nat) (lo : List Int) (dd : Bool), k ≤ l.length ∧ i = .int .i64 k ∧ d = .bool dd ∧ OF wr w.heap.size o lo.length (LF lo) ∧ Hid (InsAt n (l.take k) dd lo) ∧ Below w.heap.size w wr) (fun _ _ i _ => l.length - (intOf i).toNat)
    case atStart => exact ⟨0, [], false, by omega, rfl, rfl, OF.empty w _, ⟨rfl, rfl⟩, (Below.refl _ _).alloc (Nat.le_refl _) _⟩
    case round =>
      obtain ⟨k, lo, dd, hk, rfl, rfl, rO, rI, rb⟩ := hrel
      have hlo : lo.length ≤ 1001 := by have h1 := rI.out.len; have h2 := List.length_take_le k l; omega
      by_cases hlt : k < l.length
      · have c1 := ((Q.out.below rb).at k hlt).1
        have hT := Lib.hid (take_next l k hlt)
        obtain ⟨x, hx⟩ : ∃ x, LF l k = x := ⟨_, rfl⟩
        rw [hx] at c1 hT
        have HX := Lib.hid hx
        have i0 : (0 : Int) ≤ (k : Int) := by omega
        have i1 : (k : Int) < (l.length : Int) := by omega
        have bs := rb.size
        clear hx
        cases dd with
        | true =>
          go_wp2_with (at_builtin; refine wpList_append_int rfl _ _ rfl w.heap.size _ lo.length (LF lo) rfl (rO.alloc _) wr.heap.size 1 x rfl (by simp) (by omega) (by simp; omega) ?_; intro v' w' O2 g2)
          have hb' : Below w.heap.size w w' := (rb.alloc rb.size _).grown g2 (by simp; omega) (fun q hq => (rO.lt q hq).1)
          have O3 := O2.snoc
          have I3 : Hid (InsAt n (l.take (k + 1)) true (lo ++ [x])) := Lib.hid (by rw [hT.out]; exact rI.out.done)
          clear rO O2 g2 rb rI c1
          go_roundw
          case rel => exact ⟨k + 1, _, true, by omega, by go_num, rfl, O3, I3, hb'⟩
          case measure => simp [intOf]; omega
        | false =>
          by_cases hnx : n < x
          · go_wp2_with (first
              | (at_builtin; refine wpList_append_int rfl (.tmp 25) (.tmp 27) rfl w.heap.size _ lo.length (LF lo) rfl (rO.alloc _) wr.heap.size 1 n rfl (by simp) (by omega) (by simp; omega) ?_; intro v1 w1 O2 g2; have hb1 : Below w.heap.size w w1 := (rb.alloc rb.size _).grown g2 (by simp; omega) (fun q hq => (rO.lt q hq).1); have O3 := O2.snoc; have bs1 := hb1.size; have c2 := ((Q.out.below hb1).at k hlt).1; rw [HX.out] at c2)
              | (at_builtin; refine wpList_append_int rfl (.tmp 29) (.tmp 34) rfl w.heap.size _ (lo ++ [n]).length (LF (lo ++ [n])) rfl (O3.alloc _) w1.heap.size 1 x rfl (by simp) (by simp; omega) (by simp; omega) ?_; intro v2 w2 O4 g4))
            have hb2 : Below w.heap.size w w2 := (hb1.alloc hb1.size _).grown g4 (by simp; omega) (fun q hq => (O3.lt q hq).1)
            have O5 := O4.snoc
            have I5 : Hid (InsAt n (l.take (k + 1)) true (lo ++ [n] ++ [x])) := Lib.hid (by rw [hT.out]; exact rI.out.new hnx)
            go_roundw
            case rel => exact ⟨k + 1, _, true, by omega, by go_num, rfl, O5, I5, hb2⟩
            case measure => simp [intOf]; omega
          · have t1 : decide (n < x) = false := decide_eq_false hnx
            go_wp2_with (at_builtin; refine wpList_append_int rfl _ _ rfl w.heap.size _ lo.length (LF lo) rfl (rO.alloc _) wr.heap.size 1 x rfl (by simp) (by omega) (by simp; omega) ?_; intro v' w' O2 g2)
            have hb' : Below w.heap.size w w' := (rb.alloc rb.size _).grown g2 (by simp; omega) (fun q hq => (rO.lt q hq).1)
            have O3 := O2.snoc
            have I3 : Hid (InsAt n (l.take (k + 1)) false (lo ++ [x])) := Lib.hid (by rw [hT.out]; exact rI.out.old hnx)
            clear rO O2 g2 rb rI c1
            go_roundw
            case rel => exact ⟨k + 1, _, false, by omega, by go_num, rfl, O3, I3, hb'⟩
            case measure => simp [intOf]; omega
      · obtain rfl : k = l.length := by omega
        have hI := rI.out
        rw [List.take_length] at hI
        have HI := Lib.hid hI
        have bs := rb.size
        clear hI rI
        cases dd with
        | true =>
          go_wp2
          go_ret
          have e : lo = insL n l := HI.out.2
          exact ⟨_, rfl, by rw [← e]; exact rO, rb⟩
        | false =>
          go_wp2_with (at_builtin; refine wpList_append_int rfl _ _ rfl w.heap.size _ lo.length (LF lo) rfl (rO.alloc _) wr.heap.size 1 n rfl (by simp) (by omega) (by simp; omega) ?_; intro v' w' O2 g2)
          have hb' : Below w.heap.size w w' := (rb.alloc rb.size _).grown g2 (by simp; omega) (fun q hq => (rO.lt q hq).1)
          have O3 := O2.snoc
          have e : lo ++ [n] = insL n l := by rw [insL_end n l HI.out.1]; exact congrArg (· ++ [n]) HI.out.2
          go_ret
          exact ⟨_, rfl, by rw [← e]; exact O3, hb'⟩
  · obtain rfl : l = [] := by cases l with | nil => rfl | cons x l => simp at h0
    clear hv ha
    go_enter Try.func68, Try.ntmps68
    go_wp2
    go_loopw [5, 6, 7] (fun o d i wr => o = .slice (some ⟨w.heap.size, 0, none⟩) 0 0 ∧ d = .bool false ∧ i = .int .i64 (0 : Nat) ∧ wr = w.alloc (.cells #[] 3)) (fun _ _ i _ => (intOf i).toNat)
    case atStart => exact ⟨rfl, rfl, rfl, rfl⟩
    case round =>
      obtain ⟨rfl, rfl, rfl, rfl⟩ := hrel
      have O0 := OF.empty w (LF [])
      have b0 : Below w.heap.size w (w.alloc (.cells #[] 3)) := (Below.refl _ _).alloc (Nat.le_refl _) _
      obtain ⟨W, hW⟩ : ∃ W, w.alloc (.cells #[] 3) = W := ⟨_, rfl⟩
      rw [hW] at O0 b0 ⊢
      clear hW
      have bs := b0.size
      go_wp2_with (at_builtin; refine wpList_append_int rfl _ _ rfl w.heap.size _ 0 (LF []) rfl (O0.alloc _) W.heap.size 1 n rfl (by simp) (by omega) (by simp; omega) ?_; intro v' w' O2 g2)
      have hb' : Below w.heap.size w w' := (b0.alloc b0.size _).grown g2 (by simp; omega) (fun q hq => (O0.lt q hq).1)
      have O3 := OF.snoc (l := []) O2
      go_ret
      exact ⟨_, rfl, O3, hb'⟩
set_option maxHeartbeats 1600000 in
set_option maxRecDepth 100000 in
theorem l2Has_any (v : Value) (B : Nat) (l : List Int) (n : Int) (w : World) (hv : OF w B v l.length (LF l)) (hl : l.length ≤ 1000) :
    Calls Try.prog 67 #[v, .int .i64 n] w fun e w' => e = .returned (.bool (decide (n ∈ l))) ∧ w = w' := by
  obtain ⟨a, cap, rfl, ha⟩ := hv.form
  by_cases h0 : 0 < l.length
  · obtain ⟨g, rfl, -, -, -⟩ := ha h0
    have Q := Lib.hid hv
    clear hv ha
    go_enter Try.func67, Try.ntmps67
    go_wp2
    go_loop [5] (fun i => ∃ k : Nat, k ≤ l.length ∧ i = .int .i64 k ∧ Hid (n ∉ l.take k)) (fun i => l.length - (intOf i).toNat)
    case atStart => exact ⟨0, by omega, rfl, Lib.hid (by simp)⟩
    case round =>
      obtain ⟨k, hk, rfl, rI⟩ := hrel
      by_cases hlt : k < l.length
      · have c1 := (Q.out.at k hlt).1
        have hT := Lib.hid (take_next l k hlt)
        obtain ⟨x, hx⟩ : ∃ x, LF l k = x := ⟨_, rfl⟩
        rw [hx] at c1 hT
        have i0 : (0 : Int) ≤ (k : Int) := by omega
        have i1 : (k : Int) < (l.length : Int) := by omega
        clear hx
        by_cases hnx : x = n
        · subst hnx
          have hm : decide (x ∈ l) = true := decide_eq_true (by
            have : x ∈ l.take (k + 1) := by rw [hT.out]; simp
            exact List.mem_of_mem_take this)
          have HM := Lib.hid hm
          clear hm
          go_wp2
          go_ret
          exact ⟨ret_bool HM.out.symm, rfl⟩
        · have t1 : (x == n) = false := beq_eq_false_iff_ne.2 hnx
          have I3 : Hid (n ∉ l.take (k + 1)) := Lib.hid (by rw [hT.out]; simp only [List.mem_append, List.mem_singleton, not_or]; exact ⟨rI.out, fun e => hnx e.symm⟩)
          clear rI
          go_wp2
          go_round
          case rel => exact ⟨k + 1, by omega, by go_num, I3⟩
          case measure => simp [intOf]; omega
      · obtain rfl : k = l.length := by omega
        have hm : decide (n ∈ l) = false := decide_eq_false (by have := rI.out; rwa [List.take_length] at this)
        have HM := Lib.hid hm
        clear hm
        go_wp2
        go_ret
        exact ⟨ret_bool HM.out.symm, rfl⟩
  · obtain rfl : l = [] := by cases l with | nil => rfl | cons x l => simp at h0
    clear hv ha
    go_enter Try.func67, Try.ntmps67
    go_wp2
    go_loop [5] (fun i => i = .int .i64 (0 : Nat)) (fun i => (intOf i).toNat)
    case atStart => exact rfl
    case round =>
      obtain rfl := hrel
      go_wp2
      go_ret
      exact ⟨by simp, rfl⟩
end Go.Proofs.Ytmlmpekhcnjehaa
