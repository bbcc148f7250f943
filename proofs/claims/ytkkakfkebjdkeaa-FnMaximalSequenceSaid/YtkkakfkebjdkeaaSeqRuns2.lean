/- RunLengths of the program. -/
import Derived.Test.YtkkakfkebjdkeaaSeqRuns
import Derived.Test.YtkkakfkebjdkeaaSeqFun
namespace Go.Proofs.Ytkkakfkebjdkeaa
open Go.RowKit
set_option linter.unusedVariables false
theorem snoc_last (l : List Int) (y : Int) : LF (l ++ [y]) l.length = y := by unfold LF; rw [List.getD_eq_getElem?_getD, List.getElem?_append_right (Nat.le_refl _)]; simp
theorem OF.snoc1 {w : World} {B : Nat} {v : Value} {l : List Int} {y : Int} (h : OF w B v (l.length + 1) (fun j => if j < l.length then LF l j else y)) : OF w B v (l.length + 1) (LF (l ++ [y])) := by
  have := OF.snoc h
  rwa [List.length_append, List.length_singleton] at this
theorem snoc_set {w : World} {B g cap : Nat} {l : List Int} {x : Int} (h : OF w B (.slice (some ⟨g, 0, none⟩) (l.length + 1) cap) (l.length + 1) (LF (l ++ [x]))) (y : Int) :
    OF (w.setCell ⟨g, l.length, none⟩ (.int .i64 y)) B (.slice (some ⟨g, 0, none⟩) (l.length + 1) cap) (l ++ [y]).length (LF (l ++ [y])) := by
  refine OF.snoc (OF.set h l.length y (by omega) fun j hj => ?_)
  by_cases e : j = l.length
  · rw [if_pos e, if_neg (by omega)]
  · rw [if_neg e, if_pos (by omega)]
    unfold LF
    rw [List.getD_eq_getElem?_getD, List.getD_eq_getElem?_getD, List.getElem?_append_left (by omega)]
set_option maxHeartbeats 1600000 in
set_option maxRecDepth 100000 in
theorem iRuns_yes (z : ByteArray) (w : World) (h : seqB z = true) :
    Calls Try.prog 56 #[.string z] w fun e w' => ∃ v, e = .returned v ∧ OF w' w.heap.size v (srt (runsA (shB z (modN (startN z : Nat) z.size)) z.size)).length (LF (srt (runsA (shB z (modN (startN z : Nat) z.size)) z.size))) ∧ Below w.heap.size w w' := by
  have h12 := size_le h
  have HS := Lib.hid (fun w => runStart_any z w h12.1 h12.2)
  have HT := Lib.hid (fun w => turned_any z ((startN z : Nat) : Int) w h12.1 h12.2)
  have HC := Lib.hid (fun (w' : World) (g : Nat) hR => turned_cells (w' := w') (g := g) (z := z) hR ((startN z : Nat) : Int) h12.1)
  obtain ⟨st, hst⟩ : ∃ st, startN z = st := ⟨_, rfl⟩
  rw [hst] at HS HT HC ⊢
  obtain ⟨off, hoff⟩ : ∃ off, modN (st : Int) z.size = off := ⟨_, rfl⟩
  rw [hoff] at HT HC ⊢
  obtain ⟨t, ht⟩ : ∃ t, shB z off = t := ⟨_, rfl⟩
  rw [ht] at HC ⊢
  obtain ⟨n, hn⟩ : ∃ n, z.size = n := ⟨_, rfl⟩
  have HV := Lib.hid (fun w => iSequenceValid_yes z w h)
  rw [hn] at h12 HT HC ⊢
  clear hst hoff ht h
  go_enter Try.func56, Try.ntmps56
  go_wp2_with fail
  refine (HV.out _).mono ?_
  rintro e w' ⟨rfl, rfl⟩
  go_wp2_with fail
  refine (HS.out _).mono ?_
  rintro e w1 ⟨rfl, m, hm⟩
  have b1 : Below w.heap.size w w1 := by rw [hm]; exact below_drewN (Below.refl _ _) m
  clear hm
  go_wp2_with fail
  refine (HT.out _).mono ?_
  rintro e w2 ⟨rfl, hR, hB⟩
  have b2 := below_then b1 (Nat.le_refl _) hB
  have hgl := hR.lt
  have HCC := Lib.hid (HC.out w2 w1.heap.size hR)
  obtain ⟨g, hg⟩ : ∃ g, w1.heap.size = g := ⟨_, rfl⟩
  rw [hg] at HCC hgl ⊢
  clear hB hR hg b1 hn
  go_wp2
  go_loopw [4, 16] (fun o i wr => ∃ k : Nat, k ≤ n ∧ i = .int .i64 k ∧ OF wr w2.heap.size o (runsA t k).length (LF (runsA t k)) ∧ Below w2.heap.size w2 wr) (fun _ i _ => n - (intOf i).toNat)
  case atStart => exact ⟨0, by omega, rfl, OF.nil _ _ _, Below.refl _ _⟩
  case round =>
    obtain ⟨k, hk, rfl, rO, rb⟩ := hrel
    have bs := rb.size
    by_cases hlt : k < n
    · have c1 := HCC.out k hlt
      rw [← rb.cell (p := ⟨g, off + k, none⟩) hgl] at c1
      have i0 : (0 : Int) ≤ (k : Int) := by omega
      have i1 : (k : Int) < (n : Int) := by omega
      have hbd := runsC_bd t k
      by_cases hk0 : k = 0
      · subst hk0
        have e1 : runsA t (0 + 1) = runsA t 0 ++ [1] := rfl
        have HE := Lib.hid e1
        obtain ⟨x, hx⟩ : ∃ x, t 0 = x := ⟨_, rfl⟩
        rw [hx] at c1
        rw [Nat.add_zero] at c1
        have O0 : OF wr w2.heap.size _ 0 (LF []) := rO
        clear hx e1 rO
        go_wp2_with (at_builtin; refine wpList_append_int rfl (.tmp 32) (.tmp 33) rfl w2.heap.size _ 0 (LF []) rfl (O0.alloc _) wr.heap.size 1 0 rfl (by simp) (by omega) (by simp; omega) ?_; intro v' w' O2 g2; obtain ⟨a', cap', rfl, ha'⟩ := O2.form; obtain ⟨g', rfl, hB', hl', -⟩ := ha' (by omega); have hb' : Below w2.heap.size w2 w' := (rb.alloc rb.size _).grown g2 (by simp; omega) (fun q hq => (O0.lt q hq).1); have O3 : OF w' w2.heap.size (.slice (some ⟨g', 0, none⟩) (([] : List Int).length + 1) cap') (([] : List Int).length + 1) (LF ([] ++ [0])) := OF.snoc (l := []) O2; have cz := O2.at 0 (by omega); obtain ⟨cz1, cz2⟩ := cz; have cz3 : w'.cell? ⟨g', 0, none⟩ = some (.int .i64 0) := cz1; clear cz1 g2 ha')
        have O4 := snoc_set O3 1
        have b4 : Below w2.heap.size w2 (w'.setCell ⟨g', 0, none⟩ (.int .i64 1)) := hb'.setCell hB' _
        go_roundw
        case rel => exact ⟨1, by omega, by go_num, O4, b4⟩
        case measure => simp [intOf]; omega
      · obtain ⟨j, rfl⟩ : ∃ j, k = j + 1 := ⟨k - 1, by omega⟩
        have d1 := HCC.out j (by omega)
        rw [← rb.cell (p := ⟨g, off + j, none⟩) hgl] at d1
        have hjn : (j : Int) < (n : Int) := by omega
        have hj0 : (0 : Int) ≤ (j : Int) := by omega
        have hne : ((j + 1 : Nat) : Int) ≠ 0 := by omega
        by_cases hsame : t (j + 1) = t j
        · have e1 : runsA t (j + 1) = (runsC t (j + 1)).1 ++ [((runsC t (j + 1)).2 : Int)] := rfl
          have e2 := runsA_old (t := t) (i := j + 1) hsame
          have hcur := hbd
          obtain ⟨C, hCC⟩ : ∃ C, (runsC t (j + 1)).1 = C := ⟨_, rfl⟩
          obtain ⟨c, hcc⟩ : ∃ c, (runsC t (j + 1)).2 = c := ⟨_, rfl⟩
          rw [hCC, hcc] at e1 e2 hcur
          rw [e1, List.length_append] at rO
          obtain ⟨a', cap', rfl, ha'⟩ := rO.form
          obtain ⟨g', rfl, hB', hl', -⟩ := ha' (by simp)
          have cz := rO.at C.length (by simp)
          rw [snoc_last] at cz
          obtain ⟨cz1, cz2⟩ := cz
          have O4 := Lib.hid (snoc_set rO ((c : Int) + 1))
          have b4 := Lib.hid (rb.setCell (p := ⟨g', C.length, none⟩) hB' (.int .i64 ((c : Int) + 1)))
          have HE := Lib.hid e2
          obtain ⟨x, hx⟩ : ∃ x, t j = x := ⟨_, rfl⟩
          rw [hsame, hx] at c1
          rw [hx] at d1
          clear hsame hx e1 e2 hCC hcc rO ha' hbd rb
          go_wp2
          go_roundw
          case rel => exact ⟨j + 1 + 1, by omega, by go_num, by rw [HE.out]; exact O4.out, b4.out⟩
          case measure => simp [intOf]; omega
        · have e2 := runsA_new (t := t) (i := j + 1) (by omega) hsame
          have hln : (runsA t (j + 1)).length ≤ 300 := by unfold runsA; rw [if_neg (by omega)]; simp; omega
          obtain ⟨R, hRR⟩ : ∃ R, runsA t (j + 1) = R := ⟨_, rfl⟩
          rw [hRR] at e2 rO hln
          have HE := Lib.hid e2
          obtain ⟨x, hx⟩ : ∃ x, t (j + 1) = x := ⟨_, rfl⟩
          obtain ⟨y, hy⟩ : ∃ y, t j = y := ⟨_, rfl⟩
          rw [hx] at c1 hsame
          rw [hy] at d1 hsame
          have hxy : ((x : Int) != (y : Int)) = true := by simp; omega
          clear hsame hx hy e2 hRR hbd
          go_wp2_with (at_builtin; refine wpList_append_int rfl (.tmp 32) (.tmp 33) rfl w2.heap.size _ R.length (LF R) rfl (rO.alloc _) wr.heap.size 1 0 rfl (by simp) (by omega) (by simp; omega) ?_; intro v' w' O2 g2; obtain ⟨a', cap', rfl, ha'⟩ := O2.form; obtain ⟨g', rfl, hB', hl', -⟩ := ha' (by omega); have hb' : Below w2.heap.size w2 w' := (rb.alloc rb.size _).grown g2 (by simp; omega) (fun q hq => (rO.lt q hq).1); have O3 : OF w' w2.heap.size (.slice (some ⟨g', 0, none⟩) (R.length + 1) cap') (R.length + 1) (LF (R ++ [0])) := OF.snoc1 O2; have cz := O3.at R.length (by omega); rw [snoc_last] at cz; obtain ⟨cz1, cz2⟩ := cz; clear g2 ha')
          have O4 := snoc_set O3 1
          have b4 : Below w2.heap.size w2 (w'.setCell ⟨g', R.length, none⟩ (.int .i64 1)) := hb'.setCell hB' _
          go_roundw
          case rel => exact ⟨j + 1 + 1, by omega, by go_num, by rw [HE.out]; exact O4, b4⟩
          case measure => simp [intOf]; omega
    · obtain rfl : k = n := by omega
      have hbd := runsC_bd t k
      have hln : (runsA t k).length ≤ 1000000 := by unfold runsA; split; simp; simp; omega
      obtain ⟨R, hRR⟩ : ∃ R, runsA t k = R := ⟨_, rfl⟩
      rw [hRR] at rO hln
      have HO := Lib.hid rO
      have HRR := Lib.hid hRR
      clear hRR rO hbd
      go_wp2_with fail
      refine (sort_any _ _ R _ HO.out hln bs).mono ?_
      rintro e w' ⟨rfl, O5, b5⟩
      have b6 : Below w.heap.size w w' := (below_then b2 (Nat.le_refl _) rb).trans (b5.mono b2.size)
      have O6 := O5.mono b2.size
      rw [← HRR.out] at O6
      clear O5 b5 HO
      go_wp2
      go_ret
      exact ⟨_, rfl, O6, b6⟩
end Go.Proofs.Ytkkakfkebjdkeaa
