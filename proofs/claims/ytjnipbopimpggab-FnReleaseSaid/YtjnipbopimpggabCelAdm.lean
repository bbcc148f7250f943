/- AdmitStation of both sides. -/
import Derived.Test.YtjnipbopimpggabCelIx
import Derived.Test.YtjnipbopimpggabCel4
import Derived.Test.YtjnipbopimpggabCopied
import Derived.Test.YtjnipbopimpggabFamFree2
namespace Go.Proofs.Ytjnipbopimpggab
open Go.RowKit
set_option linter.unusedVariables false
set_option maxRecDepth 100000
def losB (L : Int) : Bool := decide (1 ≤ L) && decide (L ≤ 20)
theorem los_iff (L : Int) : losB L = true ↔ 1 ≤ L ∧ L ≤ 20 := by unfold losB; simp only [Bool.and_eq_true, decide_eq_true_eq]
/-- What is asked of a cell, a name and a loss ahead of the path. -/
def adP (n : Nat) (f : Nat → Usr) (z : ByteArray) (L : Int) : Bool := cellB n f && (decide (n < 8) && (nameB z && (decide (ixN n f z < 0) && losB L)))
theorem adP_iff (n : Nat) (f : Nat → Usr) (z : ByteArray) (L : Int) : adP n f z L = true ↔ cellB n f = true ∧ n < 8 ∧ nameB z = true ∧ ixN n f z < 0 ∧ losB L = true := by
  unfold adP; simp only [Bool.and_eq_true, decide_eq_true_eq]
def pthF (f : Nat → Usr) (i : Nat) : ByteArray := (f i).data
def adA (n : Nat) (f : Nat → Usr) (D : Int) : ByteArray × Bool := allocAns n (pthF f) D
def adB (n : Nat) (f : Nat → Usr) (z : ByteArray) (D L : Int) : Bool := adP n f z L && (adA n f D).2
def adN (n : Nat) (f : Nat → Usr) (z : ByteArray) (D L : Int) : Nat := if adB n f z D L = true then n + 1 else 0
def adF (n : Nat) (f : Nat → Usr) (z : ByteArray) (D L : Int) (i : Nat) : Usr := if i < n then f i else ⟨z, (adA n f D).1, 1, L⟩
theorem adN_le {n : Nat} {f : Nat → Usr} {z : ByteArray} {D L : Int} : adN n f z D L ≤ 1048576 := by
  unfold adN
  split
  · rename_i h
    unfold adB at h
    rw [Bool.and_eq_true, adP_iff] at h
    omega
  · omega
theorem ad_no {n : Nat} {f : Nat → Usr} {z : ByteArray} {D L : Int} (h : ¬ (cellB n f = true ∧ n < 8 ∧ nameB z = true ∧ ixN n f z < 0 ∧ losB L = true)) : adB n f z D L = false := by
  unfold adB
  cases e : adP n f z L with
  | false => rfl
  | true => exact absurd ((adP_iff _ _ _ _).1 e) h
theorem ad_at {n : Nat} {f : Nat → Usr} {z : ByteArray} {D L : Int} (h : cellB n f = true ∧ n < 8 ∧ nameB z = true ∧ ixN n f z < 0 ∧ losB L = true) : adB n f z D L = (adA n f D).2 := by
  unfold adB; rw [(adP_iff _ _ _ _).2 h]; rfl
theorem SF.grown {w : World} {B k : Nat} {v : Value} {F : Nat → ByteArray} {y : ByteArray} (h : SF w B v (k + 1) (fun j => if j < k then F j else y)) (hy : F k = y) : SF w B v (k + 1) F :=
  h.congr fun j hj => by
    by_cases e : j < k
    · rw [if_pos e]
    · rw [if_neg e, ← hy]; congr 1; omega
theorem UsrsC.one (w : World) (u : Usr) : UsrsC (w.alloc (.cells #[.string u.code, .string u.data, .int .i64 u.gain, .int .i64 u.delay] 30)) (.slice (some ⟨w.heap.size, 0, none⟩) 1 1) 1 (fun _ => u) := by
  refine ⟨_, 1, rfl, ⟨Nat.le_refl _, fun x => by cases x⟩, fun i hi => ⟨w.heap.size, 0, rfl, by simp, ?_⟩⟩
  obtain rfl : i = 0 := by omega
  obtain ⟨h0, h1, h2, h3, _⟩ := UsrAt.new w 30 u.code u.data u.gain u.delay
  exact ⟨h0, h1, h2, h3⟩
set_option maxHeartbeats 6400000 in
theorem iAdm_any (v : Value) (n : Nat) (f : Nat → Usr) (z : ByteArray) (D L : Int) (w : World) (h : UsrsC w v n f) (hn : n ≤ 1048576) (hf : UsrSz n f) (hz : z.size ≤ 1048576) :
    Calls Try.prog 14 #[v, .string z, .int .i64 D, .int .i64 L] w fun e w' => ∃ u, e = .returned (.tuple #[u, .bool (adB n f z D L)]) ∧ TF w' w.heap.size u (adN n f z D L) (adF n f z D L) ∧ Below w.heap.size w w' := by
  unfold adN
  have HV := Lib.hid (fun w h => iCell_any v n f w h hn hf)
  have HX := Lib.hid (fun w h => indexOf_any v n f z w h hn)
  have HN := Lib.hid (fun w => nameValid_any z w (by omega))
  have HLo := Lib.hid (fun w => lossValid_any L w)
  have HI := Lib.hid h
  have hno := fun h => ad_no (n := n) (f := f) (z := z) (D := D) (L := L) h
  have hys := fun h => ad_at (n := n) (f := f) (z := z) (D := D) (L := L) h
  rw [show (decide (1 ≤ L) && decide (L ≤ 20)) = losB L by rfl] at HLo
  obtain ⟨R, hR⟩ : ∃ R, ixN n f z = R := ⟨_, rfl⟩
  rw [hR] at HX hno hys
  clear hR
  obtain ⟨a, cap, rfl, -, hcc⟩ := id h
  have HC := Lib.hid hcc
  clear h hcc
  obtain ⟨c1, h1⟩ : ∃ c, cellB n f = c := ⟨_, rfl⟩
  obtain ⟨c2, h2⟩ : ∃ c, nameB z = c := ⟨_, rfl⟩
  obtain ⟨c3, h3⟩ : ∃ c, losB L = c := ⟨_, rfl⟩
  have hn8 : c1 = true → n ≤ 8 := fun e => by
    rw [e] at h1
    unfold cellB at h1
    simp only [Bool.and_eq_true, decide_eq_true_eq] at h1
    exact h1.2
  rw [h1] at HV hno hys
  rw [h2] at HN hno hys
  rw [h3] at HLo hno hys
  clear h1 h2 h3
  cases c1 with
  | false =>
    rw [hno (fun h => by cases h.1), if_neg (by simp)]
    clear hno hys hn8
    go_enter Try.func14, Try.ntmps14
    go_wp2_with fail
    refine (HV.out _ HI.out).mono ?_
    rintro e w1 ⟨rfl, b1⟩
    go_wp2
    go_ret2
    exact ⟨_, rfl, TF.nil _ _ _, b1⟩
  | true =>
    have n8 := hn8 rfl
    clear hn8
    have hn8 : True := trivial
    by_cases q8 : n < 8
    rotate_left
    · obtain rfl : n = 8 := by omega
      rw [hno (fun h => by have := h.2.1; omega), if_neg (by simp)]
      clear hno hys hn8
      go_enter Try.func14, Try.ntmps14
      go_wp2_with fail
      refine (HV.out _ HI.out).mono ?_
      rintro e w1 ⟨rfl, b1⟩
      go_wp2
      go_ret2
      exact ⟨_, rfl, TF.nil _ _ _, b1⟩
    have e8 : ((n : Int) == 8) = false := by simp; omega
    cases c2 with
    | false =>
      rw [hno (fun h => by cases h.2.2.1), if_neg (by simp)]
      clear hno hys hn8
      go_enter Try.func14, Try.ntmps14
      go_wp2_with fail
      refine (HV.out _ HI.out).mono ?_
      rintro e w1 ⟨rfl, b1⟩
      go_wp2_with fail
      refine (HN.out _).mono ?_
      rintro e w' ⟨rfl, rfl⟩
      go_wp2
      go_ret2
      exact ⟨_, rfl, TF.nil _ _ _, b1⟩
    | true =>
      by_cases qx : R < 0
      rotate_left
      · skip
        have qy : 0 ≤ R := by omega
        rw [hno (fun h => by have := h.2.2.2.1; omega), if_neg (by simp)]
        clear hno hys hn8
        go_enter Try.func14, Try.ntmps14
        go_wp2_with fail
        refine (HV.out _ HI.out).mono ?_
        rintro e w1 ⟨rfl, b1⟩
        go_wp2_with fail
        refine (HN.out _).mono ?_
        rintro e w' ⟨rfl, rfl⟩
        go_wp2_with fail
        refine (HX.out _ (HI.out.below b1)).mono ?_
        rintro e w2 ⟨rfl, n2⟩
        have b2 := below_then b1 (Nat.le_refl _) n2
        clear b1 n2
        have b1 := b2
        clear b2
        go_wp2
        go_ret2
        exact ⟨_, rfl, TF.nil _ _ _, b1⟩
      have qy : ¬ 0 ≤ R := by omega
      cases c3 with
      | false =>
        rw [hno (fun h => by cases h.2.2.2.2), if_neg (by simp)]
        clear hno hys hn8
        go_enter Try.func14, Try.ntmps14
        go_wp2_with fail
        refine (HV.out _ HI.out).mono ?_
        rintro e w1 ⟨rfl, b1⟩
        go_wp2_with fail
        refine (HN.out _).mono ?_
        rintro e w' ⟨rfl, rfl⟩
        go_wp2_with fail
        refine (HX.out _ (HI.out.below b1)).mono ?_
        rintro e w2 ⟨rfl, n2⟩
        have b2 := below_then b1 (Nat.le_refl _) n2
        clear b1 n2
        have b1 := b2
        clear b2
        go_wp2_with fail
        refine (HLo.out _).mono ?_
        rintro e w' ⟨rfl, rfl⟩
        go_wp2
        go_ret2
        exact ⟨_, rfl, TF.nil _ _ _, b1⟩
      | true =>
        rw [hys ⟨rfl, q8, rfl, qx, rfl⟩]
        clear hno hys hn8
        have HAl := Lib.hid (fun u W hs => iAlloc_any u n (pthF f) D W hs hn (fun i hi => (hf i hi).2))
        have hAd : adA n f D = allocAns n (pthF f) D := rfl
        unfold adF
        rw [hAd]
        clear hAd
        obtain ⟨P, hP⟩ : ∃ P, (allocAns n (pthF f) D).1 = P := ⟨_, rfl⟩
        obtain ⟨K, hK⟩ : ∃ P, (allocAns n (pthF f) D).2 = P := ⟨_, rfl⟩
        rw [hP, hK] at HAl
        rw [hP, hK]
        clear hP hK
        have HCp := Lib.hid (fun w h => copied_any (.slice a n cap) n f w h hn hf)
        have HCl := Lib.hid (fun w => clone_any z w hz)
        have hmk := Lib.hid (make_strs n hn)
        go_enter Try.func14, Try.ntmps14
        go_wp2_with fail
        refine (HV.out _ HI.out).mono ?_
        rintro e w1 ⟨rfl, b1⟩
        go_wp2_with fail
        refine (HN.out _).mono ?_
        rintro e w' ⟨rfl, rfl⟩
        go_wp2_with fail
        refine (HX.out _ (HI.out.below b1)).mono ?_
        rintro e w2 ⟨rfl, n2⟩
        have b2 := below_then b1 (Nat.le_refl _) n2
        clear b1 n2
        have b1 := b2
        clear b2
        go_wp2_with fail
        refine (HLo.out _).mono ?_
        rintro e w' ⟨rfl, rfl⟩
        have hmk2 := hmk.out
        have O1 := SF.made w2 n hn
        have b2 := b1.alloc b1.size (.cells (madeCells #[.string ⟨#[]⟩] n) 9)
        have hB1 := b1.size
        obtain ⟨B, hB⟩ : ∃ B, w2.heap.size = B := ⟨_, rfl⟩
        go_wp2
        obtain ⟨V, hV⟩ : ∃ V, w2.alloc (.cells (madeCells #[.string ⟨#[]⟩] n) 9) = V := ⟨_, rfl⟩
        rw [hB] at O1 hB1
        rw [hV] at O1 b2 ⊢
        have HBW := Lib.hid hB1
        clear hmk2 hB hV b1 hB1
        go_loopw [44] (fun i wr => ∃ k : Nat, k ≤ n ∧ i = .int .i64 k ∧ SF wr B (.slice (some ⟨B, 0, none⟩) n n) n (fun j => if j < k then pthF f j else ⟨#[]⟩) ∧ Below w.heap.size w wr) (fun i _ => n - (intOf i).toNat)
        case atStart => exact ⟨0, by omega, rfl, O1.congr (fun j _ => by simp), b2⟩
        case round =>
          obtain ⟨k, hk, rfl, rO, rb⟩ := hrel
          clear O1 b2
          by_cases hlt : k < n
          · obtain ⟨b, o, rfl, hx, hcc⟩ := HC.out k hlt
            obtain ⟨c0, c1, c2, c3⟩ := hcc.below rb hx
            have i0 : (0 : Int) ≤ (k : Int) := by omega
            have i1 : (k : Int) < (n : Int) := by omega
            obtain ⟨C, hC⟩ : ∃ C, (f k).code = C := ⟨_, rfl⟩
            obtain ⟨Y, hY⟩ : ∃ C, (f k).data = C := ⟨_, rfl⟩
            rw [hC] at c0
            rw [hY] at c1
            have HY := Lib.hid (show pthF f k = Y from hY)
            clear hC hY hcc
            have O2 := rO.alloc (.cells #[.string C, .string Y, .int .i64 (f k).gain, .int .i64 (f k).delay] 30)
            have r2 := rb.alloc rb.size (.cells #[.string C, .string Y, .int .i64 (f k).gain, .int .i64 (f k).delay] 30)
            obtain ⟨cc, fr⟩ := O2.at k hlt
            have O6 := Lib.hid (O2.set (f' := fun j => if j < k + 1 then pthF f j else ⟨#[]⟩) k Y hlt (fun j hj => by
              by_cases e : j = k
              · subst e; rw [if_pos (by omega), if_pos rfl]; exact HY.out
              · rw [if_neg e]
                by_cases e' : j < k
                · rw [if_pos (by omega), if_pos e']
                · rw [if_neg (by omega), if_neg e']))
            have r6 := Lib.hid (r2.setCell (p := ⟨B, k, none⟩) HBW.out (.string Y))
            clear rO rb O2 r2
            go_wp2
            go_roundw
            case rel => exact ⟨k + 1, by omega, by go_num, O6.out, r6.out⟩
            case measure => simp [intOf]; omega
          · obtain rfl : n = k := by omega
            have O9 := rO.congr (g := pthF f) (fun j hj => by rw [if_pos hj])
            clear rO
            go_wp2_with fail
            refine (HAl.out _ _ O9.strs).mono ?_
            rintro e w3 ⟨rfl, n3⟩
            have b3 := below_then rb (Nat.le_refl _) n3
            clear rb n3 O9
            cases K with
            | false =>
              go_wp2
              go_ret2
              exact ⟨_, rfl, TF.nil _ _ _, b3⟩
            | true =>
              go_wp2_with fail
              refine (HCp.out _ (HI.out.below b3)).mono ?_
              rintro e w4 ⟨v4, rfl, O4, n4⟩
              have b4 := below_then b3 (Nat.le_refl _) n4
              have q4 := b3.size
              go_wp2_with fail
              refine (HCl.out _).mono ?_
              rintro e w5 ⟨rfl, n5⟩
              have b5 := below_then b4 (Nat.le_refl _) n5
              have O5 := Lib.hid ((O4.below n5).mono q4)
              clear b3 n4 b4 n5 O4 q4
              have HU := Lib.hid (UsrsC.one w5 ⟨z, P, 1, L⟩)
              have O6 := Lib.hid (O5.out.alloc (.cells #[.string z, .string P, .int .i64 1, .int .i64 L] 30))
              have b6 := Lib.hid (b5.alloc b5.size (.cells #[.string z, .string P, .int .i64 1, .int .i64 L] 30))
              clear O5 b5
              go_wp2_with (at_builtin; refine wpList_append_stations rfl (.tmp 64) (.tmp 70) rfl w.heap.size v4 n f rfl O6.out (.slice (some ⟨w5.heap.size, 0, none⟩) 1 1) 1 (fun _ => ⟨z, P, 1, L⟩) rfl HU.out (by omega) b6.out.size ?_; intro v7 w7 O7 g7; have lo := fun q hq => (O6.out.lt q hq).1)
              have b7 : Below w.heap.size w w7 := b6.out.grown g7 b6.out.size (fun q hq => lo q hq)
              clear O6 b6 g7 lo HU
              go_ret2
              exact ⟨_, rfl, O7, b7⟩
set_option maxHeartbeats 6400000 in
theorem sAdm_any (v : Value) (n : Nat) (f : Nat → Usr) (z : ByteArray) (D L : Int) (w : World) (h : UsrsC w v n f) (hn : n ≤ 1048576) (hf : UsrSz n f) (hz : z.size ≤ 1048576) :
    Calls Try.prog 15 #[v, .string z, .int .i64 D, .int .i64 L] w fun e w' => ∃ u, e = .returned (.tuple #[u, .bool (adB n f z D L)]) ∧ TF w' w.heap.size u (adN n f z D L) (adF n f z D L) ∧ Below w.heap.size w w' := by
  unfold adN
  have HV := Lib.hid (fun w h => sCell_any v n f w h hn hf)
  have HX := Lib.hid (fun w h => l8Index_any v n f z w h hn)
  have HN := Lib.hid (fun w => l8Name_any z w (by omega))
  have HLo := Lib.hid (fun w => l1In_any L 1 20 w)
  have HI := Lib.hid h
  have hno := fun h => ad_no (n := n) (f := f) (z := z) (D := D) (L := L) h
  have hys := fun h => ad_at (n := n) (f := f) (z := z) (D := D) (L := L) h
  rw [show (decide (1 ≤ L) && decide (L ≤ 20)) = losB L by rfl] at HLo
  obtain ⟨R, hR⟩ : ∃ R, ixN n f z = R := ⟨_, rfl⟩
  rw [hR] at HX hno hys
  clear hR
  obtain ⟨a, cap, rfl, -, hcc⟩ := id h
  have HC := Lib.hid hcc
  clear h hcc
  obtain ⟨c1, h1⟩ : ∃ c, cellB n f = c := ⟨_, rfl⟩
  obtain ⟨c2, h2⟩ : ∃ c, nameB z = c := ⟨_, rfl⟩
  obtain ⟨c3, h3⟩ : ∃ c, losB L = c := ⟨_, rfl⟩
  have hn8 : c1 = true → n ≤ 8 := fun e => by
    rw [e] at h1
    unfold cellB at h1
    simp only [Bool.and_eq_true, decide_eq_true_eq] at h1
    exact h1.2
  rw [h1] at HV hno hys
  rw [h2] at HN hno hys
  rw [h3] at HLo hno hys
  clear h1 h2 h3
  cases c1 with
  | false =>
    rw [hno (fun h => by cases h.1), if_neg (by simp)]
    clear hno hys hn8
    go_enter Try.func15, Try.ntmps15
    go_wp2_with fail
    refine (HV.out _ HI.out).mono ?_
    rintro e w1 ⟨rfl, b1⟩
    have OE := Lib.hid ((TF.empty0 _ (adF n f z D L)).mono b1.size)
    have be := b1.alloc b1.size (.cells #[] 30)
    clear b1
    go_wp2
    go_ret2
    exact ⟨_, rfl, OE.out, be⟩
  | true =>
    have n8 := hn8 rfl
    clear hn8
    have hn8 : True := trivial
    cases c2 with
    | false =>
      rw [hno (fun h => by cases h.2.2.1), if_neg (by simp)]
      clear hno hys hn8
      go_enter Try.func15, Try.ntmps15
      go_wp2_with fail
      refine (HV.out _ HI.out).mono ?_
      rintro e w1 ⟨rfl, b1⟩
      go_wp2_with fail
      refine (HN.out _).mono ?_
      rintro e w' ⟨rfl, rfl⟩
      have OE := Lib.hid ((TF.empty0 _ (adF n f z D L)).mono b1.size)
      have be := b1.alloc b1.size (.cells #[] 30)
      clear b1
      go_wp2
      go_ret2
      exact ⟨_, rfl, OE.out, be⟩
    | true =>
      by_cases qx : R < 0
      rotate_left
      · skip
        have qy : 0 ≤ R := by omega
        rw [hno (fun h => by have := h.2.2.2.1; omega), if_neg (by simp)]
        clear hno hys hn8
        go_enter Try.func15, Try.ntmps15
        go_wp2_with fail
        refine (HV.out _ HI.out).mono ?_
        rintro e w1 ⟨rfl, b1⟩
        go_wp2_with fail
        refine (HN.out _).mono ?_
        rintro e w' ⟨rfl, rfl⟩
        go_wp2_with fail
        refine (HX.out _ (HI.out.below b1)).mono ?_
        rintro e w' ⟨rfl, rfl⟩
        have OE := Lib.hid ((TF.empty0 _ (adF n f z D L)).mono b1.size)
        have be := b1.alloc b1.size (.cells #[] 30)
        clear b1
        go_wp2
        go_ret2
        exact ⟨_, rfl, OE.out, be⟩
      have qy : ¬ 0 ≤ R := by omega
      by_cases q8 : n < 8
      rotate_left
      · obtain rfl : n = 8 := by omega
        rw [hno (fun h => by have := h.2.1; omega), if_neg (by simp)]
        clear hno hys hn8
        go_enter Try.func15, Try.ntmps15
        go_wp2_with fail
        refine (HV.out _ HI.out).mono ?_
        rintro e w1 ⟨rfl, b1⟩
        go_wp2_with fail
        refine (HN.out _).mono ?_
        rintro e w' ⟨rfl, rfl⟩
        go_wp2_with fail
        refine (HX.out _ (HI.out.below b1)).mono ?_
        rintro e w' ⟨rfl, rfl⟩
        have OE := Lib.hid ((TF.empty0 _ (adF 8 f z D L)).mono b1.size)
        have be := b1.alloc b1.size (.cells #[] 30)
        clear b1
        go_wp2
        go_ret2
        exact ⟨_, rfl, OE.out, be⟩
      have e8 : ((n : Int) == 8) = false := by simp; omega
      cases c3 with
      | false =>
        rw [hno (fun h => by cases h.2.2.2.2), if_neg (by simp)]
        clear hno hys hn8
        go_enter Try.func15, Try.ntmps15
        go_wp2_with fail
        refine (HV.out _ HI.out).mono ?_
        rintro e w1 ⟨rfl, b1⟩
        go_wp2_with fail
        refine (HN.out _).mono ?_
        rintro e w' ⟨rfl, rfl⟩
        go_wp2_with fail
        refine (HX.out _ (HI.out.below b1)).mono ?_
        rintro e w' ⟨rfl, rfl⟩
        go_wp2_with fail
        refine (HLo.out _).mono ?_
        rintro e w' ⟨rfl, rfl⟩
        have OE := Lib.hid ((TF.empty0 _ (adF n f z D L)).mono b1.size)
        have be := b1.alloc b1.size (.cells #[] 30)
        clear b1
        go_wp2
        go_ret2
        exact ⟨_, rfl, OE.out, be⟩
      | true =>
        rw [hys ⟨rfl, q8, rfl, qx, rfl⟩]
        clear hno hys hn8
        have HAl := Lib.hid (fun u W hs => sAlloc_any u n (pthF f) D W hs hn (fun i hi => (hf i hi).2))
        have hAd : adA n f D = allocAns n (pthF f) D := rfl
        unfold adF
        rw [hAd]
        clear hAd
        obtain ⟨P, hP⟩ : ∃ P, (allocAns n (pthF f) D).1 = P := ⟨_, rfl⟩
        obtain ⟨K, hK⟩ : ∃ P, (allocAns n (pthF f) D).2 = P := ⟨_, rfl⟩
        rw [hP, hK] at HAl
        rw [hP, hK]
        clear hP hK
        go_enter Try.func15, Try.ntmps15
        go_wp2_with fail
        refine (HV.out _ HI.out).mono ?_
        rintro e w1 ⟨rfl, b1⟩
        go_wp2_with fail
        refine (HN.out _).mono ?_
        rintro e w' ⟨rfl, rfl⟩
        go_wp2_with fail
        refine (HX.out _ (HI.out.below b1)).mono ?_
        rintro e w' ⟨rfl, rfl⟩
        go_wp2_with fail
        refine (HLo.out _).mono ?_
        rintro e w' ⟨rfl, rfl⟩
        have b2 := b1.alloc b1.size (.cells #[] 9)
        have q1 := b1.size
        have O1 := (SF.empty w1 (pthF f)).mono q1
        clear b1
        go_wp2_with fail
        obtain ⟨V, hV⟩ : ∃ V, w1.alloc (.cells #[] 9) = V := ⟨_, rfl⟩
        rw [hV] at O1 b2 ⊢
        clear hV q1
        go_loopw [11, 10] (fun i x wr => ∃ (k : Nat) (v : Value), k ≤ n ∧ i = .int .i64 k ∧ x = v ∧ SF wr w.heap.size v k (pthF f) ∧ Below w.heap.size w wr) (fun i _ _ => n - (intOf i).toNat)
        case atStart => exact ⟨0, _, by omega, rfl, rfl, O1, b2⟩
        case round =>
          obtain ⟨k, v, hk, rfl, rfl, rO, rb⟩ := hrel
          clear O1 b2
          by_cases hlt : k < n
          · obtain ⟨b, o, rfl, hx, hcc⟩ := HC.out k hlt
            obtain ⟨c0, c1, c2, c3⟩ := hcc.below rb hx
            have i0 : (0 : Int) ≤ (k : Int) := by omega
            have i1 : (k : Int) < (n : Int) := by omega
            obtain ⟨Y, hY⟩ : ∃ C, (f k).data = C := ⟨_, rfl⟩
            rw [hY] at c1
            have HY := Lib.hid (show pthF f k = Y from hY)
            clear hY hcc
            have rb0 := rb.size
            have O2 := Lib.hid (rO.alloc (.cells #[.string Y] 9))
            have r2 := Lib.hid (rb.alloc rb.size (.cells #[.string Y] 9))
            have cY : Hid ((wr.alloc (.cells #[.string Y] 9)).cell? ⟨wr.heap.size, 0, none⟩ = some (.string Y)) := Lib.hid (by simp)
            obtain ⟨a3, c3', rfl, -⟩ := rO.form
            clear rO rb
            go_wp2_with (at_builtin; refine wpList_append_str rfl (.tmp 46) (.tmp 52) rfl w.heap.size (.slice a3 k c3') k (pthF f) rfl O2.out wr.heap.size 1 Y rfl cY.out (by omega) r2.out.size ?_; intro v4 w4 O4 g4; have lo := fun q hq => (O2.out.lt q hq).1; have O5 := SF.grown O4 HY.out; have b4 : Below w.heap.size w w4 := r2.out.grown g4 r2.out.size (fun q hq => lo q hq))
            clear O2 r2 cY O4 g4 lo c0 c1 c2 c3
            go_roundw
            case rel => exact ⟨k + 1, _, by omega, by go_num, rfl, O5, b4⟩
            case measure => simp [intOf]; omega
          · obtain rfl : n = k := by omega
            have O9 := rO.strs
            clear rO
            go_wp2_with fail
            refine (HAl.out _ _ O9).mono ?_
            rintro e w3 ⟨rfl, n3⟩
            have b3 := below_then rb (Nat.le_refl _) n3
            clear rb n3 O9
            cases K with
            | false =>
              have OE := Lib.hid ((TF.empty0 w3 (fun i => if i < n then f i else ⟨z, P, 1, L⟩)).mono b3.size)
              have be := b3.alloc b3.size (.cells #[] 30)
              clear b3
              go_wp2
              go_ret2
              exact ⟨_, rfl, OE.out, be⟩
            | true =>
              have q3 := b3.size
              have OE := Lib.hid ((TF.empty0 w3 f).mono q3)
              have be := Lib.hid (b3.alloc b3.size (.cells #[] 30))
              have HU := Lib.hid (HI.out.below be.out)
              go_wp2_with (at_builtin; first
                | (refine wpList_append_stations rfl (.tmp 63) (.tmp 64) rfl w.heap.size (.slice (some ⟨w3.heap.size, 0, none⟩) 0 0) 0 f rfl OE.out (.slice a n cap) n f rfl HU.out (by omega) be.out.size ?_; intro v5 w5 O5 g5; have b5 : Below w.heap.size w w5 := be.out.grown g5 be.out.size (fun q hq => by cases hq; exact q3); have O6 := Lib.hid (O5.alloc (.cells #[.string z, .string P, .int .i64 1, .int .i64 L] 30)); have b6 := Lib.hid (b5.alloc b5.size (.cells #[.string z, .string P, .int .i64 1, .int .i64 L] 30)); have HU2 := Lib.hid (UsrsC.one w5 ⟨z, P, 1, L⟩); clear O5 b5 g5)
                | (refine wpList_append_stations rfl (.tmp 65) (.tmp 70) rfl w.heap.size v5 (0 + n) _ rfl O6.out (.slice (some ⟨w5.heap.size, 0, none⟩) 1 1) 1 (fun _ => ⟨z, P, 1, L⟩) rfl HU2.out (by omega) b6.out.size ?_; intro v7 w7 O7 g7; have lo := fun q hq => (O6.out.lt q hq).1))
              have b7 : Below w.heap.size w w7 := b6.out.grown g7 b6.out.size (fun q hq => lo q hq)
              have O8 : TF w7 w.heap.size v7 (n + 1) (fun i => if i < n then f i else ⟨z, P, 1, L⟩) := by
                have := O7.congr (g := fun i => if i < n then f i else ⟨z, P, 1, L⟩) (fun i hi => by
                  by_cases e : i < n
                  · rw [if_pos (by omega), if_pos e, if_neg (Nat.not_lt_zero i), Nat.sub_zero]
                  · rw [if_neg (by omega), if_neg e])
                rwa [Nat.zero_add] at this
              clear O6 b6 g7 lo HU2 HU OE be O7
              go_ret2
              exact ⟨_, rfl, O8, b7⟩
end Go.Proofs.Ytjnipbopimpggab
