/- AllFrames of the model. -/
import Derived.Test.YtdafepfjjmdkeaaDoorFndS
import Derived.Test.YtdafepfjjmdkeaaDoorFndAll
import Derived.Test.YtdafepfjjmdkeaaDoorStrs2
namespace Go.Proofs.YtdafepfjjmdkeaaDoor
open Go.RowKit
set_option linter.unusedVariables false
set_option maxRecDepth 100000
theorem SF.snocA {w : World} {B : Nat} {v : Value} {i : Nat} {f : Nat → ByteArray} {y : ByteArray} (h : SF w B v (i + 1) (fun j => if j < i then f j else y)) (hy : f i = y) : SF w B v (i + 1) f :=
  h.congr fun j hj => by
    by_cases e : j < i
    · simp only [if_pos e]
    · obtain rfl : j = i := by omega
      simp only [if_neg e]; exact hy.symm
/-- What is known of the frames one behind the other. -/
theorem all_step {z : ByteArray} {N i : Nat} (hb : bitsB z = true) (hA : AllIs z N) (hi : i < N) : fndV z (atF z i : Nat) = (nx z (atF z i) : Nat) ∧ parAns z (nx z (atF z i) : Nat) = (alF z i, ((atF z (i + 1) : Nat) : Int), true) ∧ nx z (atF z i) ≤ 600 ∧ atF z (i + 1) ≤ 600 := by
  obtain ⟨h1, h2, h3⟩ := hA
  have h6 := (bits_of2 hb).2
  have h4 := h2 i hi
  have h5 := (atF_le (i + 1) (fun j hj => h2 j (by omega))).2
  exact ⟨fndV_yes hb h4, par_yes hb (nx_yes h4), by omega, by omega⟩
theorem all_last {z : ByteArray} {N : Nat} (hA : AllIs z N) : fndV z (atF z N : Nat) = -1 := fndV_off hA.2.2
set_option maxHeartbeats 800000 in
theorem sAll_any (z : ByteArray) (N : Nat) (w : World) (hs : z.size ≤ 1048576) (hN : AllN z N) :
    Calls Tryd.prog 12 #[.string z] w fun e w' => ∃ v, e = .returned v ∧ SF w' w.heap.size v N (alF z) ∧ Below w.heap.size w w' := by
  have HF := Lib.hid (fun (k : Int) w => sFind_any z k w hs)
  have HP := Lib.hid (fun (k : Int) w => sParse_any z k w hs)
  have b0 := (Below.refl w.heap.size w).alloc (Nat.le_refl _) (.cells #[] 9)
  have O0 := SF.empty w (alF z)
  cases hb : bitsB z with
  | false =>
    obtain rfl := hN.2 hb
    have h0 := HF.out 0
    rw [fndV_no (z := z) (k := 0) (by rw [hb]; simp)] at h0
    have H0 := Lib.hid h0
    clear h0 hb hN HF HP
    go_enter Tryd.func12, Tryd.ntmps12
    go_wp2_with fail
    refine (H0.out _).mono ?_
    rintro e w1 ⟨rfl, hb1⟩
    have b1 := below_then b0 (Nat.le_refl _) hb1
    have O1 := O0.below hb1
    clear b0 O0 hb1
    go_wp2
    go_loopw [3, 4] (fun o k wr => k = .int .i64 (-1) ∧ SF wr w.heap.size o 0 (alF z) ∧ Below w.heap.size w wr) (fun _ _ _ => 0)
    case atStart => exact ⟨rfl, O1, b1⟩
    case round =>
      obtain ⟨rfl, rO, rb⟩ := hrel
      go_wp2
      go_ret
      exact ⟨_, rfl, rO, rb⟩
  | true =>
    have hA := hN.1 hb
    have hN6 : N ≤ 600 := by have := hA.1; have := (bits_of2 hb).2; omega
    have HS := Lib.hid (fun i (hi : i < N) => all_step hb hA hi)
    have HL := Lib.hid (all_last hA)
    have hrel0 : ∃ (i : Nat) (k : Int), i ≤ N ∧ k = fndV z (atF z 0 : Nat) ∧ i = 0 := ⟨0, _, Nat.zero_le _, rfl, rfl⟩
    have h0 : ∀ w, Calls Tryd.prog 10 #[.string z, .int .i64 0] w fun e w' => e = .returned (.int .i64 (fndV z (atF z 0 : Nat))) ∧ Below w.heap.size w w' := fun w => HF.out 0 w
    have H0 := Lib.hid h0
    have HB := Lib.hid hb
    clear h0 hb hN hrel0 hA
    go_enter Tryd.func12, Tryd.ntmps12
    go_wp2_with fail
    refine (H0.out _).mono ?_
    rintro e w1 ⟨rfl, hb1⟩
    have b1 := below_then b0 (Nat.le_refl _) hb1
    have O1 := O0.below hb1
    clear b0 O0 hb1
    go_wp2
    go_loopw [3, 4] (fun o k wr => ∃ (i : Nat) (q : Int), i ≤ N ∧ k = .int .i64 q ∧ Hid (q = fndV z (atF z i : Nat)) ∧ SF wr w.heap.size o i (alF z) ∧ Below w.heap.size w wr) (fun o k wr => match o with | .slice _ n _ => N + 1 - n | _ => 0)
    case atStart => exact ⟨0, _, Nat.zero_le _, rfl, Lib.hid rfl, O1, b1⟩
    case round =>
      obtain ⟨i, q, hi, rfl, HQ, rO, rb⟩ := hrel
      by_cases hlt : i < N
      · obtain ⟨e1, e2, e3, e4⟩ := HS.out i hlt
        have hP := HP.out (nx z (atF z i) : Nat)
        rw [e2] at hP
        have hF := HF.out ((atF z (i + 1) : Nat) : Int)
        have HQ2 := HQ.out.trans e1
        obtain ⟨n, hn⟩ : ∃ n, nx z (atF z i) = n := ⟨_, rfl⟩
        obtain ⟨m, hm⟩ : ∃ m, atF z (i + 1) = m := ⟨_, rfl⟩
        obtain ⟨y, hy⟩ : ∃ y, alF z i = y := ⟨_, rfl⟩
        rw [hn, hm, hy] at hP
        rw [hm] at hF
        rw [hn] at HQ2 e3
        rw [hm] at e4
        have HPi := Lib.hid hP
        have HFi := Lib.hid hF
        have HE := Lib.hid hy
        have HM : Hid (∀ V, fndV z (m : Int) = V → V = fndV z (atF z (i + 1) : Nat)) := Lib.hid (fun V h => by rw [hm, h])
        obtain ⟨V, hV⟩ : ∃ V, fndV z (m : Int) = V := ⟨_, rfl⟩
        have HV := Lib.hid (HM.out V hV)
        rw [hV] at HFi
        subst HQ2
        clear hP hF hn hm hy hV HM e1 e2 HQ
        go_wp2_with fail
        refine (HPi.out _).mono ?_
        rintro e w2 ⟨rfl, hb2⟩
        have b2 := below_then rb (Nat.le_refl _) hb2
        have O2 := rO.below hb2
        clear rO rb hb2
        have bs := b2.size
        obtain ⟨oa, oc, rfl, _⟩ := O2.form
        go_wp2_with (at_builtin; refine wpList_append_str rfl (.tmp 20) (.tmp 22) rfl w.heap.size _ i (alF z) rfl (O2.alloc _) w2.heap.size 1 y rfl (by simp) (by omega) (by simp; omega) ?_; intro v' w3 O3 g3; have b3 : Below w.heap.size w w3 := (b2.alloc bs _).grown g3 (by simp; omega) (fun q hq => (O2.lt q hq).1); have O4 := SF.snocA O3 HE.out; clear O2 g3 b2 O3)
        refine (HFi.out _).mono ?_
        rintro e w4 ⟨rfl, hb4⟩
        have b4 := below_then b3 (Nat.le_refl _) hb4
        have O5 := O4.below hb4
        clear b3 O4 hb4
        obtain ⟨oa2, oc2, rfl, _⟩ := O5.form
        go_wp2
        go_roundw
        case rel => exact ⟨i + 1, _, by omega, rfl, HV, O5, b4⟩
        case measure => simp; omega
      · obtain rfl : i = N := by omega
        have hq := HQ.out.trans HL.out
        subst hq
        go_wp2
        go_ret
        exact ⟨_, rfl, rO, rb⟩
end Go.Proofs.YtdafepfjjmdkeaaDoor
