/- The walk of the law FnWorstCollisions. -/
import Derived.Test.YtbllmgdnhjdphacDrawHop7
import Derived.Test.YtbllmgdnhjdphacHop10
namespace Go.Proofs.Ytbllmgdnhjdphac
open Go.RowKit
set_option linter.unusedVariables false
set_option maxRecDepth 100000
/-- p tells whether V is nought or was met by the pairs and shifts ahead of (i, j, k). -/
def SeenP (F : Nat → Nat → Int) (n V : Nat) (p : Bool) (i j k : Nat) : Prop :=
  (V = 0 → p = true) ∧ ∀ i' j' k' : Nat, (i' < i ∧ j' < i' ∧ k' < n ∨ i' = i ∧ (j' < j ∧ k' < n ∨ j' = j ∧ k' < k)) → mtC (F j') (shF n (F i') (k' : Int)) n = V → p = true
theorem seen_start {F : Nat → Nat → Int} {n V : Nat} {p : Bool} (h : ((V : Int) == 0) = p) : SeenP F n V p 0 0 0 := by
  refine ⟨fun e => ?_, fun i' j' k' h1 _ => ?_⟩
  · subst e; rw [← h]; rfl
  · omega
theorem seen_k {F : Nat → Nat → Int} {n V M : Nat} {p b : Bool} {i j k : Nat} (h : SeenP F n V p i j k) (hM : mtC (F j) (shF n (F i) (k : Int)) n = M) (hb : ((M : Int) == (V : Int)) = b) : SeenP F n V (p || b) i j (k + 1) := by
  refine ⟨fun e => by rw [h.1 e]; rfl, fun i' j' k' h1 h2 => ?_⟩
  by_cases q : i' = i ∧ j' = j ∧ k' = k
  · obtain ⟨rfl, rfl, rfl⟩ := q
    rw [← hb, ← hM, h2]; simp
  · rw [h.2 i' j' k' (by omega) h2]; rfl
theorem seen_j {F : Nat → Nat → Int} {n V : Nat} {p : Bool} {i j : Nat} (h : SeenP F n V p i j n) : SeenP F n V p i (j + 1) 0 :=
  ⟨h.1, fun i' j' k' h1 h2 => h.2 i' j' k' (by omega) h2⟩
theorem seen_i {F : Nat → Nat → Int} {n V : Nat} {p : Bool} {i : Nat} (h : SeenP F n V p i i 0) : SeenP F n V p (i + 1) 0 0 :=
  ⟨h.1, fun i' j' k' h1 h2 => h.2 i' j' k' (by omega) h2⟩
theorem seen_end {F : Nat → Nat → Int} {n V L : Nat} {p : Bool} (hV : mk3 (wcS F n) L = V) (h : SeenP F n V p L 0 0) : p = true ∧ (V = 0 ∨ 1 < L) := by
  by_cases h0 : V = 0
  · exact ⟨h.1 h0, .inl h0⟩
  · rcases mk3_in (v := wcS F n) L with e | ⟨i, hi, e⟩
    · omega
    rw [hV] at e
    rcases mk3_in (v := fun j => wcK F n i j) i with e2 | ⟨j, hj, e2⟩
    · have : wcS F n i = 0 := e2
      omega
    have e3 : wcK F n i j = V := e2.symm.trans e.symm
    rw [wcK_turn] at e3
    rcases mk3_in (v := fun k => mtC (F j) (shF n (F i) (k : Int)) n) n with e4 | ⟨k, hk, e4⟩
    · have : wcK F n j i = 0 := e4
      omega
    exact ⟨h.2 i j k (.inl ⟨hi, hj, hk⟩) (e4.symm.trans e3), .inr (by omega)⟩
theorem wc_least {F : Nat → Nat → Int} {n V L i j k : Nat} (hV : mk3 (wcS F n) L = V) (hi : i < L) (hj : j < i) (hk : k < n) : mtC (F j) (shF n (F i) (k : Int)) n ≤ V := by
  have h1 : wcS F n i ≤ V := by rw [← hV]; exact (mk3_le L).1 (Nat.le_refl _) i hi
  have h2 : wcK F n i j ≤ wcS F n i := (mk3_le i).1 (Nat.le_refl _) j hj
  rw [wcK_turn] at h2
  have h3 := wcK_le.1 (Nat.le_refl (wcK F n j i)) k hk
  omega
theorem colV_yes7 {n : Nat} {f g : Nat → Int} (k : Int) (h1 : someB n f = true) (h2 : someB n g = true) : colV n n f g k = (mtC f (shF n g k) n : Nat) := by
  unfold colV
  rw [(pairHB_iff n n f g).2 ⟨h1, h2, rfl⟩]; rfl
set_option maxHeartbeats 6400000 in
theorem fnWorstCollisions_walk (a0 : Option Addr) (len0 cap0 : Nat) (z0 : List Int) (w : World) (w0 : IsBytes w a0 len0 cap0 z0) :
    Calls Try.prog 3 #[.slice a0 len0 cap0] w fun e w' => e = .returned (.bool true) ∧ Below w.heap.size w w' := by
  by_cases hl0 : 1048576 < len0
  · go_enter Try.func3, Try.ntmps3
    go_wp2
    go_ret
    exact ⟨rfl, Below.refl _ _⟩
  go_enter Try.func3, Try.ntmps3
  go_wp2_with fail
  refine (drawRows_any a0 len0 cap0 z0 _ w0).mono ?_
  rintro e W1 ⟨v, L, rfl, R0, hL, bc⟩
  clear w0
  obtain ⟨N, F, I0, hN⟩ := R0.iir
  obtain ⟨va, vc, rfl⟩ := R0.form
  clear R0
  have hi := fun w h => iWorst_any (.slice va L vc) L N F w h (by omega) (fun i _ => by have := hN i; omega)
  have hs := fun w h => sWorst_any (.slice va L vc) L N F w h (by omega) (fun i _ => by have := hN i; omega)
  cases hOK : (decide (L ≤ 8) && wcOK L N F) with
  | false =>
    rw [show wcV L N F = -1 by unfold wcV; rw [hOK]; rfl] at hi hs
    have HI := Lib.hid hi
    have HS := Lib.hid hs
    clear hi hs hOK hN
    go_wp2_with fail
    refine (HI.out _ I0).mono ?_
    rintro e W2 ⟨rfl, hb2⟩
    have I2 := I0.below hb2
    have b2 := below_then bc (Nat.le_refl _) hb2
    clear I0 bc hb2
    go_wp2_with fail
    refine (HS.out _ I2).mono ?_
    rintro e W3 ⟨rfl, hb3⟩
    have I3 := I2.below hb3
    have b3 := below_then b2 (Nat.le_refl _) hb3
    clear I2 b2 hb3
    go_wp2_with fail
    refine (HS.out _ I3).mono ?_
    rintro e W4 ⟨rfl, hb4⟩
    have b4 := below_then b3 (Nat.le_refl _) hb4
    clear I3 b3 hb4
    go_wp2
    go_ret
    exact ⟨rfl, b4⟩
  | true =>
    simp only [Bool.and_eq_true, decide_eq_true_eq] at hOK
    obtain ⟨h8, hok⟩ := hOK
    have hp := (wcOK_iff L N F).1 hok
    rw [wc_yes_s h8 hp] at hi hs
    obtain ⟨n, hn⟩ : ∃ n, N 0 = n := ⟨_, rfl⟩
    have hn3 : n ≤ 301 := by rw [← hn]; exact hN 0
    rw [hn] at hi hs
    obtain ⟨V, hV⟩ : ∃ V, mk3 (wcS F n) L = V := ⟨_, rfl⟩
    have hVn : V ≤ n := by rw [← hV]; exact mk3_bd (wcS_bd F n) L
    rw [hV] at hi hs
    have hNn : ∀ i, i < L → N i = n := fun i hi => (pairHB_len (hp i hi)).1.trans hn
    have hsm : ∀ i, i < L → someB n (F i) = true := fun i hi => by have := ((pairHB_iff _ _ _ _).1 (hp i hi)).1; rwa [hNn i hi] at this
    have hcol : ∀ (i j k : Nat) u y w, i < L → j < i → IntsC w u n (F j) → IntsC w y n (F i) → Calls Try.prog 11 #[u, y, .int .i64 (k : Nat)] w fun e w' => e = .returned (.int .i64 (mtC (F j) (shF n (F i) (k : Int)) n : Nat)) ∧ Below w.heap.size w w' := fun i j k u y w h1 h2 h3 h4 => by
      have := iColl_w u n (F j) y n (F i) k w h3 (by omega) h4 (by omega)
      rwa [colV_yes7 _ (hsm j (by omega)) (hsm i h1)] at this
    have HI := Lib.hid hi
    have HS := Lib.hid hs
    have HC := Lib.hid hcol
    have HNN := Lib.hid hNn
    have HLE := Lib.hid (fun i j k (hi : i < L) (hj : j < i) (hk : k < n) => wc_least (k := k) hV hi hj hk)
    have HEND := Lib.hid (fun p (h : SeenP F n V p L 0 0) => seen_end hV h)
    obtain ⟨p0, hp0⟩ : ∃ p : Bool, ((V : Int) == 0) = p := ⟨_, rfl⟩
    have S0 := Lib.hid (seen_start (F := F) (n := n) hp0)
    have HP0 := Lib.hid hp0
    clear hi hs hcol hNn hsm hV hp hok hn hN
    go_wp2_with fail
    refine (HI.out _ I0).mono ?_
    rintro e W2 ⟨rfl, hb2⟩
    have I2 := I0.below hb2
    have b2 := below_then bc (Nat.le_refl _) hb2
    clear I0 bc hb2
    go_wp2_with fail
    refine (HS.out _ I2).mono ?_
    rintro e W3 ⟨rfl, hb3⟩
    have I3 := I2.below hb3
    have b3 := below_then b2 (Nat.le_refl _) hb3
    clear I2 b2 hb3
    obtain ⟨a', c', e1, hcap, hc⟩ := I3
    injection e1 with e1 _ e3
    subst e1 e3
    have HROW := Lib.hid hc
    clear hc
    go_wp2
    go_loopw [5, 6] (fun s t wr => ∃ (i : Nat) (p : Bool), i ≤ L ∧ s = .bool p ∧ t = .int .i64 i ∧ Hid (SeenP F n V p i 0 0) ∧ Below W3.heap.size W3 wr) (fun _ t _ => L - (intOf t).toNat)
    case atStart => exact ⟨0, p0, Nat.zero_le _, rfl, rfl, S0, Below.refl _ _⟩
    case round =>
      obtain ⟨i, p, hi, rfl, rfl, rS, rb⟩ := hrel
      clear hp0 S0
      by_cases hiL : i < L
      · have i0 : (0 : Int) ≤ (i : Int) := by omega
        have i1 : (i : Int) < (L : Int) := by omega
        obtain ⟨x, u, rfl, hx, hcx, hu⟩ := HROW.out i hiL
        rw [HNN.out i hiL] at hu
        obtain ⟨ua, uc, rfl, -⟩ := id hu
        have HX : Hid (∀ W, Below W3.heap.size W3 W → W.cell? (x.add i) = some (.slice ua n uc) ∧ IntsC W (.slice ua n uc) n (F i)) := Lib.hid (fun W hb => ⟨(hb.cell (p := x.add i) (by rw [add_block]; exact hx)).trans hcx, hu.below hb⟩)
        have RB := Lib.hid rb
        clear hcx hu rb
        go_wp2
        go_loopw [5, 7] (fun s t wr => ∃ (j : Nat) (p : Bool), j ≤ i ∧ s = .bool p ∧ t = .int .i64 j ∧ Hid (SeenP F n V p i j 0) ∧ Below W3.heap.size W3 wr) (fun _ t _ => i - (intOf t).toNat)
        case atStart => exact ⟨0, p, Nat.zero_le _, rfl, rfl, rS, RB.out⟩
        case round =>
          obtain ⟨j, p2, hj, rfl, rfl, rS2, rb2⟩ := hrel
          clear rS RB
          by_cases hji : j < i
          · have j0 : (0 : Int) ≤ (j : Int) := by omega
            have j1 : (j : Int) < (i : Int) := by omega
            have j2 : (j : Int) < (L : Int) := by omega
            obtain ⟨x', y, ex, -, hcy, hy⟩ := HROW.out j (by omega)
            injection ex with ex
            subst ex
            rw [HNN.out j (by omega)] at hy
            have HY : Hid (∀ W, Below W3.heap.size W3 W → W.cell? (x.add j) = some y ∧ IntsC W y n (F j)) := Lib.hid (fun W hb => ⟨(hb.cell (p := x.add j) (by rw [add_block]; exact hx)).trans hcy, hy.below hb⟩)
            have RB := Lib.hid rb2
            clear hcy hy rb2
            go_wp2
            go_loopw [5, 8] (fun s t wr => ∃ (k : Nat) (p : Bool), k ≤ n ∧ s = .bool p ∧ t = .int .i64 k ∧ Hid (SeenP F n V p i j k) ∧ Below W3.heap.size W3 wr) (fun _ t _ => n - (intOf t).toNat)
            case atStart => exact ⟨0, p2, Nat.zero_le _, rfl, rfl, rS2, RB.out⟩
            case round =>
              obtain ⟨k, p3, hk, rfl, rfl, rS3, rb3⟩ := hrel
              clear rS2 RB
              obtain ⟨g1, hU⟩ := HX.out _ rb3
              obtain ⟨g2, hY⟩ := HY.out _ rb3
              by_cases hkn : k < n
              · have k0 : (k : Int) < (n : Int) := by omega
                have hcl : ∀ W, Below wr.heap.size wr W → Calls Try.prog 11 #[y, .slice ua n uc, .int .i64 (k : Nat)] W fun e w' => e = .returned (.int .i64 (mtC (F j) (shF n (F i) (k : Int)) n : Nat)) ∧ Below W.heap.size W w' := fun W hb => HC.out i j k y _ W hiL hji (hY.below hb) (hU.below hb)
                have hle := HLE.out i j k hiL hji hkn
                obtain ⟨M, hM⟩ : ∃ M, mtC (F j) (shF n (F i) (k : Int)) n = M := ⟨_, rfl⟩
                obtain ⟨b, hb⟩ : ∃ b : Bool, ((M : Int) == (V : Int)) = b := ⟨_, rfl⟩
                have nS := Lib.hid (seen_k rS3.out hM hb)
                rw [hM] at hcl hle
                have hgt : ¬ ((V : Int) < (M : Int)) := by omega
                have HCL := Lib.hid hcl
                have B0 := Lib.hid (Below.refl wr.heap.size wr)
                have RB := Lib.hid rb3
                have G := Lib.hid (And.intro g1 g2)
                clear hM hcl rS3 hU hY rb3
                have g1' : wr.drew.cell? (x.add i) = some (.slice ua n uc) := g1
                have g2' : wr.drew.cell? (x.add j) = some y := g2
                cases p3
                all_goals
                  go_wp2_with fail
                  go_region_held3 (fun wx => Below wr.heap.size wr wx ∧ wx.cell? (x.add i) = some (.slice ua n uc) ∧ wx.cell? (x.add j) = some y) (first | exact ⟨k1, (k1.cell (p := x.add i) (World.block_lt_of_cell? _ _ G.out.1)).trans G.out.1, (k1.cell (p := x.add j) (World.block_lt_of_cell? _ _ G.out.2)).trans G.out.2⟩ | exact ⟨B0.out.drew, g1', g2'⟩) (first
                    | (go_at_call 11; refine (HCL.out _ B0.out.drew).mono ?_; rintro e w5 ⟨rfl, hb5⟩; have k1 := below_then B0.out.drew (Nat.le_refl _) hb5; clear hb5))
                  have k2 := Lib.hid (below_then RB.out (Nat.le_refl _) k1)
                  clear k1 g1 g2 g1' g2'
                  go_wp2
                  go_roundw
                  case rel => exact ⟨k + 1, _, by omega, rfl, by go_num, nS, k2.out⟩
                  case measure => simp [intOf]; omega
              · obtain rfl : k = n := by omega
                have nS := Lib.hid (seen_j rS3.out)
                clear rS3
                go_wp2
                go_roundw
                case rel => exact ⟨j + 1, p3, by omega, rfl, by go_num, nS, rb3⟩
                case measure => simp [intOf]; omega
          · obtain rfl : j = i := by omega
            have nS := Lib.hid (seen_i rS2.out)
            clear rS2
            go_wp2
            go_roundw
            case rel => exact ⟨j + 1, p2, by omega, rfl, by go_num, nS, rb2⟩
            case measure => simp [intOf]; omega
      · obtain rfl : i = L := by omega
        obtain ⟨rfl, h01⟩ := HEND.out p rS.out
        have b5 := below_then b3 (Nat.le_refl _) rb
        clear rS HEND HLE rb b3
        by_cases h1 : 1 < i
        · have l1 : (1 : Int) < (i : Int) := by omega
          go_wp2
          go_ret
          exact ⟨rfl, b5⟩
        · have l1 : ¬ ((1 : Int) < (i : Int)) := by omega
          obtain rfl : V = 0 := by omega
          go_wp2
          go_ret
          exact ⟨rfl, b5⟩
end Go.Proofs.Ytbllmgdnhjdphac
