/- The walk of the law FnSendAll. -/
import Derived.Test.YthfcfnamaedffaaDrawUser6
import Derived.Test.YthfcfnamaedffaaSnd2
import Derived.Test.YthfcfnamaedffaaSeqAlg
namespace Go.Proofs.Ythfcfnamaedffaa
open Go.RowKit
set_option linter.unusedVariables false
set_option maxRecDepth 100000
/-- The users in reverse order. -/
def rvU (F : Nat → Usr) (n : Nat) (i : Nat) : Usr := F (n - 1 - i)
theorem smF_rev (F : Nat → Usr) (n : Nat) : smF (usN (rvU F n)) (usF (rvU F n)) n = smF (usN F) (usF F) n := funext fun j => sumI_rev (fun i => smp (usN F i) (usF F i) j) n
theorem mxN_rev (F : Nat → Usr) (n : Nat) : mxN (usN (rvU F n)) n = mxN (usN F) n := by
  apply Nat.le_antisymm
  · exact mxN_le n (fun i hi => mxN_ge (usN F) n (n - 1 - i) (by omega))
  · refine mxN_le n (fun i hi => ?_)
    have h := mxN_ge (usN (rvU F n)) n (n - 1 - i) (by omega)
    unfold usN rvU at h
    rw [show n - 1 - (n - 1 - i) = i by omega] at h
    exact h
theorem okN_of {f : Nat → Usr} : ∀ n, (∀ i, i < n → (f i).ok = true) → okN f n = true
  | 0, _ => rfl
  | n + 1, h => by simp only [okN]; rw [okN_of n (fun i hi => h i (by omega)), h n (by omega)]; rfl
theorem own_apart {a b : Option Nat} {C : Nat} (h1 : ∀ k, b = some k → k < C) (h2 : ∀ k, a = some k → C ≤ k) : a = none ∨ a ≠ b := by
  cases a with
  | none => exact .inl rfl
  | some k => right; intro e; have := h1 k e.symm; have := h2 k rfl; omega
set_option maxHeartbeats 3200000 in
theorem fnSendAll_walk (a0 : Option Addr) (len0 cap0 : Nat) (z0 : List Int) (w : World) (w0 : IsBytes w a0 len0 cap0 z0) :
    Calls Try.prog 3 #[.slice a0 len0 cap0] w fun e w' => e = .returned (.bool true) ∧ Below w.heap.size w w' := by
  by_cases hl0 : 1048576 < len0
  · go_enter Try.func3, Try.ntmps3
    go_wp2
    go_ret
    exact ⟨rfl, Below.refl _ _⟩
  go_enter Try.func3, Try.ntmps3
  go_wp2_with fail
  refine (drawSendAll_any a0 len0 cap0 z0 _ w0).mono ?_
  rintro e W1 ⟨v, n, F, rfl, O0, hn, hbd, bc⟩
  clear w0
  have hsz : UsrSz n F := fun i hi => ⟨by have := (hbd i hi).1; omega, by have := (hbd i hi).2.1; omega⟩
  have hi := fun w h => iSendAll_any v n F w h (by omega) hsz
  have hs := fun w h => sSendAll_any v n F w h (by omega) hsz
  obtain ⟨va, vc, rfl, -⟩ := O0.form
  have HI := Lib.hid hi
  have HS := Lib.hid hs
  have HSZ := Lib.hid hsz
  have HK := Lib.hid (saN_le n F)
  clear hi hs hsz hbd
  cases hv : usrsB n F with
  | false =>
    rw [hv] at HI HS
    obtain ⟨K, hK⟩ : ∃ K, saN n F = K := ⟨_, rfl⟩
    rw [hK] at HI HS HK
    clear hv hK
    go_wp2_with fail
    refine (HI.out _ O0.users).mono ?_
    rintro e W2 ⟨s, rfl, S2, h2⟩
    have O2 := O0.below h2
    have b2 := below_then bc (Nat.le_refl _) h2
    clear O0 bc h2
    go_wp2_with fail
    refine (HS.out _ O2.users).mono ?_
    rintro e W3 ⟨t, rfl, T3, h3⟩
    have S3 := S2.below h3
    have b3 := below_then b2 (Nat.le_refl _) h3
    clear O2 b2 h3 S2
    go_wp2_with fail
    refine (ssInts_same _ _ _ _ K _ _ S3 T3 (by have := HK.out; omega)).mono ?_
    rintro e w' ⟨rfl, m1, rfl⟩
    have S4 := S3.drewN m1
    have T4 := T3.drewN m1
    have b4 := below_drewN b3 m1
    obtain ⟨W4, hW⟩ : ∃ W, W3.drewN m1 = W := ⟨_, rfl⟩
    rw [hW] at S4 T4 b4 ⊢
    clear hW S3 T3 b3
    go_wp2_with fail
    refine (ssInts_same _ _ _ _ K _ _ S4 T4 (by have := HK.out; omega)).mono ?_
    rintro e w' ⟨rfl, m2, rfl⟩
    have b5 := below_drewN b4 m2
    go_wp2
    go_ret
    exact ⟨rfl, b5⟩
  | true =>
    rw [hv] at HI HS
    have hv' := hv
    unfold usrsB at hv'
    simp only [Bool.and_eq_true, decide_eq_true_eq] at hv'
    obtain ⟨hok, h8⟩ := hv'
    have hRok : ∀ i, i < n → (rvU F n i).ok = true := fun i hi => show (F (n - 1 - i)).ok = true from okN_at n hok (by omega)
    have hRv : usrsB n (rvU F n) = true := by unfold usrsB; rw [okN_of n hRok, decide_eq_true h8]; rfl
    have hother := fun u w h => iSendAll_any u n (rvU F n) w h (by omega) (fun i hi => HSZ.out (n - 1 - i) (by omega))
    rw [hRv, show saN n (rvU F n) = saN n F by unfold saN; rw [hRv, hv, if_pos rfl, if_pos rfl, mxN_rev], smF_rev] at hother
    have HFIN : Hid (mxN (usN (rvU F n)) n = saN n F ∧ smF (usN (rvU F n)) (usF (rvU F n)) n = smF (usN F) (usF F) n) := Lib.hid ⟨by unfold saN; rw [hv, if_pos rfl, mxN_rev], smF_rev F n⟩
    have HO := Lib.hid hother
    have HR := Lib.hid hRok
    have HRF : Hid (∀ i, rvU F n i = F (n - 1 - i)) := Lib.hid (fun i => rfl)
    clear hother hRok hRv hok hv
    obtain ⟨K, hK⟩ : ∃ K, saN n F = K := ⟨_, rfl⟩
    rw [hK] at HI HS HK HO HFIN
    obtain ⟨G, hG⟩ : ∃ G, smF (usN F) (usF F) n = G := ⟨_, rfl⟩
    rw [hG] at HI HS HO HFIN
    obtain ⟨R, hR⟩ : ∃ R, rvU F n = R := ⟨_, rfl⟩
    rw [hR] at HO HFIN HR HRF
    clear hK hG hR HSZ
    go_wp2_with fail
    refine (HI.out _ O0.users).mono ?_
    rintro e W2 ⟨s, rfl, S2, h2⟩
    have O2 := O0.below h2
    have b2 := below_then bc (Nat.le_refl _) h2
    clear O0 bc h2
    go_wp2_with fail
    refine (HS.out _ O2.users).mono ?_
    rintro e W3 ⟨t, rfl, T3, h3⟩
    have S3 := S2.below h3
    have O3 := O2.below h3
    have b3 := below_then b2 (Nat.le_refl _) h3
    clear O2 b2 h3 S2
    go_wp2_with fail
    refine (ssInts_same _ _ _ _ K _ _ S3 T3 (by have := HK.out; omega)).mono ?_
    rintro e w' ⟨rfl, m1, rfl⟩
    have S4 := S3.drewN m1
    have O4 := O3.drewN m1
    have b4 := below_drewN b3 m1
    obtain ⟨W, hW⟩ : ∃ W, W3.drewN m1 = W := ⟨_, rfl⟩
    rw [hW] at S4 O4 b4 ⊢
    clear hW S3 T3 b3 O3
    obtain ⟨va', vc', e, HC⟩ := O4.users
    injection e with e1 e2 e3
    subst e1 e3
    clear e2
    have HC := Lib.hid HC
    have HS4 := Lib.hid S4
    have HB4 := Lib.hid b4
    have T0 := Lib.hid ((UF.empty0 W R).alloc (.cells #[] 3))
    have eW : (W.alloc (.cells #[] 30)).heap.size = W.heap.size + 1 := by simp
    have hU0 := OF.empty0 (W.alloc (.cells #[] 30)) (smF (usN R) (usF R) 0)
    rw [eW] at hU0
    have U0 := Lib.hid hU0
    clear hU0 eW
    have B0 := Lib.hid ((((Below.refl W.heap.size W).alloc (Nat.le_refl _) (.cells #[] 30))).alloc (by simp) (.cells #[] 3))
    have u0 : IntKind.i64.wrap ((n : Int) - 1) = (n : Int) - 1 := IntWalk.i64_in _ (by omega)
    clear O4 S4 b4
    go_wp2
    go_loopw [8, 9, 10] (fun tv sv t wr => ∃ j C : Nat, j ≤ n ∧ t = .int .i64 ((n : Int) - 1 - (j : Int)) ∧ UF wr W.heap.size tv j R ∧ (∀ k, tv.ownBlock = some k → k < C) ∧ OF wr C sv (mxN (usN R) j) (smF (usN R) (usF R) j) ∧ (W.heap.size ≤ C ∧ C ≤ wr.heap.size) ∧ Below W.heap.size W wr) (fun _ _ t _ => (intOf t + 1).toNat)
    case atStart => exact ⟨0, W.heap.size + 1, by omega, by simp, T0.out, fun k hk => by cases hk; exact Nat.lt_succ_self _, U0.out, ⟨by omega, by simp⟩, B0.out⟩
    case round =>
      obtain ⟨j, C, hj, rfl, rT, rC, rS, ⟨rc1, rc2⟩, rb⟩ := hrel
      clear T0 U0 B0 u0
      by_cases hlt : j < n
      · obtain ⟨Q, hQ⟩ : ∃ Q, n - 1 - j = Q := ⟨_, rfl⟩
        have p1 : (n : Int) - 1 - (j : Int) = (Q : Int) := by omega
        have p2 : (n : Int) - 1 - ((j + 1 : Nat) : Int) = (Q : Int) - 1 := by omega
        have HQ := Lib.hid p2
        have p4 : Q < n := by omega
        rw [p1]
        obtain ⟨b, o, rfl, hx, hcc⟩ := HC.out Q p4
        have i0 : (0 : Int) ≤ (Q : Int) := by omega
        have i1 : (Q : Int) < (n : Int) := by omega
        have hRj : R j = F Q := by rw [HRF.out, hQ]
        have hu := HR.out j hlt
        have hsum := us_sum (f := R) (n := j) (okN_of j (fun i hi => HR.out i (by omega))) (by omega)
        have hsum1 := us_sum (f := R) (n := j + 1) (okN_of (j + 1) (fun i hi => HR.out i (by omega))) (by omega)
        have hub := us_bd (f := R) (i := j) hu
        have hstep := smF_step (usN R) (usF R) j
        have hmx : mxN (usN R) (j + 1) = max (mxN (usN R) j) (usN R j) := rfl
        have hE := fun x u w hx hu => iAddSig_any x (mxN (usN R) j) (smF (usN R) (usF R) j) u (usN R j) (usF R j) w hx (by omega) hu (by omega)
        obtain ⟨ad1, ad2⟩ := ad_in hsum.2 hub.2.1
        rw [ad1, ad2, hstep, ← hmx, show resN (mxN (usN R) (j + 1)) (smF (usN R) (usF R) (j + 1)) = mxN (usN R) (j + 1) by unfold resN; rw [hsum1.2, if_pos rfl], hsum1.2] at hE
        have hEx : usN R j = (F Q).len ∧ usF R j = (F Q).sig := by unfold usN usF; rw [hRj]; exact ⟨rfl, rfl⟩
        rw [hEx.1, hEx.2] at hE
        rw [hRj] at hu
        obtain ⟨q1, q2, q3, q4, q5, q6⟩ := usr_parts hu
        obtain ⟨h1, h2, ⟨g0, g1, e0, e1⟩, h3⟩ := (usrB_iff _ _ _ _).1 hu
        have hA := fun w => iSpread_yes (F Q).data (F Q).code w h2 h1 q1
        have hB := fun v w hh => iScale_yes v ((F Q).data.size * (F Q).code.size) (spF (F Q).data (F Q).code (F Q).code.size) (F Q).gain w hh q2 ((inM_iff _).2 ⟨by omega, by omega⟩)
        rw [show resN ((F Q).data.size * (F Q).code.size) (scF (F Q).gain (spF (F Q).data (F Q).code (F Q).code.size)) = (F Q).data.size * (F Q).code.size by unfold resN; rw [q3, if_pos rfl], q3] at hB
        have hD := fun v w hh => iDelay_yes v ((F Q).data.size * (F Q).code.size) (scF (F Q).gain (spF (F Q).data (F Q).code (F Q).code.size)) (F Q).delay.toNat w hh q3 (by omega)
        rw [show resN ((F Q).delay.toNat + (F Q).data.size * (F Q).code.size) (dlF (F Q).delay.toNat (scF (F Q).gain (spF (F Q).data (F Q).code (F Q).code.size))) = (F Q).delay.toNat + (F Q).data.size * (F Q).code.size by unfold resN; rw [q5, if_pos rfl], q5, show (((F Q).delay.toNat : Nat) : Int) = (F Q).delay by omega] at hD
        have hD' : ∀ v w, IntsR w v ((F Q).data.size * (F Q).code.size) (scF (F Q).gain (spF (F Q).data (F Q).code (F Q).code.size)) → Calls Try.prog 23 #[v, .int .i64 (F Q).delay] w fun e w' => ∃ u, e = .returned (.tuple #[u, .bool true]) ∧ OF w' w.heap.size u (F Q).len (F Q).sig ∧ Below w.heap.size w w' := hD
        obtain ⟨bs1, bs2⟩ := (bits_iff _).1 h2
        obtain ⟨sq0, sq1, sq2⟩ := (seqB_iff _).1 h1
        have hV := fun w => iUser_any (F Q).code (F Q).data (F Q).gain (F Q).delay w (by omega) (by omega)
        rw [show usrB (F Q).code (F Q).data (F Q).gain (F Q).delay = true from hu] at hV
        have hcells := fun w' (hb : Below W.heap.size W w') => hcc.below hb hx
        clear hD hcc hu q1 q2 q3 q4 q5 q6 h1 h2 h3 g0 g1 e0 e1 bs1 bs2 sq0 sq1 sq2 hub hsum ad1 ad2 hmx hEx hx
        obtain ⟨N2, hN2⟩ : ∃ N, (F Q).len = N := ⟨_, rfl⟩
        obtain ⟨G2, hG2⟩ : ∃ N, (F Q).sig = N := ⟨_, rfl⟩
        rw [hN2, hG2] at hE hD'
        obtain ⟨P, hP⟩ : ∃ P, (F Q).data.size * (F Q).code.size = P := ⟨_, rfl⟩
        rw [hP] at hA hB hD'
        obtain ⟨F1, hF1⟩ : ∃ P, spF (F Q).data (F Q).code (F Q).code.size = P := ⟨_, rfl⟩
        rw [hF1] at hA hB hD'
        obtain ⟨F2, hF2⟩ : ∃ P, scF (F Q).gain F1 = P := ⟨_, rfl⟩
        rw [hF2] at hB hD'
        clear hN2 hG2 hP hF1 hF2
        obtain ⟨⟨c, d, x, y⟩, hFQ⟩ : ∃ u, F Q = u := ⟨_, rfl⟩
        rw [hFQ] at hA hB hD' hV hcells hRj
        dsimp only at hA hB hD' hV
        have HM : Hid (∀ wx C s, OF wx C s (mxN (usN R) (j + 1)) (smF (usN R) (usF R) (j + 1)) → OF wx C s (mxN (usN R) (j + 1)) (smF (usN R) (usF R) (j + 1))) := Lib.hid (fun _ _ _ h => h)
        obtain ⟨M1, hM1⟩ : ∃ M, mxN (usN R) (j + 1) = M := ⟨_, rfl⟩
        obtain ⟨S1, hS1⟩ : ∃ M, smF (usN R) (usF R) (j + 1) = M := ⟨_, rfl⟩
        have HM : Hid (∀ wx C s, OF wx C s M1 S1 → OF wx C s (mxN (usN R) (j + 1)) (smF (usN R) (usF R) (j + 1))) := Lib.hid (fun _ _ _ h => by rw [hM1, hS1]; exact h)
        rw [hM1, hS1] at hE
        obtain ⟨M0, hM0⟩ : ∃ M, mxN (usN R) j = M := ⟨_, rfl⟩
        obtain ⟨S0, hS0⟩ : ∃ M, smF (usN R) (usF R) j = M := ⟨_, rfl⟩
        rw [hM0, hS0] at hE rS
        have HA := Lib.hid hA
        have HBB := Lib.hid hB
        have HD := Lib.hid hD'
        have HV := Lib.hid hV
        have HE := Lib.hid hE
        have HCC := Lib.hid hcells
        have HRJ := Lib.hid hRj
        obtain ⟨c0, c1, c2, c3⟩ := hcells wr rb
        have hsz : W.heap.size ≤ wr.heap.size := rb.size
        clear hA hB hD' hV hE hcells hRj hFQ hM1 hS1 hM0 hS0 hQ p1 p2 p4 hsum1 hstep
        dsimp only at c0 c1 c2 c3
        go_wp2_with (
          at_builtin
          refine wpList_append_user rfl (.tmp 67) (.tmp 72) rfl W.heap.size _ j R rfl (rT.alloc _) _ 1 ⟨c, d, x, y⟩ rfl ⟨by simp, by simp, by simp, by simp⟩ (by omega) (by simp; omega) ?_
          intro v' w6 O6 g6
          have b6 : Below W.heap.size W w6 := (rb.alloc hsz _).grown g6 (by simp; omega) (fun q hq => (rT.lt q hq).1)
          have S6 := (rS.alloc _).kept g6 (own_apart rC (fun k hk => (rS.lt k hk).1))
          have T6 : UF w6 W.heap.size v' (j + 1) R := O6.congr (fun i hi => by
            by_cases e : i < j
            · simp only [if_pos e]
            · have e2 : i = j := by omega
              subst e2
              simp only [if_neg e]
              exact HRJ.out.symm)
          obtain ⟨d0, d1, d2, d3⟩ := HCC.out w6 b6
          dsimp only at d0 d1 d2 d3
          have HB6 := Lib.hid b6
          have HS6 := Lib.hid S6
          have HT6 := Lib.hid T6
          clear rT rC rS rc1 rc2 rb O6 g6 b6 S6 T6 c0 c1 c2 c3 hsz)
        refine (HA.out _).mono ?_
        rintro e w7 ⟨x1, rfl, X1, h7⟩
        have uA := UsrAt.new w6 30 c d x y
        have b7 := below_then (HB6.out.alloc HB6.out.size (.cells #[.string c, .string d, .int .i64 x, .int .i64 y] 30)) (Nat.le_refl _) h7
        have u7 := uA.below h7 uA.2.2.2.2
        have S7 := (HS6.out.alloc (.cells #[.string c, .string d, .int .i64 x, .int .i64 y] 30)).below h7
        have T7 := (HT6.out.alloc (.cells #[.string c, .string d, .int .i64 x, .int .i64 y] 30)).below h7
        clear uA h7 HB6 HS6 HT6 d0 d1 d2 d3
        obtain ⟨x0, x1', x2, x3, x4⟩ := id u7
        go_wp2_with fail
        refine (HBB.out _ _ X1.ints).mono ?_
        rintro e w8 ⟨y1, rfl, Y1, h8⟩
        have b8 := below_then b7 (Nat.le_refl _) h8
        have u8 := u7.below h8 x4
        have S8 := S7.below h8
        have T8 := T7.below h8
        clear b7 u7 S7 T7 h8 x0 x1' x2 x3 x4 X1
        obtain ⟨x0, x1', x2, x3, x4⟩ := id u8
        go_wp2_with fail
        refine (HD.out _ _ Y1.ints).mono ?_
        rintro e w9 ⟨z1, rfl, Z1, h9⟩
        have b9 := below_then b8 (Nat.le_refl _) h9
        have u9 := u8.below h9 x4
        have S9 := S8.below h9
        have T9 := T8.below h9
        clear b8 u8 S8 T8 h9 x0 x1' x2 x3 x4 Y1
        go_wp2_with fail
        refine (HE.out _ _ _ S9.ints Z1.ints).mono ?_
        rintro e w10 ⟨s1, rfl, Q1, h10⟩
        have b10 := below_then b9 (Nat.le_refl _) h10
        have u10 := u9.below h10 u9.2.2.2.2
        have HOWN := Lib.hid (fun k hk => (T9.lt k hk).2)
        have T10 := T9.below h10
        have hC1 := b9.size
        have hC2 := h10.size
        clear b9 u9 S9 T9 h10 Z1
        obtain ⟨x0, x1', x2, x3, x4⟩ := id u10
        go_wp2_with fail
        refine (HV.out _).mono ?_
        rintro e w11 ⟨rfl, h11⟩
        have b11 := below_then b10 (Nat.le_refl _) h11
        have T11 := T10.below h11
        have Q2 := Q1.below h11
        have hC3 := Nat.le_trans hC2 h11.size
        clear b10 u10 T10 Q1 h11 x0 x1' x2 x3 x4 hC2
        go_wp2
        go_roundw
        case rel => exact ⟨j + 1, w9.heap.size, by omega, by rw [HQ.out], T11, HOWN.out, HM.out _ _ _ Q2, ⟨hC1, hC3⟩, b11⟩
        case measure => simp [intOf]
      · obtain rfl : j = n := by omega
        have l0 : ¬ (0 : Int) ≤ (j : Int) - 1 - (j : Int) := by omega
        have s5 := HS4.out.below rb
        have b5 := below_then HB4.out (Nat.le_refl _) rb
        rw [HFIN.out.1, HFIN.out.2] at rS
        clear rb HS4 HB4 rC
        go_wp2_with fail
        refine (HO.out _ _ rT.users).mono ?_
        rintro e w6 ⟨o1, rfl, P1, h6⟩
        have s6 := s5.below h6
        have S6 := rS.below h6
        have b6 := below_then b5 (Nat.le_refl _) h6
        clear s5 rS b5 h6 rT
        go_wp2_with fail
        refine (ssInts_same _ _ _ _ K _ _ P1 s6 (by have := HK.out; omega)).mono ?_
        rintro e w' ⟨rfl, m2, rfl⟩
        have s7 := s6.drewN m2
        have S7 := S6.drewN m2
        have b7 := below_drewN b6 m2
        obtain ⟨W7, hW⟩ : ∃ W, w6.drewN m2 = W := ⟨_, rfl⟩
        rw [hW] at s7 S7 b7 ⊢
        clear hW s6 S6 b6 P1
        go_wp2_with fail
        refine (ssInts_same _ _ _ _ K _ _ S7 s7 (by have := HK.out; omega)).mono ?_
        rintro e w' ⟨rfl, m3, rfl⟩
        have b8 := below_drewN b7 m3
        go_wp2
        go_ret
        exact ⟨rfl, b8⟩
end Go.Proofs.Ythfcfnamaedffaa
