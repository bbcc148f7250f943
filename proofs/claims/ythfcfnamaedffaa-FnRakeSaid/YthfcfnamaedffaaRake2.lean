/- RakeReceive of the program. -/
import Derived.Test.YthfcfnamaedffaaRake
namespace Go.Proofs.Ythfcfnamaedffaa
open Go.RowKit Go.Maps
set_option linter.unusedVariables false
set_option maxRecDepth 100000
theorem lawMI : Keyed Try.prog 3 := int_keyed Try.underlying3
theorem wf_i64 {y : Int} (h1 : -2400000000 ≤ y) (h2 : y ≤ 2400000000) : (Lit.int .i64 y).wf = true := by
  have h := wrap64_wf y
  rwa [show wrap64 y = y by unfold wrap64; omega] at h
theorem zeroMI (w : World) : (zeroValue 3).run Try.prog w = .ok (.int .i64 0) w := by kernel_rfl
theorem wt_bd {a b : Int} (h1 : 0 ≤ a) (h2 : a ≤ 8) (h3 : -300000000 ≤ b) (h4 : b ≤ 300000000) : -2400000000 ≤ a * b ∧ a * b ≤ 2400000000 := by
  have e : a = 0 ∨ a = 1 ∨ a = 2 ∨ a = 3 ∨ a = 4 ∨ a = 5 ∨ a = 6 ∨ a = 7 ∨ a = 8 := by omega
  rcases e with rfl | rfl | rfl | rfl | rfl | rfl | rfl | rfl | rfl <;> omega
set_option maxHeartbeats 3200000 in
set_option maxRecDepth 100000 in
theorem iRake_any (v dv : Value) (n m : Nat) (z g : Nat → Int) (q : ByteArray) (c : Int) (w : World) (h : IntsC w v n z) (hd' : IntsC w dv m g) (hn : n ≤ 1048576) (hq : q.size ≤ 1048576) (hm : m ≤ 1048576) :
    Calls Try.prog 35 #[v, .string q, dv, .int .i64 c] w fun e w' => e = .returned (.tuple #[.string (rkAns n z q m g c).1, .bool (rkAns n z q m g c).2]) ∧ Below w.heap.size w w' := by
  obtain ⟨a, cap, rfl, hdc⟩ := hd'.ints
  have HC := Lib.hid hdc
  clear hdc hd'
  by_cases h0 : m = 0
  · subst h0
    rw [rk_no (fun ⟨⟨h1, _⟩, _⟩ => absurd h1 (by omega))]
    clear h HC
    go_enter Try.func35, Try.ntmps35
    go_wp2
    go_ret2
    exact ⟨rfl, Below.refl _ _⟩
  · by_cases h8 : 8 < m
    · rw [rk_no (fun ⟨⟨_, h1⟩, _⟩ => absurd h1 (by omega))]
      have l0 : ¬ ((m : Int) = 0) := by omega
      have l1 : (8 : Int) < (m : Int) := by omega
      clear h HC
      go_enter Try.func35, Try.ntmps35
      go_wp2
      go_ret2
      exact ⟨rfl, Below.refl _ _⟩
    · have l0 : ¬ ((m : Int) = 0) := by omega
      have l1 : ¬ ((8 : Int) < (m : Int)) := by omega
      have HV := Lib.hid h
      have HB := Lib.hid (fun y w h => iRecep_any v n z q y c w h hn hq)
      have HK := Lib.hid (fun (y : Int) (hk : (Lit.int .i64 y).wf = true) => keyOf_int_mk (P := Try.prog) Try.underlying3 hk)
      have HNO : Hid (∀ k, k < m → rcB n z q (g k) c = false → rkAns n z q m g c = noS) := Lib.hid (fun k hk hx => rk_no (fun ⟨_, h2⟩ => by rw [h2 k hk] at hx; exact absurd hx (by decide)))
      have HYES : Hid ((∀ k, k < m → rcB n z q (g k) c = true) → rkAns n z q m g c = (sgS c.toNat (rkS n z q g m), true)) := Lib.hid (fun hx => rk_yes ⟨⟨by omega, by omega⟩, hx⟩)
      have HM := Lib.hid (show 1 ≤ m ∧ m ≤ 8 by omega)
      have hmm := @run_makeMap Try.prog
      clear h hn hq hm h0 h8
      go_enter Try.func35, Try.ntmps35
      go_wp2
      go_loopw [29] (fun t wr => ∃ k : Nat, k ≤ m ∧ t = .int .i64 k ∧ (∃ D : DataW Unit, wr.ownsMap Try.prog 3 (plainElem Try.prog 3) w.heap.size k D ∧ Hid (MK D g k)) ∧ Below w.heap.size w wr ∧ Hid (∀ i, i < k → rcB n z q (g i) c = true)) (fun t _ => m - (intOf t).toNat)
      case atStart => exact ⟨0, Nat.zero_le _, rfl, ⟨_, World.ownsMap_made _ _ _ _, Lib.hid (MK.zero g)⟩, (Below.refl _ _).alloc (Nat.le_refl _) _, Lib.hid (fun i hi => absurd hi (Nat.not_lt_zero _))⟩
      case round =>
        obtain ⟨k, hk, rfl, ⟨D, hown, hMK⟩, rb, rG⟩ := hrel
        by_cases hlt : k < m
        · obtain ⟨x, rfl, hx, hcc⟩ := HC.out k hlt
          have c0 := (rb.cell (p := x.add k) (by rw [add_block]; exact hx)).trans hcc
          have i0 : (0 : Int) ≤ (k : Int) := by omega
          have i1 : (k : Int) < (m : Int) := by omega
          have hno := HNO.out k hlt
          obtain ⟨N0, hN0⟩ : ∃ N, cntK g (g k) k = N := ⟨_, rfl⟩
          have hb0 := cntK_bd g (g k) k
          rw [hN0] at hb0
          obtain ⟨m1, m8⟩ := HM.out
          obtain ⟨N1, hN1⟩ : ∃ N, N0 + 1 = N := ⟨_, rfl⟩
          have u1 : IntKind.i64.wrap (N0 + 1) = N1 := by rw [hN1]; exact IntWalk.i64_in _ (by omega)
          have hstep := hMK.out.step (N := N1) (by rw [cntK_succ, if_pos rfl, hN0, hN1])
          have hlook : ∀ c' : Int, D.atKey (.int .i64 (g k)) (.lit (.int .i64 0)) = .lit (.int .i64 c') → c' = N0 := fun c' hat => (hMK.out.look (x := g k) (c := c') hat).trans hN0
          have hg1 : rcB n z q (g k) c = true → Hid (∀ i, i < k + 1 → rcB n z q (g i) c = true) := fun hr => Lib.hid (fun i hi => by
            rcases Nat.lt_or_ge i k with h | h
            · exact rG.out i h
            · rw [show i = k by omega]; exact hr)
          obtain ⟨Y, hY⟩ : ∃ Y, g k = Y := ⟨_, rfl⟩
          rw [hY] at c0 hno hlook hstep hg1
          have hb := HB.out Y wr (HV.out.ints.below rb)
          have W1 : Hid ((Lit.int .i64 N1).wf = true) := Lib.hid (wf_i64 (by omega) (by omega))
          clear hN0 hb0 m1 m8 hcc hx hN1 hMK hY
          cases hr : rcB n z q Y c with
          | false =>
            have HN := Lib.hid (hno hr)
            rw [hr] at hb
            have HBB := Lib.hid hb
            clear hb hno hr hlook hstep hg1
            go_wp2_with fail
            refine HBB.out.mono ?_
            rintro e w' ⟨rfl, rfl⟩
            go_wp2
            go_ret2
            exact ⟨by rw [HN.out]; rfl, rb⟩
          | true =>
            rw [hr] at hb
            obtain ⟨_, _, y1, _⟩ := (rcB_iff _ _ _ _ _).1 hr
            have HKY := Lib.hid (HK.out Y (wf_i64 (by omega) (by omega)))
            have HBB := Lib.hid hb
            have HG1 := hg1 hr
            have HST := Lib.hid hstep
            have HL := Lib.hid hlook
            clear hb hno hr hlook hstep hg1 y1
            go_wp2_with fail
            refine HBB.out.mono ?_
            rintro e w' ⟨rfl, rfl⟩
            go_wp2_with (first
              | (at_lookup; refine wpList_lookup_own_int _ rfl _ _ 95 rfl 3 3 .i64 lawMI Try.underlying95 Try.underlying3 (zeroMI _) w.heap.size k _ rfl hown _ _ rfl HKY.out ?_; intro c' hat hwc; obtain rfl := HL.out c' hat; clear hat hwc)
              | (at_mapUpdate; refine wpList_mapUpdate_own _ rfl _ _ _ 95 rfl 3 3 lawMI Try.underlying95 _ w.heap.size k _ rfl hown (by unfold maxLen; omega) _ _ _ rfl rfl HKY.out _ [] (plainElem_int Try.underlying3 W1.out) ?_; intro w1 hown1 hgrow1)
              | go_in)
            go_roundw
            case rel => exact ⟨k + 1, by omega, by go_num, ⟨_, hown1, HST⟩, rb.grown hgrow1 rb.size (fun j hj => by cases hj; exact Nat.le_refl _), HG1⟩
            case measure => simp [intOf]; omega
        · obtain rfl : k = m := by omega
          have HN := Lib.hid (HYES.out rG.out)
          obtain ⟨r1, r2, _, r4⟩ := (rcB_iff _ _ _ _ _).1 (rG.out 0 (by have := HM.out; omega))
          obtain ⟨p, rfl⟩ : ∃ p : Nat, c = p := ⟨c.toNat, by omega⟩
          have hmk := make_ints p (by omega)
          have own2 := hown.alloc (.cells (madeCells #[.int .i64 0] p) 3)
          have O0 := OF.made wr p (by omega)
          have b0 := rb.alloc rb.size (.cells (madeCells #[.int .i64 0] p) 3)
          have HRG := Lib.hid rG.out
          have q0 := hown.lt
          clear HC l0 l1 HB HK HNO HYES rG hown
          go_wp2_with (first
            | (at_range; refine wpList_range_own _ rfl _ 95 rfl 3 3 lawMI Try.underlying95 _ w.heap.size k D rfl own2 ?_; intro w0 hrg0 hg0 hs0)
            | go_in)
          go_frame
          obtain ⟨hp1, hp2⟩ : 0 ≤ p ∧ p ≤ 600 := ⟨by omega, by omega⟩
          have HAT : Hid (∀ x c1 : Int, (∀ zd, D.atKey (.int .i64 x) zd = .lit (.int .i64 c1)) → c1 = cntK g x k ∧ 0 ≤ c1 ∧ c1 ≤ 8 ∧ ∃ d : Nat, x = d ∧ d ≤ 3000) := Lib.hid (fun x c1 hat => by
            obtain ⟨e1, i, hi, e2⟩ := hMK.out.count hat
            have h1 := cntK_bd g x k
            have h2 := HM.out
            obtain ⟨_, _, h3, _⟩ := (rcB_iff _ _ _ _ _).1 (HRG.out i hi)
            exact ⟨e1, by omega, by omega, x.toNat, by omega, by omega⟩)
          have HLS := Lib.hid (fun left x (hx : left (.int .i64 x) = true) j => lfS_step (rkC n z q) g left x hx j k)
          have HLB := Lib.hid (fun left j => lfS_bd (F := rkC n z q) (fun y j => coL_bd r1 r2 _ _) g left (m := k) HM.out.2 j)
          have HCB := Lib.hid (fun (d : Nat) j => coL_bd r1 r2 d j)
          have HE := Lib.hid (fun (left : Lit → Bool) (hl : ∀ kl, left kl = false) (j : Nat) => show lfS (rkC n z q) g left k j = rkS n z q g k j from lfS_end (rkC n z q) (g := g) (m := k) hl j)
          have HD := Lib.hid (fun w h (s : Nat) (hs : s ≤ 3000) => iCorr_any v n z q s p w h r1 r2 hs hp2)
          have HG := Lib.hid (fun u w h => iSigns_any u p (rkS n z q g k) w h (by omega))
          have q1 : (wr.alloc (.cells (madeCells #[.int .i64 0] p) 3)).heap.size = wr.heap.size + 1 := by simp
          have O1 := (O0.kept hg0 (by simp [Value.ownBlock])).congr (g := lfS (rkC n z q) g (has D) k) (fun j _ => (lfS_start (rkC n z q) (fun i hi => hMK.out.2.2.1 i hi) j).symm)
          have b1 := b0.grown hg0 (by rw [q1]; omega) (fun j hj => by cases hj)
          clear hMK r1 r2 r4 hmk O0 b0 own2 hg0 hs0
          obtain ⟨R, hR⟩ : ∃ R, (wr.alloc (.cells (madeCells #[.int .i64 0] p) 3)).heap.size = R := ⟨_, rfl⟩
          rw [hR] at hrg0 q1
          obtain ⟨G, hG⟩ : ∃ G, wr.heap.size = G := ⟨_, rfl⟩
          rw [hG] at O1 q0 q1
          have HRG0 := Lib.hid hrg0
          have HO1 := Lib.hid O1
          have HB1 := Lib.hid b1
          clear hrg0 O1 b1 rb HRG
          rw [hR, hG]
          have hRG : ∀ A : Nat, R < A → G < A := fun A hA => by omega
          have hWR : w.heap.size ≤ R := by omega
          have hRN : R ≠ G := by omega
          have HQ := Lib.hid (And.intro hRG (And.intro hWR hRN))
          clear hR hG q1 hRG hWR hRN
          go_loopw [14] (fun _ wr2 => ∃ (left : Lit → Bool) (cnt : Nat), wr2.ranges Try.prog 3 (plainElem Try.prog 3) w.heap.size R k D left cnt ∧ OF wr2 G (.slice (some ⟨G, 0, none⟩) p p) p (lfS (rkC n z q) g left k) ∧ Below w.heap.size w wr2) (fun _ wr2 => wr2.rangeLeft w.heap.size R)
          case atStart => exact ⟨_, _, HRG0.out, HO1.out, HB1.out⟩
          case round =>
            obtain ⟨left, cnt, hrg, rO, rb⟩ := hrel
            clear HRG0 HO1 HB1
            go_wp2_with (first
              | (at_next; refine wpList_next_ranges_ii _ rfl _ rfl 3 3 .i64 .i64 lawMI Try.underlying3 Try.underlying3 w.heap.size R k _ _ _ rfl hrg ?_ ?_)
              | go_in)
            · intro _ hl0
              have OE := rO.congr (fun j _ => HE.out left hl0 j)
              clear rO hrg
              go_wp2_with fail
              refine (HG.out _ _ OE.ints).mono ?_
              rintro e w1 ⟨rfl, b1⟩
              have c1 := below_then rb (Nat.le_refl _) b1
              go_wp2
              go_ret2
              exact ⟨by rw [HN.out]; rfl, c1⟩
            · intro x c1 w1 cnt1 hwx hwc hlx hat hrg1 hlt1 hg1 hs1 hen
              obtain ⟨e1, e2, e3, d, rfl, d3⟩ := HAT.out x c1 hat
              have hls := HLS.out left (d : Int) hlx
              rw [← e1] at hls
              have hls' : ∀ j, lfS (rkC n z q) g (fun z => left z && !z.sameKey (.int .i64 (d : Int))) k j = lfS (rkC n z q) g left k j + c1 * coL n z q d j := hls
              have HCN : Hid (wr.rangeLeft w.heap.size R = cnt) := Lib.hid hrg.left_eq
              have O1 := rO.kept hg1 (.inr (by simp [Value.ownBlock, HQ.out.2.2.symm]))
              have b1 := rb.grown hg1 rb.size (fun j hj => by cases hj; exact HQ.out.2.1)
              have hdd := HD.out w1 (HV.out.below b1) d d3
              have hlb := HLB.out left
              have hlb' := HLB.out (fun z => left z && !z.sameKey (.int .i64 (d : Int)))
              have HFIN : Hid (∀ wx S', lfS (rkC n z q) g (fun z => left z && !z.sameKey (.int .i64 (d : Int))) k = S' → OF wx G (.slice (some ⟨G, 0, none⟩) p p) p S' → OF wx G (.slice (some ⟨G, 0, none⟩) p p) p (lfS (rkC n z q) g (fun z => left z && !z.sameKey (.int .i64 (d : Int))) k)) := Lib.hid (fun wx S' e h => by rw [e]; exact h)
              obtain ⟨S, hS⟩ : ∃ S, lfS (rkC n z q) g left k = S := ⟨_, rfl⟩
              rw [hS] at hls' hlb O1
              obtain ⟨S', hS'⟩ : ∃ S', lfS (rkC n z q) g (fun z => left z && !z.sameKey (.int .i64 (d : Int))) k = S' := ⟨_, rfl⟩
              rw [hS'] at hls' hlb'
              have HEQ := Lib.hid hls'
              have HB1 := Lib.hid hlb
              have HB2 := Lib.hid hlb'
              have HS' := Lib.hid hS'
              have HDD := Lib.hid hdd
              have HO1 := Lib.hid O1
              have HR1 := Lib.hid hrg1
              have BB1 := Lib.hid b1
              have hGR : G < w1.heap.size := HQ.out.1 _ hrg1.lt
              clear hls hls' hlb hlb' hS hS' hdd O1 b1 hrg1 rO rb hrg hat hlx hwx hwc hg1 hs1 e1
              go_wp2_with fail
              refine HDD.out.mono ?_
              rintro e w2 ⟨u, rfl, O2, b2⟩
              obtain ⟨au, capu, rfl, hcu⟩ := O2.form
              have gb := grown_of_below b2
              have HR2 := Lib.hid (HR1.out.kept gb (by simp) (by simp))
              have HO2 := Lib.hid ((HO1.out.below b2).congr (g := fun j => if j < 0 then S' j else S j) (fun j _ => by simp))
              have BB2 := Lib.hid (below_then BB1.out (Nat.le_refl _) b2)
              have HCU : Hid (0 < p → ∃ gu, au = some ⟨gu, 0, none⟩ ∧ G < gu ∧ gu < w2.heap.size ∧ ∀ i, i < p → w2.cell? ⟨gu, i, none⟩ = some (.int .i64 (coL n z q d i))) := Lib.hid (fun hp => by
                obtain ⟨gu, h1, h2, h3, h4⟩ := hcu hp
                exact ⟨gu, h1, by omega, h3, fun i hi => (h4 i hi).1⟩)
              have HGR : Hid (w2.grownBy w2 (some G)) := Lib.hid ⟨rfl, rfl, rfl, Nat.le_refl _, fun _ _ _ => rfl⟩
              have hG2 : Hid (w.heap.size ≤ w2.heap.size) := Lib.hid BB2.out.size
              clear O2 b2 hcu gb HR1 HO1 BB1 HDD hen
              go_wp2
              go_loopw [59] (fun t wr3 => ∃ i : Nat, i ≤ p ∧ t = .int .i64 i ∧ OF wr3 G (.slice (some ⟨G, 0, none⟩) p p) p (fun j => if j < i then S' j else S j) ∧ w2.grownBy wr3 (some G)) (fun t _ => p - (intOf t).toNat)
              case atStart => exact ⟨0, by omega, rfl, HO2.out, HGR.out⟩
              case round =>
                obtain ⟨i, hi, rfl, qO, qg⟩ := hrel
                clear HO2 HGR
                by_cases hip : i < p
                · obtain ⟨gu, rfl, g1, g2, g3⟩ := HCU.out (by omega)
                  have c0 := qg.cell (g3 i hip) (by simp; omega)
                  obtain ⟨s1, s2⟩ := qO.at i hip
                  rw [if_neg (Nat.lt_irrefl i)] at s1
                  have hc := HCB.out d i
                  have heq := HEQ.out i
                  have h1 := HB1.out i
                  have h2 := HB2.out i
                  obtain ⟨y, hy⟩ : ∃ y, coL n z q d i = y := ⟨_, rfl⟩
                  rw [hy] at c0 hc heq
                  have hw := wt_bd e2 e3 hc.1 hc.2
                  obtain ⟨P, hP⟩ : ∃ P, c1 * y = P := ⟨_, rfl⟩
                  rw [hP] at hw heq
                  obtain ⟨X, hX⟩ : ∃ X, S i = X := ⟨_, rfl⟩
                  rw [hX] at s1 heq h1
                  obtain ⟨T, hT⟩ : ∃ T, X + P = T := ⟨_, rfl⟩
                  rw [hT] at heq
                  have u1 : IntKind.i64.wrap (c1 * y) = P := by rw [hP]; exact IntWalk.i64_in _ (by omega)
                  have u2 : IntKind.i64.wrap (X + P) = T := by rw [hT]; exact IntWalk.i64_in _ (by omega)
                  have i0 : (0 : Int) ≤ (i : Int) := by omega
                  have i1 : (i : Int) < (p : Int) := by omega
                  have nO : Hid (OF (wr.setCell ⟨G, i, none⟩ (.int .i64 T)) G (.slice (some ⟨G, 0, none⟩) p p) p (fun j => if j < i + 1 then S' j else S j)) :=
                    Lib.hid (qO.set i T hip (fun j hj => by
                      by_cases e : j = i
                      · subst e; rw [if_pos (by omega), if_pos rfl]; exact heq
                      · rw [if_neg e]
                        by_cases e' : j < i
                        · rw [if_pos (by omega), if_pos e']
                        · rw [if_neg (by omega), if_neg e']))
                  have ng : Hid (w2.grownBy (wr.setCell ⟨G, i, none⟩ (.int .i64 T)) (some G)) := Lib.hid (qg.trans ⟨rfl, rfl, rfl, by simp, fun k hk hne => Below.heap_setCell _ _ _ _ (fun e => hne (by rw [e]))⟩)
                  clear qO qg heq h1 h2 hc hw hP hX hT hy g1 g2 g3 e2 e3
                  go_wp2
                  go_roundw
                  case rel => exact ⟨i + 1, by omega, by go_num, nO.out, ng.out⟩
                  case measure => simp [intOf]; omega
                · obtain rfl : i = p := by omega
                  have OE := qO.congr (g := S') (fun j hj => by rw [if_pos hj])
                  have bE := BB2.out.grown qg hG2.out (fun j hj => by cases hj; omega)
                  have rE := HR2.out.kept qg (by simp; omega) (by simp [HQ.out.2.2])
                  clear qO qg
                  go_wp2
                  go_roundw
                  case rel => exact ⟨_, cnt1, rE, HFIN.out _ _ HS'.out OE, bE⟩
                  case measure => rw [rE.left_eq, HCN.out]; exact hlt1
theorem iRakeG (v : Value) (n : Nat) (z : Nat → Int) (q : ByteArray) (dv : Value) (m : Nat) (g : Nat → Int) (c : Int) (w : World) (h : IntsC w v n z) (hn : n ≤ 1048576) (hq : q.size ≤ 1048576) (hd : IntsC w dv m g) (hm : m ≤ 1048576) :
    Calls Try.prog 35 #[v, .string q, dv, .int .i64 c] w fun e w' => e = .returned (.tuple #[.string (rkAns n z q m g c).1, .bool (rkAns n z q m g c).2]) ∧ Below w.heap.size w w' := iRake_any v dv n m z g q c w h hd hn hq hm
theorem sRakeG (v : Value) (n : Nat) (z : Nat → Int) (q : ByteArray) (dv : Value) (m : Nat) (g : Nat → Int) (c : Int) (w : World) (h : IntsR w v n z) (hn : n ≤ 1048576) (hq : q.size ≤ 1048576) (hd : IntsR w dv m g) (hm : m ≤ 1048576) :
    Calls Try.prog 40 #[v, .string q, dv, .int .i64 c] w fun e w' => e = .returned (.tuple #[.string (rkAns n z q m g c).1, .bool (rkAns n z q m g c).2]) ∧ Below w.heap.size w w' := sRake_any v dv n m z g q c w h hd hn hq hm
end Go.Proofs.Ythfcfnamaedffaa
