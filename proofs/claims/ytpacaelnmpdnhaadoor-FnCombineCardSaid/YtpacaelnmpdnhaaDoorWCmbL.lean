/- The walk of the law FnCombine. -/
import Derived.Test.YtpacaelnmpdnhaaDoorCmbI
import Derived.Test.YtpacaelnmpdnhaaDoorCmbMath
import Derived.Test.YtpacaelnmpdnhaaDoorDrawCop
namespace Go.Proofs.YtpacaelnmpdnhaaDoor
open Go.RowKit
set_option linter.unusedVariables false
set_option maxRecDepth 100000
theorem SF.snocC {w : World} {B : Nat} {v : Value} {i : Nat} {f : Nat → ByteArray} {y : ByteArray} (h : SF w B v (i + 1) (fun j => if j < i then f j else y)) (hy : f i = y) : SF w B v (i + 1) f :=
  h.congr fun j hj => by
    by_cases e : j < i
    · simp only [if_pos e]
    · obtain rfl : j = i := by omega
      simp only [if_neg e]; exact hy.symm
theorem SF.one (w : World) (a : ByteArray) : SF (w.alloc (.cells #[.string a] 9)) w.heap.size (.slice (some ⟨w.heap.size, 0, none⟩) 1 1) 1 (fun _ => a) := by
  refine ⟨by simp, .inr ⟨w.heap.size, 1, #[.string a], rfl, Nat.le_refl _, ?_, Nat.le_refl _, by unfold maxLen; omega, by simp, ?_⟩⟩
  · show (w.heap.push _)[w.heap.size]? = _
    simp
  · simp
theorem SF.belowC {w w' : World} {B C : Nat} {v : Value} {n : Nat} {f : Nat → ByteArray} (h : SF w B v n f) (hC : ∀ k, v.ownBlock = some k → k < C) (hb : Below C w w') : SF w' B v n f := by
  obtain ⟨h1, ⟨rfl, rfl⟩ | ⟨g, cap, cur, rfl, hB, hg, hn, hm, hs, ht⟩⟩ := h
  · exact ⟨h1, .inl ⟨rfl, rfl⟩⟩
  · exact ⟨h1, .inr ⟨g, cap, cur, rfl, hB, (hb.block g (hC g rfl)).trans hg, hn, hm, hs, ht⟩⟩
theorem SF.full {w : World} {B : Nat} {v : Value} {n : Nat} {f : Nat → ByteArray} (h : SF w B v n f) (h0 : 0 < n) : ∃ g cap, v = .slice (some ⟨g, 0, none⟩) n cap ∧ B ≤ g ∧ g < w.heap.size ∧ n ≤ cap := by
  obtain ⟨h1, ⟨rfl, rfl⟩ | ⟨g, cap, cur, rfl, hB, hg, hn, hm, hs, ht⟩⟩ := h
  · omega
  · exact ⟨g, cap, rfl, hB, (Array.getElem?_eq_some_iff.1 hg).1, hn⟩
set_option maxHeartbeats 1600000 in
theorem fnCombine_walk (a0 : Option Addr) (len0 cap0 : Nat) (z0 : List Int) (w : World) (w0 : IsBytes w a0 len0 cap0 z0) (hd : DoorAt w) :
    Calls Tryd.prog 7 #[.slice a0 len0 cap0] w fun e w' => e = .returned (.bool true) ∧ Below w.heap.size w w' := by
  by_cases hl : 1048576 < len0
  · go_enter Tryd.func7, Tryd.ntmps7
    go_wp2
    go_ret
    exact ⟨rfl, Below.refl _ _⟩
  have HD := Lib.hid (fun w1 (b1 : Below w.heap.size w w1) => hd.below b1 hd.lt)
  clear hd
  go_enter Tryd.func7, Tryd.ntmps7
  go_wp2_with fail
  refine (drawCop_any a0 len0 cap0 z0 _ w0).mono ?_
  rintro e W1 ⟨v, n, f, rfl, O1, hn, hf, b1⟩
  clear w0
  have HI := Lib.hid (fun w (hO : SF w W1.heap.size v n f) hd => iCmb_any v W1.heap.size n f w hO (by omega) (fun i hi => by have := hf i hi; omega) hd)
  have HIb := Lib.hid (fun w B (hO : SF w B v n f) hd => iCmb_any v B n f w hO (by omega) (fun i hi => by have := hf i hi; omega) hd)
  have HS := Lib.hid (fun w (hO : Strs w v n f) => sCmb_any v n f w hO (by omega) (fun i hi => by have := hf i hi; omega))
  clear HI
  by_cases hp : CmbP f n
  · have hA := cmb_yes hp
    have hn1 := hp.1.1.1
    have hls := cmbS_size f n
    have hl0 := hf 0 (by omega)
    have HCI := Lib.hid (fun w v B m r (hO : SF w B v m r) (hm : m ≤ 5) (hr : ∀ i, i < m → (r i).size ≤ 100) hd => iCmb_any v B m r w hO (by omega) (fun i hi => by have := hr i hi; omega) hd)
    have HLO := Lib.hid (fun k (hk : k < n) => cmb_lost hp hk)
    have HLF := Lib.hid (fun k (hk : k < n) w hd => iLost_any (f k) w (by have := hf k hk; omega) hd)
    have HLS := Lib.hid (fun w hd => iLost_any (cmbS f n) w (by omega) hd)
    have HSZ : Hid (∀ k, k < n → (f k).size = (cmbS f n).size) := Lib.hid (fun k hk => by rw [hls]; exact (hp.1.2 k hk).2)
    have HAG : Hid (∀ k, k < n → ∀ i, i < (cmbS f n).size → zb (f k) i = 63 ∨ zb (f k) i = zb (cmbS f n) i) := Lib.hid (fun k hk i hi => by
      rw [hls] at hi; rw [zb_cmbS hi]; exact cmb_agree hp hi hk)
    have HT := Lib.hid (fun (r : Nat → ByteArray) (hr : ∀ j, j < n → r j = f (n - 1 - j)) => cmb_turned hp hr)
    have HG := Lib.hid (fun (r : Nat → ByteArray) (h0 : r 0 = cmbS f n) (h1 : r 1 = f 0) => cmb_again hp h0 h1)
    obtain ⟨S, hS⟩ : ∃ S, cmbS f n = S := ⟨_, rfl⟩
    rw [hS] at hA hls HLO HLS HSZ HAG HT HG
    rw [hA] at HIb HS
    have HF := Lib.hid hf
    clear hp hA hS hf
    go_wp2_with fail
    refine (HIb.out _ _ O1 (HD.out _ b1)).mono ?_
    rintro e w2 ⟨rfl, hb⟩
    have b2 := below_then b1 (Nat.le_refl _) hb
    have O2 := O1.below hb
    clear b1 O1 hb
    go_wp2_with fail
    refine (HS.out _ O2.strs).mono ?_
    rintro e w3 ⟨rfl, hb⟩
    have b3 := below_then b2 (Nat.le_refl _) hb
    have O3 := O2.below hb
    clear b2 O2 hb HS
    have hO3 : ∀ q, v.ownBlock = some q → q < w3.heap.size := fun q hq => (O3.lt q hq).2
    have b4 := b3.alloc b3.size (.cells #[] 9)
    have O4 := O3.alloc (.cells #[] 9)
    have T4 := SF.empty w3 (fun j => f (n - 1 - j))
    have s4 : w3.heap.size ≤ (w3.alloc (.cells #[] 9)).heap.size := by simp
    have hws := b3.size
    obtain ⟨C, hC⟩ : ∃ C, w3.heap.size = C := ⟨_, rfl⟩
    rw [hC] at hO3 T4 s4 hws
    obtain ⟨g, capv, rfl, -, hgl, hcap⟩ := O3.full (by omega)
    have hgC : g < C := hO3 g rfl
    have HO3 := Lib.hid hO3
    have hsl : ∀ w1, (Instr.sliceAt 24 (.slice (some ⟨g, 0, none⟩) n capv) none (some (.int .i64 1)) none).run Tryd.prog w1 = .ok (.slice (some ⟨g, 0, none⟩) 1 capv) w1 := headT_run (some ⟨g, 0, none⟩) n capv 1 hn1 hcap
    have HC1 := Lib.hid hC
    clear b3 O3 hC hO3
    have v0 : (n : Int) - 1 = ((n - 1 : Nat) : Int) := by omega
    go_wp2
    go_loopw [8, 9] (fun o t wr => ∃ (p : Nat) (q : Int), p ≤ n ∧ t = .int .i64 q ∧ Hid (q = (n : Int) - 1 - (p : Int)) ∧ SF wr w.heap.size (.slice (some ⟨g, 0, none⟩) n capv) n f ∧ SF wr C o p (fun j => f (n - 1 - j)) ∧ Below w.heap.size w wr ∧ C ≤ wr.heap.size) (fun _ t _ => (intOf t + 1).toNat)
    case atStart => exact ⟨0, _, Nat.zero_le _, rfl, Lib.hid (by omega), O4, (by rw [HC1.out]; exact T4), b4, s4⟩
    case round =>
      clear O4 T4 b4 s4
      obtain ⟨p, q, hp, rfl, HQ, rO, rT, rb, rs⟩ := hrel
      by_cases hlt : p < n
      · obtain ⟨k, hk⟩ : ∃ k, k = n - 1 - p := ⟨_, rfl⟩
        obtain rfl : q = (k : Int) := by have := HQ.out; omega
        have hkn : k < n := by omega
        have HK := Lib.hid hk
        have hkl : (k : Int) < (n : Int) := by omega
        have i0 : (0 : Int) ≤ (k : Int) := by omega
        have d0 := (rO.at k hkn).1
        have hlf := HLF.out k hkn
        have hle : ¬ lostA (f k) < lostA S := by have := HLO.out k hkn; omega
        have hys := HSZ.out k hkn
        have hag := HAG.out k hkn
        have hyf : (fun j => f (n - 1 - j)) p = f k := by show f (n - 1 - p) = f k; rw [HK.out]
        obtain ⟨y, hy⟩ : ∃ y, f k = y := ⟨_, rfl⟩
        rw [hy] at d0 hlf hle hys hag hyf
        obtain ⟨L, hL⟩ : ∃ L, lostA S = L := ⟨_, rfl⟩
        obtain ⟨Lk, hLk⟩ : ∃ L, lostA y = L := ⟨_, rfl⟩
        have HLS2 := HLS
        simp only [hL] at HLS2
        rw [hLk] at hle
        simp only [hLk] at hlf
        rw [hL] at hle
        have HLKK := Lib.hid hlf
        have HYF := Lib.hid hyf
        have HYK := Lib.hid hy
        have HAG2 := Lib.hid hag
        clear hlf hyf hag hy hL hLk hk
        go_wp2_with (at_builtin; refine wpList_append_str rfl (.tmp 58) (.tmp 63) rfl C _ p (fun j => f (n - 1 - j)) rfl (rT.alloc _) wr.heap.size 1 y rfl (by simp) (by omega) (by simp; omega) ?_; intro v' w3 T3 g3; have b3 : Below w.heap.size w w3 := (rb.alloc rb.size _).grown g3 (by simp; have := rb.size; omega) (fun q hq => Nat.le_trans hws (rT.lt q hq).1); have bC : Below C wr w3 := ((Below.refl C wr).alloc rs _).grown g3 (by simp; omega) (fun q hq => (rT.lt q hq).1); have O3 := rO.belowC HO3.out bC; have d3 := (bC.cell (p := ⟨g, k, none⟩) hgC).trans d0; have T4 := SF.snocC T3 HYF.out; have s3 : C ≤ w3.heap.size := Nat.le_trans rs bC.size; clear T3 g3 rb bC rO rT rs d0)
        have hg3 : g < w3.heap.size := Nat.lt_of_lt_of_le hgC s3
        have e0 : w3.drew.cell? ⟨g, k, none⟩ = some (.string y) := d3
        clear d3
        go_region_held3 (fun wx => wx.cell? ⟨g, k, none⟩ = some (.string y)) (first | exact n0 | exact m0 | exact e0) (first
          | (go_at_call 11; refine (HLS2.out _ (HD.out _ b3.drew)).mono ?_; rintro e w5 ⟨rfl, hB5⟩; have b5 := below_then b3.drew (Nat.le_refl _) hB5; have m0 := (hB5.cell (p := ⟨g, k, none⟩) hg3).trans e0)
          | (go_at_call 11; refine (HLKK.out _ (HD.out _ b5)).mono ?_; rintro e w6 ⟨rfl, hB6⟩; have b6 := below_then b5 (Nat.le_refl _) hB6; have n0 := (hB6.cell (p := ⟨g, k, none⟩) (Nat.lt_of_lt_of_le hg3 hB5.size)).trans m0))
        have c6 : Below w3.heap.size w3 w6 := below_then ((Below.refl _ w3).drew.trans hB5) (Nat.le_refl _) hB6
        have O6 := O3.below c6
        have T6 := T4.below c6
        have s6 : C ≤ w6.heap.size := Nat.le_trans s3 c6.size
        clear O3 T4 b3 b5 hB5 hB6 c6 s3 e0 m0 n0 hg3
        go_wp2
        go_loopw [10] (fun t wr => ∃ i : Nat, i ≤ S.size ∧ t = .int .i64 i ∧ SF wr w.heap.size (.slice (some ⟨g, 0, none⟩) n capv) n f ∧ SF wr C v' (p + 1) (fun j => f (n - 1 - j)) ∧ Below w.heap.size w wr ∧ C ≤ wr.heap.size) (fun t _ => S.size - (intOf t).toNat)
        case atStart => exact ⟨0, Nat.zero_le _, rfl, O6, T6, b6, s6⟩
        case round =>
          clear O6 T6 b6 s6
          obtain ⟨i, hi, rfl, rO, rT, rb, rs⟩ := hrel
          by_cases hli : i < S.size
          · have d1 := (rO.at k hkn).1
            have hyk : f k = y := HYK.out
            rw [hyk] at d1
            have j0 : (0 : Int) ≤ (i : Int) := by omega
            have j1 : (i : Int) < (S.size : Int) := by omega
            have j2 : (i : Int) < (y.size : Int) := by omega
            have hiy : i < y.size := by omega
            have h1 := zb_at S i hli
            have h2 := zb_at y i hiy
            have ha := HAG2.out i hli
            obtain ⟨V, hV⟩ : ∃ V, zb S i = V := ⟨_, rfl⟩
            obtain ⟨B, hB⟩ : ∃ B, zb y i = B := ⟨_, rfl⟩
            rw [hV] at h1
            rw [hB] at h2
            rw [hV, hB] at ha
            clear hV hB hyk
            by_cases e : B = 63
            · subst e
              have n1 : (((63 : Nat) : Int) != 63) = false := by decide
              clear ha
              go_wp2_with fail
              go_quiet (fail)
              have b2 := below_drewN rb nq
              have O2 := rO.drewN nq
              have T2 := rT.drewN nq
              have s2 : C ≤ (wr.drewN nq).heap.size := rs
              obtain ⟨W, hW⟩ : ∃ W, wr.drewN nq = W := ⟨_, rfl⟩
              rw [hW] at b2 O2 T2 s2 ⊢
              clear hW rb rO rT rs d1
              go_wp2
              go_roundw
              case rel => exact ⟨i + 1, by omega, by go_num, O2, T2, b2, s2⟩
              case measure => simp [intOf]; omega
            · obtain rfl : B = V := by omega
              have n1 : ((B : Int) != 63) = true := by rw [bne_iff_ne]; omega
              have n2 : ((B : Int) != (B : Int)) = false := by rw [bne_eq_false_iff_eq]
              clear ha e
              go_wp2_with fail
              go_quiet (fail)
              have b2 := below_drewN rb nq
              have O2 := rO.drewN nq
              have T2 := rT.drewN nq
              have s2 : C ≤ (wr.drewN nq).heap.size := rs
              obtain ⟨W, hW⟩ : ∃ W, wr.drewN nq = W := ⟨_, rfl⟩
              rw [hW] at b2 O2 T2 s2 ⊢
              clear hW rb rO rT rs d1
              go_wp2
              go_roundw
              case rel => exact ⟨i + 1, by omega, by go_num, O2, T2, b2, s2⟩
              case measure => simp [intOf]; omega
          · have j1 : ¬ (i : Int) < (S.size : Int) := by omega
            go_wp2
            go_roundw
            case rel => exact ⟨p + 1, (k : Int) - 1, by omega, by first | rfl | go_num, Lib.hid (by have := HK.out; omega), rO, rT, rb, rs⟩
            case measure => simp [intOf]
      · obtain rfl : p = n := by omega
        obtain rfl : q = -1 := by have := HQ.out; omega
        have hct := HCI.out wr _ C p (fun j => f (p - 1 - j)) rT (by omega) (fun i hi => HF.out _ (by omega)) (HD.out _ rb)
        rw [HT.out (fun j => f (p - 1 - j)) (fun j hj => rfl)] at hct
        have HCT := Lib.hid hct
        obtain ⟨ta, tc, rfl, -⟩ := rT.form
        have rG := rO.belowC HO3.out (Below.refl C wr)
        clear hct rT
        go_wp2_with fail
        refine HCT.out.mono ?_
        rintro e w4 ⟨rfl, hb4⟩
        have b4 := below_then rb (Nat.le_refl _) hb4
        have O4 := rO.below hb4
        have s4 : C ≤ w4.heap.size := Nat.le_trans rs hb4.size
        clear rO rb hb4 rG HCT
        have d4 := (O4.at 0 (by omega)).1
        obtain ⟨y, hy⟩ : ∃ y, f 0 = y := ⟨_, rfl⟩
        rw [hy] at d4
        have HY := Lib.hid hy
        have N5 := SF.one w4 S
        have hws4 := b4.size
        have d5 : (w4.alloc (.cells #[.string S] 9)).cell? ⟨g, 0, none⟩ = some (.string y) := (World.cell?_alloc_lt _ _ ⟨g, 0, none⟩ (by show g < w4.heap.size; omega)).trans d4
        clear hy
        go_wp2_with (at_builtin; refine wpList_append_str rfl (.tmp 105) (.tmp 107) rfl w4.heap.size _ 1 (fun _ => S) rfl N5 g capv y rfl d5 (by omega) (by simp) ?_; intro v' w5 T5 g5; have b5 : Below w.heap.size w w5 := (b4.alloc hws4 _).grown g5 (by simp; omega) (fun q hq => Nat.le_trans hws4 (N5.lt q hq).1))
        have hss : S.size ≤ 100 := by omega
        have hys : y.size ≤ 100 := by rw [← HY.out]; exact hl0
        have hca := HCI.out w5 _ w4.heap.size 2 _ T5 (by omega) (fun i _ => by show (if i < 1 then S else y).size ≤ 100; split <;> omega) (HD.out _ b5)
        rw [HG.out (fun j => if j < 1 then S else y) rfl (by show y = f 0; rw [HY.out])] at hca
        have HCA := Lib.hid hca
        clear hca T5
        refine HCA.out.mono ?_
        rintro e w6 ⟨rfl, hb6⟩
        have b6 := below_then b5 (Nat.le_refl _) hb6
        go_wp2
        go_ret
        exact ⟨rfl, b6⟩
  · have hA := cmb_no hp
    rw [hA] at HIb HS
    clear hp hA hf
    go_wp2_with fail
    refine (HIb.out _ _ O1 (HD.out _ b1)).mono ?_
    rintro e w2 ⟨rfl, hb⟩
    have b2 := below_then b1 (Nat.le_refl _) hb
    have O2 := O1.below hb
    clear b1 O1 hb
    go_wp2_with fail
    refine (HS.out _ O2.strs).mono ?_
    rintro e w3 ⟨rfl, hb⟩
    have b3 := below_then b2 (Nat.le_refl _) hb
    go_wp2
    go_ret
    exact ⟨rfl, b3⟩
end Go.Proofs.YtpacaelnmpdnhaaDoor
