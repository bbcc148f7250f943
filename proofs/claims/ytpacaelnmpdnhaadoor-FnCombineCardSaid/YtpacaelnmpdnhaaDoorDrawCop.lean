/- The draws of CombineCopies and LostBits. -/
import Derived.Test.YtpacaelnmpdnhaaDoorDrawHop
import Derived.Test.YtpacaelnmpdnhaaDoorDrawFrm
import Derived.Test.YtpacaelnmpdnhaaDoorDrawBits
import Derived.Test.YtpacaelnmpdnhaaDoorHop11
import Derived.Test.YtpacaelnmpdnhaaDoorTailS
namespace Go.Proofs.YtpacaelnmpdnhaaDoor
open Go.RowKit
set_option linter.unusedVariables false
set_option maxRecDepth 100000
/-- Strings were drawn. -/
def DrawStrs (w : World) (e : Ending) (w' : World) : Prop := ∃ (v : Value) (n : Nat) (f : Nat → ByteArray), e = .returned v ∧ SF w' w.heap.size v n f ∧ n ≤ 5 ∧ (∀ j, j < n → (f j).size ≤ 100) ∧ Below w.heap.size w w'
theorem sndV_size (z : ByteArray) (n : Nat) (h : Nat → Int) (m : Nat) (j : Nat → Int) : (sndV z n h m j).size ≤ z.size := by
  unfold sndV
  split
  · unfold cpS; rw [strF_size]; exact Nat.le_refl _
  · exact Nat.zero_le _
theorem own_neS {w : World} {B b : Nat} {v : Value} {n : Nat} {f : Nat → ByteArray} (h : SF w B v n f) (hb : b < B) : v.ownBlock = none ∨ v.ownBlock ≠ some b := by
  rcases hq : v.ownBlock with _ | q
  · exact .inl rfl
  · have := (h.lt q hq).1
    exact .inr (fun e => by injection e with e; omega)
theorem two_ints (w : World) (t : TypeId) (x y : Int) : IntsR (w.alloc (.cells #[.int .i64 x, .int .i64 y] t)) (.slice (some ⟨w.heap.size, 0, none⟩) 2 2) 2 (fun i => if i = 0 then x else y) := by
  refine ⟨_, 2, rfl, fun i hi => ⟨_, rfl, by simp, ?_⟩⟩
  have : i = 0 ∨ i = 1 := by omega
  rcases this with rfl | rfl
  · rw [show (⟨w.heap.size, 0, none⟩ : Addr).add 0 = ⟨w.heap.size, 0, none⟩ from rfl]; simp
  · rw [show (⟨w.heap.size, 0, none⟩ : Addr).add 1 = ⟨w.heap.size, 1, none⟩ from rfl]; simp
set_option maxHeartbeats 1600000 in
theorem drawCop_any (a : Option Addr) (len cap : Nat) (zs : List Int) (w : World) (h : IsBytes w a len cap zs) :
    Calls Tryd.prog 25 #[.slice a len cap] w (DrawStrs w) := by
  go_enter Tryd.func25, Tryd.ntmps25
  go_wp2_with fail
  refine (open_any a len cap zs _ h).mono ?_
  rintro e w1 ⟨b, ys, rfl, hr, hb, hlb⟩
  have hb1 := hr.1
  have hs1 : w.heap.size ≤ w1.heap.size := hb.size
  obtain ⟨C, hC⟩ : ∃ C, w1.heap.size = C := ⟨_, rfl⟩
  rw [hC] at hb1 hs1
  go_wp2_with fail
  refine (l1String_bits b 0 12 ys _ hr (by omega) (by omega)).mono ?_
  rintro e w2 ⟨z, q, rfl, ho, hz, hq, hr2, hg2⟩
  have b2 := below_grown hb (Nat.le_refl _) hg2 hlb
  have hs2 : C ≤ w2.heap.size := by rw [← hC]; exact hg2.size
  have b3 := b2.alloc b2.size (.cells #[] 9)
  have O3 := (SF.empty w2 (fun _ => z)).mono hs2
  have hr3 := hr2.alloc (.cells #[] 9)
  have hs3 : C ≤ (w2.alloc (.cells #[] 9)).heap.size := by simp; omega
  clear hr hb hg2 hr2 b2 hC h ho
  go_wp2_with fail
  refine (pick_any b q 4 ys _ hr3 (by omega) (by omega) (by omega)).mono ?_
  rintro e w4 ⟨k, hk, rfl, hr4, hg4⟩
  have b4 := below_grown b3 (Nat.le_refl _) hg4 hlb
  have O4 := O3.kept hg4 (own_neS O3 hb1)
  have hs4 : C ≤ w4.heap.size := Nat.le_trans hs3 hg4.size
  clear b3 O3 hr3 hg4 hs3 hs2
  obtain ⟨K, hK⟩ : ∃ K, 1 + k = K := ⟨_, rfl⟩
  have v1 : (1 : Int) + (k : Int) = (K : Int) := by omega
  go_wp2
  go_loopw [5, 6] (fun o t wr => ∃ (j p q : Nat) (f : Nat → ByteArray), t = .int .i64 j ∧ p + j ≤ 4 ∧ q + 100 * j ≤ 1000 ∧ SF wr C o p f ∧ Hid (∀ i, i < p → (f i).size ≤ 100) ∧ RdAt wr b q ys ∧ Below w.heap.size w wr ∧ C ≤ wr.heap.size) (fun _ t _ => (intOf t).toNat)
  case atStart => exact ⟨K, 0, _, _, rfl, by omega, by omega, O4, Lib.hid (fun i hi => absurd hi (Nat.not_lt_zero i)), hr4, b4, hs4⟩
  case round =>
    clear b4 O4 hr4 hs4 v1
    obtain ⟨j, p, q5, f, rfl, hpj, hq5, rO, HF, rR, rb, rs⟩ := hrel
    by_cases h0 : 0 < j
    · have j0 : (0 : Int) < (j : Int) := by omega
      go_wp2_with fail
      refine (l7Some_any b q5 ys _ rR (by omega)).mono ?_
      rintro e w5 ⟨v, n, g, c, q6, rfl, O5, hn1, hn, hc1, hc2, hg, hq6, hr5, hg5⟩
      have b5 := below_grown rb (Nat.le_refl _) hg5 hlb
      have S5 := rO.kept hg5 (own_neS rO hb1)
      have s5 : C ≤ w5.heap.size := Nat.le_trans rs hg5.size
      have hbw := rR.1
      have I5 : ∃ B5, b < B5 ∧ OF w5 B5 v n g := ⟨_, hbw, O5⟩
      obtain ⟨B5, hB5, O5'⟩ := I5
      clear rR rb rO rs hg5 hg hn1 O5 hbw
      go_wp2_with fail
      refine (pick_any b q6 c ys _ hr5 (by omega) hc1 (by omega)).mono ?_
      rintro e w6 ⟨k1, hk1, rfl, hr6, hg6⟩
      go_wp2_with fail
      refine (pick_any b (q6 + 1) c ys _ hr6 (by omega) hc1 (by omega)).mono ?_
      rintro e w7 ⟨k2, hk2, rfl, hr7, hg7⟩
      have hg67 := hg6.trans hg7
      have b7 := below_grown b5 (Nat.le_refl _) hg67 hlb
      have S7 := S5.kept hg67 (own_neS S5 hb1)
      have s7 : C ≤ w7.heap.size := Nat.le_trans s5 hg67.size
      have O7 := O5'.kept hg67 (by
        rcases hq : v.ownBlock with _ | q
        · exact .inl rfl
        · have := (O5'.lt q hq).1
          exact .inr (fun e => by injection e with e; omega))
      clear hr5 b5 S5 s5 O5' hg6 hg7 hg67 hr6
      have b8 := b7.alloc b7.size (.cells #[.int .i64 k1, .int .i64 k2] 3)
      have S8 := S7.alloc (.cells #[.int .i64 k1, .int .i64 k2] 3)
      have O8 := (O7.below ((Below.refl _ _).alloc (Nat.le_refl _) (.cells #[.int .i64 k1, .int .i64 k2] 3))).ints
      have I8 := two_ints w7 3 k1 k2
      have r8 := hr7.alloc (.cells #[.int .i64 k1, .int .i64 k2] 3)
      have s8 : C ≤ (w7.alloc (.cells #[.int .i64 k1, .int .i64 k2] 3)).heap.size := by simp; omega
      have HSH := Lib.hid (fun w hv hu => sSH_any z v n g (.slice (some ⟨w7.heap.size, 0, none⟩) 2 2) 2 (fun i => if i = 0 then (k1 : Int) else (k2 : Int)) w (by omega) hv (by omega) hu (by omega))
      have hsz := sndV_size z n g 2 (fun i => if i = 0 then (k1 : Int) else (k2 : Int))
      obtain ⟨y, hy⟩ : ∃ y, sndV z n g 2 (fun i => if i = 0 then (k1 : Int) else (k2 : Int)) = y := ⟨_, rfl⟩
      obtain ⟨ok, hok⟩ : ∃ y, sndB z n g 2 (fun i => if i = 0 then (k1 : Int) else (k2 : Int)) = y := ⟨_, rfl⟩
      simp only [hy, hok] at HSH hsz
      clear b7 S7 O7 hr7 s7 hy hok
      go_wp2_with fail
      refine (HSH.out _ O8 I8).mono ?_
      rintro e w9 ⟨rfl, hb9⟩
      have b9 := below_then b8 (Nat.le_refl _) hb9
      have S9 := S8.below hb9
      have r9 := r8.below hb9
      have s9 : C ≤ w9.heap.size := Nat.le_trans s8 hb9.size
      clear b8 S8 O8 I8 r8 s8 hb9 HSH
      go_wp2_with (at_builtin; refine wpList_append_str rfl (.tmp 41) (.tmp 43) rfl C _ p f rfl (S9.alloc _) w9.heap.size 1 y rfl (by simp) (by omega) (by simp; omega) ?_; intro v' wA OA gA; have bA : Below w.heap.size w wA := (b9.alloc b9.size _).grown gA (by simp; have := b9.size; omega) (fun q hq => Nat.le_trans hs1 (S9.lt q hq).1); have rA := (r9.alloc (.cells #[.string y] 9)).kept gA (fun k e => by have := (S9.lt k e).1; omega); have sA : C ≤ wA.heap.size := Nat.le_trans (by simp; omega) gA.size; clear S9 gA b9 r9)
      have HFA : Hid (∀ i, i < p + 1 → (if i < p then f i else y).size ≤ 100) := Lib.hid (fun i hi => by
        split
        · rename_i h; exact HF.out i h
        · omega)
      go_roundw
      case rel => exact ⟨j - 1, p + 1, _, _, by rw [show ((j - 1 : Nat) : Int) = (j : Int) - 1 by omega], by omega, by omega, OA, HFA, rA, bA, sA⟩
      case measure => simp [intOf]; omega
    · have j0 : ¬ (0 : Int) < (j : Int) := by omega
      go_wp2_with fail
      refine (pick_any b q5 12 ys _ rR (by omega) (by omega) (by omega)).mono ?_
      rintro e w5 ⟨k5, hk5, rfl, hr5, hg5⟩
      have b5 := below_grown rb (Nat.le_refl _) hg5 hlb
      have S5 := rO.kept hg5 (own_neS rO hb1)
      have s5 : C ≤ w5.heap.size := Nat.le_trans rs hg5.size
      clear rR rb rO rs hg5 j0 h0
      by_cases c0 : k5 = 0
      · subst c0
        obtain ⟨oa, oc, rfl, _⟩ := S5.form
        obtain ⟨u, hu, O6⟩ := S5.head 0 (Nat.zero_le _)
        have hu2 : ∀ w1, (Instr.sliceAt 24 (.slice oa p oc) none (some (.int .i64 0)) none).run Tryd.prog w1 = .ok u w1 := hu
        clear hu
        go_wp2
        go_ret
        exact ⟨u, 0, f, rfl, O6.mono hs1, by omega, fun i hi => absurd hi (Nat.not_lt_zero i), b5⟩
      · have t0 : ((k5 : Int) == 0) = false := by rw [beq_eq_false_iff_ne]; omega
        by_cases c1 : k5 = 1
        · subst c1
          clear c0
          go_wp2_with fail
          refine (l1String_bits b (q5 + 1) 12 ys _ hr5 (by omega) (by omega)).mono ?_
          rintro e w6 ⟨y, q6, rfl, hoy, hy, hq6, hr6, hg6⟩
          have b6 := below_grown b5 (Nat.le_refl _) hg6 hlb
          have S6 := S5.kept hg6 (own_neS S5 hb1)
          have s6 : C ≤ w6.heap.size := Nat.le_trans s5 hg6.size
          clear b5 S5 hg6 hr5 hoy
          go_wp2_with (at_builtin; refine wpList_append_str rfl (.tmp 53) (.tmp 56) rfl C _ p f rfl (S6.alloc _) w6.heap.size 1 y rfl (by simp) (by omega) (by simp; omega) ?_; intro v' wA OA gA; have bA : Below w.heap.size w wA := (b6.alloc b6.size _).grown gA (by simp; have := b6.size; omega) (fun q hq => Nat.le_trans hs1 (S6.lt q hq).1); clear S6 gA b6)
          go_wp2
          go_ret
          exact ⟨_, p + 1, _, rfl, OA.mono hs1, by omega, fun i hi => by
            show (if i < p then f i else y).size ≤ 100
            split
            · rename_i h; exact HF.out i h
            · omega, bA⟩
        · have t1 : ((k5 : Int) == 1) = false := by rw [beq_eq_false_iff_ne]; omega
          by_cases c2 : k5 = 2
          · subst c2
            clear c0 c1
            have hzs : z.size + 1 ≤ 9223372036854775807 := by omega
            have hyx : (z ++ (⟨#[120]⟩ : ByteArray)).size ≤ 100 := by rw [ByteArray.size_append]; show z.size + 1 ≤ 100; omega
            obtain ⟨y, hy⟩ : ∃ y, z ++ (⟨#[120]⟩ : ByteArray) = y := ⟨_, rfl⟩
            rw [hy] at hyx
            go_wp2_with (at_builtin; refine wpList_append_str rfl (.tmp 60) (.tmp 63) rfl C _ p f rfl (S5.alloc _) w5.heap.size 1 y rfl (by simp) (by omega) (by simp; omega) ?_; intro v' wA OA gA; have bA : Below w.heap.size w wA := (b5.alloc b5.size _).grown gA (by simp; have := b5.size; omega) (fun q hq => Nat.le_trans hs1 (S5.lt q hq).1); clear S5 gA b5)
            go_wp2
            go_ret
            exact ⟨_, p + 1, _, rfl, OA.mono hs1, by omega, fun i hi => by
              show (if i < p then f i else y).size ≤ 100
              split
              · rename_i h; exact HF.out i h
              · exact hyx, bA⟩
          · have t2 : ((k5 : Int) == 2) = false := by rw [beq_eq_false_iff_ne]; omega
            clear c0 c1 c2
            go_wp2
            go_ret
            exact ⟨_, p, f, rfl, S5.mono hs1, by omega, HF.out, b5⟩
set_option maxHeartbeats 800000 in
theorem drawLost_any (a : Option Addr) (len cap : Nat) (zs : List Int) (w : World) (h : IsBytes w a len cap zs) :
    Calls Tryd.prog 26 #[.slice a len cap] w (DrawBits w) := by
  go_enter Tryd.func26, Tryd.ntmps26
  go_wp2_with fail
  refine (open_any a len cap zs _ h).mono ?_
  rintro e w1 ⟨b, ys, rfl, hr, hb, hlb⟩
  go_wp2_with fail
  refine (drawCop_any a len cap zs _ (h.below hb)).mono ?_
  rintro e w2 ⟨v, n, f, rfl, O2, hn, hf, hb2⟩
  have b2 := below_then hb (Nat.le_refl _) hb2
  have hr2 := hr.below hb2
  have hb1 := hr.1
  have HF := Lib.hid hf
  obtain ⟨oa, oc, rfl, _⟩ := O2.form
  clear hb hr hb2 h hf
  by_cases n0 : n = 0
  · subst n0
    go_wp2_with fail
    refine (l6Wild_any b 0 ys _ _ hr2 (by omega) (by show 3 ≤ 690; omega)).mono ?_
    rintro e w4 ⟨z, q4, rfl, hz, hq4, hr4, hg4⟩
    have b4 := below_grown b2 (Nat.le_refl _) hg4 hlb
    go_wp2
    go_ret
    exact ⟨z, rfl, hz, b4⟩
  · have e0 : ((n : Int) == 0) = false := by rw [beq_eq_false_iff_ne]; omega
    go_wp2_with fail
    refine (pick_any b 0 n ys _ hr2 (by omega) (by omega) (by omega)).mono ?_
    rintro e w3 ⟨k, hk, rfl, hr3, hg3⟩
    have b3 := below_grown b2 (Nat.le_refl _) hg3 hlb
    have O3 := O2.kept hg3 (own_neS O2 hb1)
    obtain ⟨a', cap', hf1, hf2⟩ := O3.form
    obtain ⟨g, rfl, _, hgl, hcc⟩ := hf2 (by omega)
    injection hf1 with e1 e2 e3
    subst e1 e3
    have d1 := (hcc k hk).1
    have hfk := HF.out k hk
    obtain ⟨y, hy⟩ : ∃ y, f k = y := ⟨_, rfl⟩
    rw [hy] at d1 hfk
    have i0 : (0 : Int) ≤ (k : Int) := by omega
    have i1 : (k : Int) < (n : Int) := by omega
    clear b2 O2 hr2 hg3 hf2 hcc O3 hy n0
    go_wp2_with fail
    refine (l6Wild_any b 1 ys y _ hr3 (by omega) (by omega)).mono ?_
    rintro e w4 ⟨z, q4, rfl, hz, hq4, hr4, hg4⟩
    have b4 := below_grown b3 (Nat.le_refl _) hg4 hlb
    go_wp2
    go_ret
    exact ⟨z, rfl, hz, b4⟩
end Go.Proofs.YtpacaelnmpdnhaaDoor
