/- SpreadBits of the model, and of both sides for every argument. -/
import Derived.Test.YthfcfnamaedffaaSig10
import Derived.Test.YthfcfnamaedffaaSig4
namespace Go.Proofs.Ythfcfnamaedffaa
open Go.RowKit
set_option linter.unusedVariables false
set_option maxRecDepth 100000
theorem chF_inv (q : ByteArray) (h : okB q q.size = true) (k : Nat) (hk : k < q.size) : chF (invS q) k = - chF q k := by
  unfold chF
  rw [zb_invS q k hk]
  rcases okB_zb q h k hk with e | e <;> rw [e] <;> decide
theorem invS_ok (q : ByteArray) (h : okB q q.size = true) : okB (invS q) (invS q).size = true := okB_of_zb _ fun i hi => by
  rw [invS_size] at hi
  rw [zb_invS q i hi]
  rcases okB_zb q h i hi with e | e <;> rw [e] <;> decide
set_option maxHeartbeats 1600000 in
set_option maxRecDepth 100000 in
theorem l4Spread_any (p q : ByteArray) (w : World) (h1 : bitsB p = true) (h2 : seqB q = true) :
    Calls Try.prog 133 #[.string p, .string q] w fun e w' => ∃ u, e = .returned u ∧ OF w' w.heap.size u (p.size * q.size) (spF p q q.size) ∧ Below w.heap.size w w' := by
  obtain ⟨p1, p2⟩ := (bits_iff p).1 h1
  obtain ⟨q0, q1, q2⟩ := (seqB_iff q).1 h2
  have HCQ := Lib.hid (fun w => sChips_yes q w q0 (by omega))
  have HCI := Lib.hid (fun w => sChips_yes (invS q) w (invS_ok q q0) (by rw [invS_size]; omega))
  have HIV := Lib.hid (fun w => l2Invert_any q w h2)
  have HZP := Lib.hid (okB_zb p p1)
  have HZ := Lib.hid (fun i (hi : i < p.size) => zb_at p i hi)
  have HAT := Lib.hid (fun i k hk => spF_at p q q.size i k hk)
  have HCH := Lib.hid (fun i (e : zb p i = 48) => show chF p i = 1 by unfold chF; rw [e]; rfl)
  have HCH1 := Lib.hid (fun i (e : zb p i = 49) => show chF p i = -1 by unfold chF; rw [e]; rfl)
  have HIN := Lib.hid (fun k hk => chF_inv q q0 k hk)
  have HSZ := Lib.hid (invS_size q)
  have HRM := Lib.hid (fun i (hi : i ≤ p.size) => show i * q.size ≤ 153000 from Nat.mul_le_mul (show i ≤ 600 by omega) q2)
  have O0 := Lib.hid (OF.empty0 w (spF p q q.size))
  rw [invS_size] at HCI
  clear h1 h2 p1 q0
  obtain ⟨I2, hI2⟩ : ∃ y, invS q = y := ⟨_, rfl⟩
  rw [hI2] at HCI HIV HIN HSZ
  clear hI2
  obtain ⟨L, hL⟩ : ∃ L, q.size = L := ⟨_, rfl⟩
  rw [hL] at HCQ HCI HAT HIN HSZ HRM O0 q1 q2 ⊢
  clear hL
  go_enter Try.func133, Try.ntmps133
  go_wp2
  go_loopw [5, 6] (fun o t wr => ∃ i : Nat, i ≤ p.size ∧ t = .int .i64 i ∧ OF wr w.heap.size o (i * L) (spF p q L) ∧ Below w.heap.size w wr) (fun _ t _ => p.size - (intOf t).toNat)
  case atStart => exact ⟨0, by omega, rfl, by rw [Nat.zero_mul]; exact O0.out, (Below.refl _ _).alloc (Nat.le_refl _) _⟩
  case round =>
    obtain ⟨i, hi, rfl, rO, rb⟩ := hrel
    by_cases hlt : i < p.size
    · have hat := fun k hk => HAT.out i k hk
      have hnx : (i + 1) * L = i * L + L := by rw [Nat.add_mul, Nat.one_mul]
      have hrm := HRM.out i hi
      obtain ⟨I, hI⟩ : ∃ I, i * L = I := ⟨_, rfl⟩
      rw [hI] at hat hnx rO hrm
      have HATI := Lib.hid hat
      have HNX := Lib.hid hnx
      have HRI := Lib.hid hrm
      have i0 : (0 : Int) ≤ (i : Int) := by omega
      have i1 : (i : Int) < (p.size : Int) := by omega
      clear hI hat hnx hrm
      rcases HZP.out i hlt with hz | hz
      · have ht : (((p[i].toNat : Nat) : Int) == 48) = true := by rw [HZ.out i hlt, hz]; rfl
        have HV : Hid (∀ j, j < I + L → (if j < I then spF p q L j else chF q (j - I)) = spF p q L j) := Lib.hid (fun j hj => by
          by_cases e : j < I
          · rw [if_pos e]
          · rw [if_neg e]
            have e2 := HATI.out (j - I) (by omega)
            rw [show I + (j - I) = j by omega, HCH.out i hz, Int.one_mul] at e2
            exact e2.symm)
        clear hz
        go_wp2_with fail
        refine (HCQ.out _).mono ?_
        rintro e w1 ⟨u, rfl, O1, b1⟩
        have r1 := rO.below b1
        have c1 := below_then rb (Nat.le_refl _) b1
        clear rO rb b1
        go_wp2_with (at_builtin; refine wpList_append_ints rfl (.tmp 18) (.tmp 20) rfl w.heap.size _ I (spF p q L) rfl r1 u L (chF q) rfl O1.ints O1.tail0 (by have := HRI.out; omega) c1.size ?_; intro v' w2 O2 g2; have c2 : Below w.heap.size w w2 := c1.grown g2 c1.size (fun k hk => (r1.lt k hk).1); have O3 := Lib.hid (OF.congr (g := spF p q L) O2 HV.out); clear O2 g2 c1 r1 O1)
        go_roundw
        case rel => exact ⟨i + 1, by omega, by go_num, by rw [HNX.out]; exact O3.out, c2⟩
        case measure => simp [intOf]; omega
      · have ht : (((p[i].toNat : Nat) : Int) == 48) = false := by rw [HZ.out i hlt, hz]; rfl
        have HV : Hid (∀ j, j < I + L → (if j < I then spF p q L j else chF I2 (j - I)) = spF p q L j) := Lib.hid (fun j hj => by
          by_cases e : j < I
          · rw [if_pos e]
          · rw [if_neg e]
            have e2 := HATI.out (j - I) (by omega)
            rw [show I + (j - I) = j by omega, HCH1.out i hz] at e2
            rw [e2, HIN.out (j - I) (by omega)]
            omega)
        clear hz
        go_wp2_with fail
        refine (HIV.out _).mono ?_
        rintro e w0 ⟨rfl, b0⟩
        have r0 := rO.below b0
        have c0 := below_then rb (Nat.le_refl _) b0
        clear rO rb b0
        go_wp2_with fail
        refine (HCI.out _).mono ?_
        rintro e w1 ⟨u, rfl, O1, b1⟩
        have r1 := r0.below b1
        have c1 := below_then c0 (Nat.le_refl _) b1
        clear r0 c0 b1
        go_wp2_with (at_builtin; refine wpList_append_ints rfl (.tmp 22) (.tmp 25) rfl w.heap.size _ I (spF p q L) rfl r1 u L (chF I2) rfl O1.ints O1.tail0 (by have := HRI.out; omega) c1.size ?_; intro v' w2 O2 g2; have c2 : Below w.heap.size w w2 := c1.grown g2 c1.size (fun k hk => (r1.lt k hk).1); have O3 := Lib.hid (OF.congr (g := spF p q L) O2 HV.out); clear O2 g2 c1 r1 O1)
        go_roundw
        case rel => exact ⟨i + 1, by omega, by go_num, by rw [HNX.out]; exact O3.out, c2⟩
        case measure => simp [intOf]; omega
    · obtain rfl : i = p.size := by omega
      have R0 := Lib.hid rO
      clear rO
      go_wp2
      go_ret
      exact ⟨_, rfl, R0.out, rb⟩
set_option maxRecDepth 100000 in
theorem iSpread_any (p q : ByteArray) (w : World) (hp : p.size ≤ 1048576) (hq : q.size ≤ 1048576) :
    Calls Try.prog 21 #[.string p, .string q] w fun e w' => ∃ u, e = .returned (.tuple #[u, .bool (spOK p q)]) ∧ OF w' w.heap.size u (spN p q) (spF p q q.size) ∧ Below w.heap.size w w' := by
  have hb := fun w => bitsValid_any p w (by omega)
  have hs := fun w => iSequenceValid_any q w (by omega)
  cases h1 : bitsB p with
  | false =>
    obtain ⟨e1, e2⟩ := sp_out (p := p) (q := q) (by rw [h1]; simp)
    rw [e1, e2]
    rw [h1] at hb
    have HB := Lib.hid hb
    clear hb hs h1 e1 e2
    go_enter Try.func21, Try.ntmps21
    go_wp2_with fail
    refine (HB.out _).mono ?_
    rintro e w' ⟨rfl, rfl⟩
    go_wp2
    go_ret2
    exact ⟨_, rfl, OF.nil _ _ _, Below.refl _ _⟩
  | true =>
    rw [h1] at hb
    cases h2 : seqB q with
    | false =>
      obtain ⟨e1, e2⟩ := sp_out (p := p) (q := q) (by rw [h2]; simp)
      rw [e1, e2]
      rw [h2] at hs
      have HB := Lib.hid hb
      have HS := Lib.hid hs
      clear hb hs h1 h2 e1 e2
      go_enter Try.func21, Try.ntmps21
      go_wp2_with fail
      refine (HB.out _).mono ?_
      rintro e w' ⟨rfl, rfl⟩
      go_wp2_with fail
      refine (HS.out _).mono ?_
      rintro e w' ⟨rfl, rfl⟩
      go_wp2
      go_ret2
      exact ⟨_, rfl, OF.nil _ _ _, Below.refl _ _⟩
    | true =>
      rw [h2] at hs
      by_cases h3 : p.size * q.size ≤ 3000
      · obtain ⟨e1, e2⟩ := sp_in ⟨h1, h2, h3⟩
        rw [e1, e2]
        obtain ⟨P, hP⟩ : ∃ P, p.size * q.size = P := ⟨_, rfl⟩
        have hPi : (p.size : Int) * (q.size : Int) = (P : Int) := by rw [← hP, Int.natCast_mul]
        have HPE := Lib.hid hP
        clear e1 e2
        rw [hP]; rw [← hP]; exact iSpread_yes p q w h1 h2 h3
      · obtain ⟨e1, e2⟩ := sp_out (p := p) (q := q) (fun e => h3 e.2.2)
        rw [e1, e2]
        obtain ⟨p1, p2⟩ := (bits_iff p).1 h1
        obtain ⟨q0, q1, q2⟩ := (seqB_iff q).1 h2
        have hb3 : p.size * q.size ≤ 600 * 255 := Nat.mul_le_mul p2 q2
        obtain ⟨P, hP⟩ : ∃ P, p.size * q.size = P := ⟨_, rfl⟩
        have hPi : (p.size : Int) * (q.size : Int) = (P : Int) := by rw [← hP, Int.natCast_mul]
        rw [hP] at h3 hb3
        have l0 : ((3000 : Int) < (P : Int)) := by omega
        have HB := Lib.hid hb
        have HS := Lib.hid hs
        clear hb hs h1 h2 e1 e2 p1 q0 hP
        go_enter Try.func21, Try.ntmps21
        go_wp2_with fail
        refine (HB.out _).mono ?_
        rintro e w' ⟨rfl, rfl⟩
        go_wp2_with fail
        refine (HS.out _).mono ?_
        rintro e w' ⟨rfl, rfl⟩
        go_wp2
        go_ret2
        exact ⟨_, rfl, OF.nil _ _ _, Below.refl _ _⟩
end Go.Proofs.Ythfcfnamaedffaa
