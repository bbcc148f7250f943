/- ProtectPayload: what both sides answer; the walk of the law FnExactProtectPayload. -/
import Derived.Test.YtabokoodpobnnaaDoorOrd
import Derived.Test.YtabokoodpobnnaaDoorFrm3
import Derived.Test.YtabokoodpobnnaaDoorFrm8
import Derived.Test.YtabokoodpobnnaaDoorFrm7
import Derived.Test.YtabokoodpobnnaaDoorFrm20
import Derived.Test.YtabokoodpobnnaaDoorDrawFrm
import Derived.Test.YtabokoodpobnnaaDoorRepLay
import Derived.Deep.RegionHeld3
namespace Go.Proofs.YtabokoodpobnnaaDoor
open Go.RowKit
set_option linter.unusedVariables false
set_option maxRecDepth 100000
theorem ppNoS : noS.1.size = 0 := rfl
theorem ppBits {z : ByteArray} (h : okB z z.size = true) (h6 : z.size ≤ 600) : bitsB z = true := by unfold bitsB; rw [h, decide_eq_true h6]; rfl
theorem ppMany48 (n : Nat) : okB (many ⟨#[48]⟩ n) (many ⟨#[48]⟩ n).size = true := okB_of_zb _ fun i hi => by
  left
  rw [many_byte_size] at hi
  rw [zb_many _ _ _ (by show i < 1 * n; omega)]
  show zb ⟨#[48]⟩ (i % 1) = 48
  rw [Nat.mod_one]; rfl
theorem ppHe_ok {z : ByteArray} : okB (heAns z).1 (heAns z).1.size = true ∧ (heAns z).1.size ≤ 600 := by
  unfold heAns
  split
  · rename_i h
    refine ⟨okB_of_zb _ fun i hi => ?_, by rw [strF_size]; exact h.2.2⟩
    rw [strF_size] at hi
    rw [zb_strF hi (encF_lt _ _)]
    have hok : okB z z.size = true := by have := h.1; unfold bitsB at this; simp only [Bool.and_eq_true] at this; exact this.1
    have hb : ∀ k, k < 4 → zb z (4 * (i / 7) + k) = 48 ∨ zb z (4 * (i / 7) + k) = 49 := fun k hk => okB_zb z hok _ (by omega)
    unfold encF blkV
    by_cases e0 : i % 7 = 0
    · rw [if_pos e0]; exact ck3_bit _ _ _
    · rw [if_neg e0]
      by_cases e1 : i % 7 = 1
      · rw [if_pos e1]; exact ck3_bit _ _ _
      · rw [if_neg e1]
        by_cases e2 : i % 7 = 2
        · rw [if_pos e2]; exact hb 0 (by omega)
        · rw [if_neg e2]
          by_cases e3 : i % 7 = 3
          · rw [if_pos e3]; exact ck3_bit _ _ _
          · rw [if_neg e3]; exact hb _ (by omega)
  · exact ⟨rfl, by show 0 ≤ 600; omega⟩
theorem repL_get : ∀ (c i : Nat), i < c → (Lib.repeatL [48] c)[i]? = some 48
  | 0, i, h => by omega
  | c + 1, i, h => by
    cases i with
    | zero => rfl
    | succ i => show (Lib.repeatL [48] c)[i]? = some 48; exact repL_get c i (by omega)
theorem zb_get (z : ByteArray) (i : Nat) (x : UInt8) (h : z.data.toList[i]? = some x) : zb z i = x.toNat := by
  obtain ⟨l⟩ := z
  obtain ⟨l⟩ := l
  have hi : i < l.length := (List.getElem?_eq_some_iff.1 h).1
  rw [← zb_at ⟨⟨l⟩⟩ i hi]
  have := (List.getElem?_eq_some_iff.1 h).2
  show l[i].toNat = _
  rw [← this]
theorem rep_many (c : Nat) : (⟨(Lib.repeatL [48] c).toArray⟩ : ByteArray) = many ⟨#[48]⟩ c := by
  have hl : (Lib.repeatL [48] c).length = c := by rw [Lib.repeatL_length]; show c * 1 = c; omega
  refine strF_of _ _ _ (by show (Lib.repeatL [48] c).toArray.size = 1 * c; rw [List.size_toArray, hl]; omega) fun i hi => ?_
  have hi' : i < c := by have : i < 1 * c := hi; omega
  rw [zb_get _ i 48 (repL_get c i hi')]
  show 48 = zb ⟨#[48]⟩ (i % 1)
  rw [Nat.mod_one]; rfl
/-- A frame, filled up. -/
def padS (z : ByteArray) (N : Nat) : ByteArray := z ++ many ⟨#[48]⟩ (modN (-(z.size : Int)) N)
def ppZ (z : ByteArray) (R : Nat) (S T X : Int) : Nat → ByteArray
  | 0 => z
  | 1 => (frmAns z).1
  | 2 => padS (frmAns z).1 (4 * R)
  | 3 => (heAns (padS (frmAns z).1 (4 * R))).1
  | 4 => (intAns (heAns (padS (frmAns z).1 (4 * R))).1 R).1
  | _ => (scrAns (intAns (heAns (padS (frmAns z).1 (4 * R))).1 R).1 S T X).1
def ppK (z : ByteArray) (R : Nat) (S T X : Int) : Nat → Bool
  | 0 => (frmAns z).2
  | 1 => true
  | 2 => (heAns (padS (frmAns z).1 (4 * R))).2
  | 3 => (intAns (heAns (padS (frmAns z).1 (4 * R))).1 R).2
  | _ => (scrAns (intAns (heAns (padS (frmAns z).1 (4 * R))).1 R).1 S T X).2
def ppAns (z : ByteArray) (n S T X : Int) : ByteArray × Bool := if 1 ≤ n ∧ n ≤ 40 then ordAns (ppZ z n.toNat S T X) (ppK z n.toNat S T X) 5 else noS
theorem frm_size (z : ByteArray) : (frmAns z).1.size ≤ 123 := by
  unfold frmAns
  split
  · rename_i h
    have h100 : z.size ≤ 100 := by unfold payB at h; simp only [Bool.and_eq_true, decide_eq_true_eq] at h; exact h.2
    show (frmS z).size ≤ 123
    rw [frmS_size]; omega
  · rw [ppNoS]; omega
theorem padS_size (z : ByteArray) (N : Nat) (h : 1 ≤ N) : (padS z N).size ≤ z.size + N := padded_size z N h
theorem he_size (z : ByteArray) : (heAns z).1.size ≤ 600 := (ppHe_ok (z := z)).2
theorem int_size (z : ByteArray) (n : Int) : (intAns z n).1.size ≤ z.size := by
  unfold intAns
  split
  · show (weaveS z _ _).size ≤ z.size
    rw [show (weaveS z n.toNat (z.size / n.toNat)).size = z.size from strF_size _ _]
    exact Nat.le_refl _
  · rw [ppNoS]; omega
theorem pp1_any (z : ByteArray) (R b : Nat) (w : World) (hs : z.size ≤ 1000) (h1 : 1 ≤ R) (h2 : R ≤ 40) (hc : w.cell? ⟨b, 0, none⟩ = some (.int .i64 R)) :
    Calls Tryd.prog 31 #[.string z, .pointer (some ⟨b, 0, none⟩)] w fun e w' => e = .returned (.tuple #[.string (padS z (4 * R)), .bool true]) ∧ Below w.heap.size w w' := by
  have hL := fun w => modulo_any (-(z.size : Int)) (4 * R) w (by omega) (by omega)
  have hl := modN_lt (-(z.size : Int)) (4 * R) (by omega)
  have HX : Hid (z ++ many ⟨#[48]⟩ (modN (-(z.size : Int)) (4 * R)) = padS z (4 * R)) := Lib.hid rfl
  obtain ⟨m, hm⟩ : ∃ m, modN (-(z.size : Int)) (4 * R) = m := ⟨_, rfl⟩
  rw [hm] at hL hl HX
  have hM := fun w => rep_any ⟨#[48]⟩ m w (by omega) (by show 1 * m ≤ _; omega)
  have e : (⟨(Lib.repeatL (⟨#[48]⟩ : ByteArray).data.toList m).toArray⟩ : ByteArray) = many ⟨#[48]⟩ m := rep_many m
  rw [e] at hM
  have hsz := many_byte_size 48 m
  obtain ⟨Y, hY⟩ : ∃ Y, many ⟨#[48]⟩ m = Y := ⟨_, rfl⟩
  rw [hY] at hM hsz HX
  obtain ⟨Q, hQ⟩ : ∃ Q, padS z (4 * R) = Q := ⟨_, rfl⟩
  rw [hQ] at HX ⊢
  obtain ⟨N, hN⟩ : ∃ N, 4 * R = N := ⟨_, rfl⟩
  rw [hN] at hL hl
  have v1 : (4 : Int) * (R : Int) = (N : Int) := by omega
  have hq : z.size + Y.size ≤ 9223372036854775807 := by omega
  have HL := Lib.hid hL
  have HM := Lib.hid hM
  clear hL hM hm hY hQ hN hsz hl e
  go_enter Tryd.func31, Tryd.ntmps31
  go_wp2_with fail
  refine (HL.out _).mono ?_
  rintro e w' ⟨rfl, rfl⟩
  go_wp2_with fail
  refine (HM.out _).mono ?_
  rintro e w1 ⟨rfl, hb1⟩
  go_wp2
  go_ret2
  refine ⟨?_, hb1⟩
  have hx := HX.out
  subst hx
  rfl
theorem pp2_any (z : ByteArray) (n : Int) (b : Nat) (w : World) (hs : z.size ≤ 1048576) (hc : w.cell? ⟨b, 0, none⟩ = some (.int .i64 n)) :
    Calls Tryd.prog 34 #[.string z, .pointer (some ⟨b, 0, none⟩)] w fun e w' => e = .returned (.tuple #[.string (intAns z n).1, .bool (intAns z n).2]) ∧ Below w.heap.size w w' := by
  have HS := Lib.hid (fun w => iInter_any z n w hs)
  obtain ⟨A, hA⟩ : ∃ A, intAns z n = A := ⟨_, rfl⟩
  rw [hA] at HS ⊢
  obtain ⟨A1, A2⟩ := A
  clear hA hs
  go_enter Tryd.func34, Tryd.ntmps34
  go_wp2_with fail
  refine (HS.out _).mono ?_
  rintro e w1 ⟨rfl, hb1⟩
  go_wp2
  go_ret2
  exact ⟨rfl, hb1⟩
theorem pp3_any (z : ByteArray) (S T X : Int) (b : Nat) (w : World) (hs : z.size ≤ 1048576) (hr : RegAt w b S T X) :
    Calls Tryd.prog 36 #[.string z, .pointer (some ⟨b, 0, none⟩)] w fun e w' => e = .returned (.tuple #[.string (scrAns z S T X).1, .bool (scrAns z S T X).2]) ∧ Below w.heap.size w w' := by
  have HS := Lib.hid (fun w => iScr_any z S T X w hs)
  obtain ⟨A, hA⟩ : ∃ A, scrAns z S T X = A := ⟨_, rfl⟩
  rw [hA] at HS ⊢
  obtain ⟨A1, A2⟩ := A
  obtain ⟨c0, c1, c2, -⟩ := hr
  clear hA hs
  go_enter Tryd.func36, Tryd.ntmps36
  go_wp2_with fail
  refine (HS.out _).mono ?_
  rintro e w1 ⟨rfl, hb1⟩
  go_wp2
  go_ret2
  exact ⟨rfl, hb1⟩
def ppV (gi gr : Nat) : Nat → Value
  | 0 => .func (.func 30) #[] #[]
  | 1 => .func (.func 31) #[] #[.pointer (some ⟨gi, 0, none⟩)]
  | 2 => .func (.func 16) #[] #[]
  | 3 => .func (.func 34) #[] #[.pointer (some ⟨gi, 0, none⟩)]
  | _ => .func (.func 36) #[] #[.pointer (some ⟨gr, 0, none⟩)]
theorem cells5 (X : World) (a b c d e : Value) (t : TypeId) : (X.alloc (.cells #[a, b, c, d, e] t)).cell? ⟨X.heap.size, 0, none⟩ = some a ∧ (X.alloc (.cells #[a, b, c, d, e] t)).cell? ⟨X.heap.size, 1, none⟩ = some b ∧ (X.alloc (.cells #[a, b, c, d, e] t)).cell? ⟨X.heap.size, 2, none⟩ = some c ∧ (X.alloc (.cells #[a, b, c, d, e] t)).cell? ⟨X.heap.size, 3, none⟩ = some d ∧ (X.alloc (.cells #[a, b, c, d, e] t)).cell? ⟨X.heap.size, 4, none⟩ = some e := by
  refine ⟨?_, ?_, ?_, ?_, ?_⟩ <;> simp
set_option maxHeartbeats 1600000 in
theorem iPrt_any (z : ByteArray) (n S T X : Int) (w : World) (hs : z.size ≤ 1048576) (hp : PlacesAt w) (h0 : 0 < w.heap.size) :
    Calls Tryd.prog 10 #[.string z, .int .i64 n, .agg #[.int .i64 S, .int .i64 T, .int .i64 X]] w fun e w' => e = .returned (.tuple #[.string (ppAns z n S T X).1, .bool (ppAns z n S T X).2]) ∧ Below w.heap.size w w' := by
  have s1 : (w.alloc (.cells #[.int .i64 n] 3)).heap.size = w.heap.size + 1 := World.size_alloc _ _
  have s2 : ((w.alloc (.cells #[.int .i64 n] 3)).alloc (.cells #[.int .i64 S, .int .i64 T, .int .i64 X] 26)).heap.size = w.heap.size + 2 := by rw [World.size_alloc, s1]
  have b2 : Below w.heap.size w ((w.alloc (.cells #[.int .i64 n] 3)).alloc (.cells #[.int .i64 S, .int .i64 T, .int .i64 X] 26)) := ((Below.refl _ _).alloc (Nat.le_refl _) _).alloc (by rw [s1]; omega) _
  have ci : ((w.alloc (.cells #[.int .i64 n] 3)).alloc (.cells #[.int .i64 S, .int .i64 T, .int .i64 X] 26)).cell? ⟨w.heap.size, 0, none⟩ = some (.int .i64 n) := box_old (box_new w _ _) (by rw [s1]; omega) _
  have HR := Lib.hid (fun w => iRows_any n w)
  by_cases hn : 1 ≤ n ∧ n ≤ 40
  · obtain ⟨R, rfl⟩ : ∃ R : Nat, n = R := ⟨n.toNat, by omega⟩
    rw [show (decide (1 ≤ (R : Int)) && decide ((R : Int) ≤ 40)) = true by simp; omega] at HR
    have hcall : ∀ gi gr g2, gi = w.heap.size → gr = w.heap.size + 1 → g2 = w.heap.size + 2 → ∀ W, W = ((w.alloc (.cells #[.int .i64 R] 3)).alloc (.cells #[.int .i64 S, .int .i64 T, .int .i64 X] 26)).alloc (.cells #[ppV gi gr 0, ppV gi gr 1, ppV gi gr 2, ppV gi gr 3, ppV gi gr 4] 33) →
        Calls Tryd.prog 29 #[.string z, .slice (some ⟨g2, 0, none⟩) 5 5] W fun e w' => e = .returned (.tuple #[.string (ppAns z R S T X).1, .bool (ppAns z R S T X).2]) ∧ Below w.heap.size w w' := by
      rintro gi gr g2 rfl rfl rfl W hW
      have bb : Below w.heap.size w W := by rw [hW]; exact b2.alloc (by rw [s2]; omega) _
      have sW : W.heap.size = w.heap.size + 3 := by rw [hW, World.size_alloc, s2]
      have ci' : W.cell? ⟨w.heap.size, 0, none⟩ = some (.int .i64 R) := by
        rw [hW]; exact box_old ci (by rw [s2]; omega) _
      have cr : RegAt W (w.heap.size + 1) S T X := by
        have h := RegAt.new (w.alloc (.cells #[.int .i64 R] 3)) 26 S T X
        rw [s1] at h
        rw [hW]
        exact h.below ((Below.refl _ _).alloc (Nat.le_refl _) _) (by rw [s2]; omega)
      have cells : ∀ i, i < 5 → W.cell? ⟨w.heap.size + 2, i, none⟩ = some (ppV w.heap.size (w.heap.size + 1) i) := by
        intro i hi
        have hi' : i = 0 ∨ i = 1 ∨ i = 2 ∨ i = 3 ∨ i = 4 := by omega
        rw [hW, ← s2]
        obtain ⟨q0, q1, q2, q3, q4⟩ := cells5 ((w.alloc (.cells #[.int .i64 R] 3)).alloc (.cells #[.int .i64 S, .int .i64 T, .int .i64 X] 26)) (ppV w.heap.size (w.heap.size + 1) 0) (ppV w.heap.size (w.heap.size + 1) 1) (ppV w.heap.size (w.heap.size + 1) 2) (ppV w.heap.size (w.heap.size + 1) 3) (ppV w.heap.size (w.heap.size + 1) 4) 33
        rcases hi' with rfl | rfl | rfl | rfl | rfl
        · exact q0
        · exact q1
        · exact q2
        · exact q3
        · exact q4
      have z1 := frm_size z
      have z2 := padS_size (frmAns z).1 (4 * R) (by omega)
      have z3 := he_size (padS (frmAns z).1 (4 * R))
      have z4 := int_size (heAns (padS (frmAns z).1 (4 * R))).1 R
      have key := inOrder_any 5 (w.heap.size + 2) 5 (ppV w.heap.size (w.heap.size + 1)) (ppZ z R S T X) (ppK z R S T X) W (by omega) (by omega) cells (by
        intro i hi
        have hi' : i = 0 ∨ i = 1 ∨ i = 2 ∨ i = 3 ∨ i = 4 := by omega
        rcases hi' with rfl | rfl | rfl | rfl | rfl
        · exact ⟨_, _, rfl, enters_of Tryd.func30 (by kernel_rfl) rfl, fun V hV => iFrame_any z V hs⟩
        · exact ⟨_, _, rfl, enters_of Tryd.func31 (by kernel_rfl) rfl, fun V hV => pp1_any _ R _ V (by show (frmAns z).1.size ≤ _; omega) (by omega) (by omega) (box_kept ci' (by omega) hV)⟩
        · exact ⟨_, _, rfl, enters_of Tryd.func16 (by kernel_rfl) rfl, fun V hV => iHe_any _ V (by show (padS (frmAns z).1 (4 * R)).size ≤ _; omega) (PlacesAt.below (PlacesAt.below hp h0 bb) (by omega) hV) (by have := hV.size; omega)⟩
        · exact ⟨_, _, rfl, enters_of Tryd.func34 (by kernel_rfl) rfl, fun V hV => pp2_any _ R _ V (by show (heAns (padS (frmAns z).1 (4 * R))).1.size ≤ _; omega) (box_kept ci' (by omega) hV)⟩
        · exact ⟨_, _, rfl, enters_of Tryd.func36 (by kernel_rfl) rfl, fun V hV => pp3_any _ S T X _ V (by show (intAns (heAns (padS (frmAns z).1 (4 * R))).1 R).1.size ≤ _; omega) (cr.below hV (by omega))⟩)
      have e : ppAns z R S T X = ordAns (ppZ z R S T X) (ppK z R S T X) 5 := by unfold ppAns; rw [if_pos hn, Int.toNat_natCast]
      rw [e]
      exact key.mono fun e w' ⟨he, hb⟩ => ⟨he, below_then bb (by omega) hb⟩
    obtain ⟨A, hA⟩ : ∃ A, ppAns z R S T X = A := ⟨_, rfl⟩
    rw [hA] at hcall ⊢
    obtain ⟨A1, A2⟩ := A
    have HC := Lib.hid hcall
    clear hA hs hp h0 hcall s1 s2 b2 hn
    go_enter Tryd.func10, Tryd.ntmps10
    go_wp2_with fail
    refine (HR.out _).mono ?_
    rintro e w' ⟨rfl, rfl⟩
    go_wp2_with fail
    refine (HC.out _ _ _ rfl (by first | rfl | simp) (by first | rfl | simp) _ rfl).mono ?_
    rintro e w1 ⟨rfl, hb1⟩
    go_wp2
    go_ret2
    exact ⟨rfl, hb1⟩
  · have hA : ppAns z n S T X = noS := by unfold ppAns; rw [if_neg hn]
    have HX := Lib.hid hA
    have hb : (decide (1 ≤ n) && decide (n ≤ 40)) = false := by
      rw [Bool.and_eq_false_iff, decide_eq_false_iff_not, decide_eq_false_iff_not]; omega
    rw [hb] at HR
    clear hA hb hn hs hp h0 s1 s2
    go_enter Tryd.func10, Tryd.ntmps10
    go_wp2_with fail
    refine (HR.out _).mono ?_
    rintro e w' ⟨rfl, rfl⟩
    go_wp2
    go_ret2
    exact ⟨ret_sA HX.out, b2⟩
theorem pad_dvd (s N : Nat) (h : 1 ≤ N) : ∃ m, s + modN (-(s : Int)) N = N * m := by
  have h1 := modN_eq (-(s : Int)) N (by omega)
  have h2 := Int.mul_ediv_add_emod (-(s : Int)) N
  have h3 : (N : Int) ∣ ((s + modN (-(s : Int)) N : Nat) : Int) := ⟨-(-(s : Int) / (N : Int)), by rw [Int.mul_neg, Int.natCast_add, h1]; omega⟩
  exact Int.natCast_dvd_natCast.1 h3
theorem pay_of {z : ByteArray} (h : payB z = true) : okB z z.size = true ∧ z.size ≤ 100 := by
  unfold payB at h
  simp only [Bool.and_eq_true, decide_eq_true_eq] at h
  exact ⟨(bits_of2 h.1).1, h.2⟩
theorem prot {z : ByteArray} (h : payB z = true) {R : Nat} (h1 : 1 ≤ R) (h2 : R ≤ 40) : ∃ B C, heAns (padS (frmS z) (4 * R)) = (B, true) ∧ 0 < B.size ∧ B.size = R * C ∧ B.size ≤ 600 ∧ B.size / R = C ∧ bitsB B = true := by
  obtain ⟨ho, h100⟩ := pay_of h
  have hs := frmS_size z
  obtain ⟨m, hm⟩ := pad_dvd (frmS z).size (4 * R) (by omega)
  have hl := modN_lt (-((frmS z).size : Int)) (4 * R) (by omega)
  have hps : (padS (frmS z) (4 * R)).size = 4 * (R * m) := by
    unfold padS
    rw [ByteArray.size_append, many_byte_size, hm, Nat.mul_assoc]
  have hpo : okB (padS (frmS z) (4 * R)) (padS (frmS z) (4 * R)).size = true := okApp (frmS_ok ho) (ppMany48 _)
  have hle : (padS (frmS z) (4 * R)).size ≤ 283 := by
    unfold padS
    rw [ByteArray.size_append, many_byte_size]; omega
  have h0 : 0 < (padS (frmS z) (4 * R)).size := by
    unfold padS
    rw [ByteArray.size_append]; omega
  generalize padS (frmS z) (4 * R) = P at hps hpo hle h0
  obtain ⟨q, hq⟩ : ∃ q, R * m = q := ⟨_, rfl⟩
  rw [hq] at hps
  have e : heAns P = (strF (P.size / 4 * 7) (encF P), true) := by unfold heAns; rw [if_pos ⟨ppBits hpo (by omega), by omega, by omega⟩]
  have hBs : (strF (P.size / 4 * 7) (encF P)).size = q * 7 := by rw [strF_size]; omega
  have hBo := ppHe_ok (z := P)
  rw [e] at hBo
  refine ⟨_, m * 7, e, by rw [hBs]; omega, by rw [hBs, ← hq, Nat.mul_assoc], hBo.2, ?_, ppBits hBo.1 hBo.2⟩
  rw [hBs, ← hq, Nat.mul_assoc]
  exact Nat.mul_div_cancel_left _ (by omega)
theorem pp_rows {z : ByteArray} {n S T X : Int} (h : ¬ (1 ≤ n ∧ n ≤ 40)) : ppAns z n S T X = noS := by unfold ppAns; rw [if_neg h]
theorem ord5_no {z : Nat → ByteArray} {ok : Nat → Bool} {k : Nat} (h : ok k = false) (hk : k < 5) : ordAns z ok 5 = noS := by
  unfold ordAns; rw [allB_not h 5 hk]; exact if_neg (by simp)
theorem ord5_yes {z : Nat → ByteArray} {ok : Nat → Bool} (h : ∀ k, k < 5 → ok k = true) : ordAns z ok 5 = (z 5, true) := by
  have : allB ok 5 = true := by simp only [allB]; rw [h 0 (by omega), h 1 (by omega), h 2 (by omega), h 3 (by omega), h 4 (by omega)]; rfl
  unfold ordAns; rw [this]; exact if_pos rfl
theorem pp_pay {z : ByteArray} {n S T X : Int} (h : payB z = false) : ppAns z n S T X = noS := by
  unfold ppAns
  by_cases hn : 1 ≤ n ∧ n ≤ 40
  · rw [if_pos hn]
    refine ord5_no (k := 0) ?_ (by omega)
    show (frmAns z).2 = false
    unfold frmAns; rw [h]; rfl
  · rw [if_neg hn]
theorem pp_reg {z : ByteArray} {n S T X : Int} (h : regB S T X = false) : ppAns z n S T X = noS := by
  unfold ppAns
  by_cases hn : 1 ≤ n ∧ n ≤ 40
  · rw [if_pos hn]
    refine ord5_no (k := 4) ?_ (by omega)
    show (scrAns _ S T X).2 = false
    rw [scr_no (by rw [h]; simp)]; rfl
  · rw [if_neg hn]
theorem pp_yes {z : ByteArray} {R C : Nat} {S T X : Int} (hz : payB z = true) (h1 : 1 ≤ R) (h2 : R ≤ 40) (hr : regB S T X = true) {B : ByteArray} (hB : heAns (padS (frmS z) (4 * R)) = (B, true)) (hs : B.size = R * C) (hc : B.size / R = C) (hb : bitsB B = true) :
    ppAns z R S T X = ((scrAns (weaveS B R C) S T X).1, true) ∧ (scrAns (weaveS B R C) S T X).2 = true := by
  have hf : frmAns z = (frmS z, true) := by unfold frmAns; rw [hz]; rfl
  have hi : intAns B R = (weaveS B R C, true) := by
    unfold intAns
    rw [if_pos ((fitB_iff B R).2 ⟨hb, by omega, by omega, by rw [Int.toNat_natCast, hs]; exact Nat.mul_mod_right _ _⟩), Int.toNat_natCast, hc]
  have hw : bitsB (weaveS B R C) = true := by
    obtain ⟨ho, h6⟩ := bits_of2 hb
    have hsz : (weaveS B R C).size = B.size := strF_size _ _
    refine ppBits (okB_of_zb _ fun i hi => ?_) (by omega)
    rw [hsz] at hi
    have hlt : i % R * C + i / R < B.size := by
      have hq : i / R < C := (Nat.div_lt_iff_lt_mul (by omega)).2 (by rw [Nat.mul_comm]; omega)
      have hr : i % R < R := Nat.mod_lt _ (by omega)
      have : (i % R + 1) * C ≤ R * C := Nat.mul_le_mul_right _ hr
      rw [Nat.add_mul, Nat.one_mul] at this
      omega
    rw [show zb (weaveS B R C) i = zb B (i % R * C + i / R) from zb_strF (f := fun i => zb B (i % R * C + i / R)) hi (zb_lt _ _)]
    exact okB_zb B ho _ hlt
  have hA : (scrAns (weaveS B R C) S T X).2 = true := by unfold scrAns; rw [if_pos ⟨hw, hr⟩]
  refine ⟨?_, hA⟩
  unfold ppAns
  rw [if_pos ⟨by omega, by omega⟩, Int.toNat_natCast]
  have key := ord5_yes (z := ppZ z R S T X) (ok := ppK z R S T X) (fun k hk => by
    have hk' : k = 0 ∨ k = 1 ∨ k = 2 ∨ k = 3 ∨ k = 4 := by omega
    rcases hk' with rfl | rfl | rfl | rfl | rfl
    · show (frmAns z).2 = true; rw [hf]
    · rfl
    · show (heAns (padS (frmAns z).1 (4 * R))).2 = true; rw [hf, hB]
    · show (intAns (heAns (padS (frmAns z).1 (4 * R))).1 R).2 = true; rw [hf, hB, hi]
    · show (scrAns (intAns (heAns (padS (frmAns z).1 (4 * R))).1 R).1 S T X).2 = true; rw [hf, hB, hi]; exact hA)
  rw [key]
  show ((scrAns (intAns (heAns (padS (frmAns z).1 (4 * R))).1 R).1 S T X).1, true) = _
  rw [hf, hB, hi]
set_option maxHeartbeats 1600000 in
theorem sPrt_any (z : ByteArray) (n S T X : Int) (w : World) (hs : z.size ≤ 1048576) :
    Calls Tryd.prog 8 #[.string z, .int .i64 n, .agg #[.int .i64 S, .int .i64 T, .int .i64 X]] w fun e w' => e = .returned (.tuple #[.string (ppAns z n S T X).1, .bool (ppAns z n S T X).2]) ∧ Below w.heap.size w w' := by
  have b0 : Below w.heap.size w (w.alloc (.cells #[.int .i64 S, .int .i64 T, .int .i64 X] 26)) := (Below.refl _ _).alloc (Nat.le_refl _) _
  have r0 := RegAt.new w 26 S T X
  have HF := Lib.hid (fun w => sFrame_any z w hs)
  cases hz : payB z with
  | false =>
    have HX := Lib.hid (pp_pay (n := n) (S := S) (T := T) (X := X) hz)
    have hf : frmAns z = noS := by unfold frmAns; rw [hz]; rfl
    rw [hf] at HF
    clear hz hf r0
    go_enter Tryd.func8, Tryd.ntmps8
    go_wp2_with fail
    refine (HF.out _).mono ?_
    rintro e w1 ⟨rfl, hb1⟩
    have b1 := below_then b0 (Nat.le_refl _) hb1
    clear hb1 b0
    go_wp2
    go_ret2
    exact ⟨ret_sA HX.out, b1⟩
  | true =>
    have hf : frmAns z = (frmS z, true) := by unfold frmAns; rw [hz]; rfl
    have hfs := frm_size z
    rw [hf] at HF hfs
    have HI := Lib.hid (fun w => l1In_any n 1 40 w)
    by_cases hn : 1 ≤ n ∧ n ≤ 40
    · obtain ⟨R, rfl⟩ : ∃ R : Nat, n = R := ⟨n.toNat, by omega⟩
      rw [show (decide (1 ≤ (R : Int)) && decide ((R : Int) ≤ 40)) = true by simp; omega] at HI
      cases hv : regB S T X with
      | false =>
        have HX := Lib.hid (pp_reg (z := z) (n := (R : Int)) hv)
        have HG := Lib.hid (fun w => sreg_valid S T X false w hv)
        obtain ⟨F, hF⟩ : ∃ F, frmS z = F := ⟨_, rfl⟩
        rw [hF] at HF
        clear hz hf hv hfs hF
        go_enter Tryd.func8, Tryd.ntmps8
        go_wp2_with fail
        refine (HF.out _).mono ?_
        rintro e w1 ⟨rfl, hb1⟩
        have r1 := r0.below hb1 (by simp)
        have b1 := below_then b0 (Nat.le_refl _) hb1
        obtain ⟨c0, c1, c2, -⟩ := id r1
        clear hb1 b0 r0
        go_wp2_with fail
        refine (HI.out _).mono ?_
        rintro e w' ⟨rfl, rfl⟩
        go_wp2_with fail
        refine (HG.out _).mono ?_
        rintro e w2 ⟨rfl, hb2⟩
        have b2 := below_then b1 (Nat.le_refl _) hb2
        clear hb2 b1 c0 c1 c2 r1
        go_wp2
        go_ret2
        exact ⟨ret_sA HX.out, b2⟩
      | true =>
        have HG := Lib.hid (fun w => sreg_valid S T X true w hv)
        obtain ⟨B, C, hB, hB0, hBs, hB6, hBC, hBb⟩ := prot hz (R := R) (by omega) (by omega)
        obtain ⟨hX, hA⟩ := pp_yes hz (R := R) (by omega) (by omega) hv hB hBs hBC hBb
        have hwz : (weaveS B R C).size = B.size := strF_size _ _
        have HW := Lib.hid (fun w => l6Weave_any B R C w (by omega) hBs hB6 hBC (by omega))
        have HS := Lib.hid (fun w => sScr_any (weaveS B R C) S T X w (by omega))
        rw [hA] at HS
        have HX := Lib.hid hX
        have HP := Lib.hid (fun w => l6Padded_any (frmS z) (4 * R) w (by have : (frmS z).size ≤ 123 := hfs; omega) (by omega) (by omega))
        have HP : Hid (∀ w, Calls Tryd.prog 25 #[.string (frmS z), .int .i64 (4 * R : Nat)] w fun e w' => e = .returned (.string (padS (frmS z) (4 * R))) ∧ w = w') := HP
        have hPs : (padS (frmS z) (4 * R)).size ≤ 1000 := by have := padS_size (frmS z) (4 * R) (by omega); have : (frmS z).size ≤ 123 := hfs; omega
        have HE := Lib.hid (fun w => sHe_any (padS (frmS z) (4 * R)) w (by omega))
        rw [hB] at HE
        obtain ⟨F, hF⟩ : ∃ F, frmS z = F := ⟨_, rfl⟩
        rw [hF] at HF HP HE
        obtain ⟨P, hP⟩ : ∃ P, padS F (4 * R) = P := ⟨_, rfl⟩
        rw [hP] at HP HE
        obtain ⟨N, hN⟩ : ∃ N, 4 * R = N := ⟨_, rfl⟩
        rw [hN] at HP
        have v1 : (4 : Int) * (R : Int) = (N : Int) := by omega
        obtain ⟨V, hV⟩ : ∃ V, weaveS B R C = V := ⟨_, rfl⟩
        rw [hV] at HW HS HX
        obtain ⟨Q, hQ⟩ : ∃ Q, (scrAns V S T X).1 = Q := ⟨_, rfl⟩
        rw [hQ] at HS HX
        have n2 : B.toList.isEmpty = false := by
          rw [ByteArray.toList_eq, List.isEmpty_eq_false_iff]
          intro h
          have e1 : B.size = B.data.toList.length := by show B.data.size = _; rw [Array.length_toList]
          rw [h] at e1
          have e2 : B.size = 0 := e1
          omega
        clear hz hf hv hfs hX hA hF hP hN hV hQ hB hB0 hBs hB6 hBC hBb hwz hPs
        go_enter Tryd.func8, Tryd.ntmps8
        go_wp2_with fail
        refine (HF.out _).mono ?_
        rintro e w1 ⟨rfl, hb1⟩
        have r1 := r0.below hb1 (by simp)
        have b1 := below_then b0 (Nat.le_refl _) hb1
        obtain ⟨c0, c1, c2, -⟩ := id r1
        clear hb1 b0 r0
        go_wp2_with fail
        refine (HI.out _).mono ?_
        rintro e w' ⟨rfl, rfl⟩
        go_wp2_with fail
        refine (HG.out _).mono ?_
        rintro e w2 ⟨rfl, hb2⟩
        have b2 := below_then b1 (Nat.le_refl _) hb2
        have r2 := r1.below hb2 r1.2.2.2
        clear hb2 b1 c0 c1 c2 r1
        go_wp2_with fail
        refine (HP.out _).mono ?_
        rintro e w' ⟨rfl, rfl⟩
        go_wp2_with fail
        refine (HE.out _).mono ?_
        rintro e w3 ⟨rfl, hb3⟩
        have b3 := below_then b2 (Nat.le_refl _) hb3
        have r3 := r2.below hb3 r2.2.2.2
        clear hb3 b2 r2
        obtain ⟨c0, c1, c2, cl⟩ := id r3
        obtain ⟨e0, e1, e2, el⟩ := r3.below (Below.refl w3.heap.size w3).drew r3.2.2.2
        go_wp2_with fail
        go_region_held3 (fun wx => wx.cell? ⟨w.heap.size, 0, none⟩ = some (.int .i64 S) ∧ wx.cell? ⟨w.heap.size, 1, none⟩ = some (.int .i64 T) ∧ wx.cell? ⟨w.heap.size, 2, none⟩ = some (.int .i64 X)) (first | exact ⟨n0, n1, n2⟩ | exact ⟨m0, m1, m2⟩ | exact ⟨e0, e1, e2⟩) (first
          | (go_at_call 27; refine (HW.out _).mono ?_; rintro e w5 ⟨rfl, hb5⟩; have r5 := (r3.below (Below.refl w3.heap.size w3).drew r3.2.2.2).below hb5 (by simpa using cl); have b5 := below_then b3.drew (Nat.le_refl _) hb5; obtain ⟨m0, m1, m2, ml⟩ := id r5)
          | (go_at_call 26; refine (HS.out _).mono ?_; rintro e w6 ⟨rfl, hb6⟩; have r6 := r5.below hb6 r5.2.2.2; have b6 := below_then b5 (Nat.le_refl _) hb6; obtain ⟨n0, n1, n2, nl⟩ := id r6))
        clear c0 c1 c2 cl e0 e1 e2 el m0 m1 m2 ml n0 n1 n2 nl r3 r5 r6
        go_wp2
        go_ret2
        exact ⟨ret_sA HX.out, b6⟩
    · have HX := Lib.hid (pp_rows (z := z) (S := S) (T := T) (X := X) hn)
      have hb : (decide (1 ≤ n) && decide (n ≤ 40)) = false := by
        rw [Bool.and_eq_false_iff, decide_eq_false_iff_not, decide_eq_false_iff_not]; omega
      rw [hb] at HI
      obtain ⟨F, hF⟩ : ∃ F, frmS z = F := ⟨_, rfl⟩
      rw [hF] at HF
      clear hz hf hb hn hfs hF r0
      go_enter Tryd.func8, Tryd.ntmps8
      go_wp2_with fail
      refine (HF.out _).mono ?_
      rintro e w1 ⟨rfl, hb1⟩
      have b1 := below_then b0 (Nat.le_refl _) hb1
      clear hb1 b0
      go_wp2_with fail
      refine (HI.out _).mono ?_
      rintro e w' ⟨rfl, rfl⟩
      go_wp2
      go_ret2
      exact ⟨ret_sA HX.out, b1⟩
set_option maxHeartbeats 1600000 in
set_option maxRecDepth 100000 in
theorem fnExactProtectPayload_walk (z : ByteArray) (n S T X : Int) (w : World) (hz : z.size ≤ maxLen) (_ : (Lit.int .i64 n).wf = true) (_ : (Lit.int .i64 S).wf = true) (_ : (Lit.int .i64 T).wf = true) (_ : (Lit.int .i64 X).wf = true) (hp : PlacesAt w) (h0 : 0 < w.heap.size) :
    Calls Tryd.prog 3 #[.string z, .int .i64 n, .agg #[.int .i64 S, .int .i64 T, .int .i64 X]] w fun e w' => e = .returned (.bool true) ∧ Below w.heap.size w w' := by
  unfold maxLen at hz
  have r0 := RegAt.new w 23 S T X
  have b0 : Below w.heap.size w (w.alloc (.cells #[.int .i64 S, .int .i64 T, .int .i64 X] 23)) := (Below.refl _ _).alloc (Nat.le_refl _) _
  by_cases hl : 1048576 < z.size
  · go_enter Tryd.func3, Tryd.ntmps3
    go_wp2
    go_ret
    exact ⟨rfl, b0⟩
  · have hs := fun w => sPrt_any z n S T X w (by omega)
    have hi := fun w1 (b1 : Below w.heap.size w w1) => iPrt_any z n S T X w1 (by omega) (PlacesAt.below hp h0 b1) (Nat.lt_of_lt_of_le h0 b1.size)
    obtain ⟨R, hR⟩ : ∃ R, ppAns z n S T X = R := ⟨_, rfl⟩
    simp only [hR] at hs hi
    obtain ⟨Z, ok⟩ := R
    clear hR hp h0
    have HS := Lib.hid hs
    have HI := Lib.hid hi
    obtain ⟨c0, c1, c2, cl⟩ := id r0
    clear hs hi
    go_enter Tryd.func3, Tryd.ntmps3
    go_wp2_with fail
    refine (toRegister_any S T X _).mono ?_
    rintro e w1 ⟨rfl, hb1⟩
    have r1 := r0.below hb1 (by simp)
    have b1 := below_then b0 (Nat.le_refl _) hb1
    clear hb1 b0 r0 c0 c1 c2 cl
    go_wp2_with fail
    refine (HS.out _).mono ?_
    rintro e w2 ⟨rfl, hb2⟩
    have r2 := r1.below hb2 r1.2.2.2
    have b2 := below_then b1 (Nat.le_refl _) hb2
    clear hb2 r1 b1
    obtain ⟨c0, c1, c2, cl⟩ := id r2
    go_wp2_with fail
    clear c0 c1 c2 cl
    refine (toRegister_any S T X _).mono ?_
    rintro e w3 ⟨rfl, hb3⟩
    have b3 := below_then b2 (Nat.le_refl _) hb3
    clear hb3 b2 r2
    go_wp2_with fail
    refine (HI.out _ b3).mono ?_
    rintro e w4 ⟨rfl, hb4⟩
    have b4 := below_then b3 (Nat.le_refl _) hb4
    clear hb4 b3 HS HI
    cases ok
    all_goals
      go_wp2
      go_ret
      exact ⟨rfl, b4⟩
end Go.Proofs.YtabokoodpobnnaaDoor
