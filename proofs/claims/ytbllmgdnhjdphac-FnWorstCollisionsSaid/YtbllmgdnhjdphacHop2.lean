/- MoveHops and LoadOf of both sides. -/
import Derived.Test.YtbllmgdnhjdphacHop1
namespace Go.Proofs.Ytbllmgdnhjdphac
open Go.RowKit
set_option linter.unusedVariables false
set_option maxRecDepth 100000
def mvD (d : Int) : Bool := decide (-16 ≤ d) && decide (d ≤ 16)
def mvB (n : Nat) (z : Nat → Int) (C d : Int) : Bool := hopB n z C && mvD d
def mvN (n : Nat) (z : Nat → Int) (C d : Int) : Nat := if mvB n z C d then n else 0
def mvF (z : Nat → Int) (C d : Int) (i : Nat) : Int := ((modN (z i + d) C.toNat : Nat) : Int)
theorem mvD_iff (d : Int) : mvD d = true ↔ -16 ≤ d ∧ d ≤ 16 := by unfold mvD; simp only [Bool.and_eq_true, decide_eq_true_eq]
theorem mv_no {n : Nat} {z : Nat → Int} {C d : Int} (h : mvB n z C d = false) : mvN n z C d = 0 := by unfold mvN; rw [h]; rfl
theorem mvN_le6 (n : Nat) (z : Nat → Int) (C d : Int) : mvN n z C d ≤ 1000000 := by
  unfold mvN mvB
  split
  · rename_i h
    rw [Bool.and_eq_true] at h
    have := (hopB_iff _ _ _).1 h.1
    omega
  · omega
/-- How many of the first k hops are the channel y. -/
def ldC (z : Nat → Int) (y : Int) : Nat → Nat
  | 0 => 0
  | k + 1 => ldC z y k + (if z k = y then 1 else 0)
theorem ldC_le (z : Nat → Int) (y : Int) : ∀ k, ldC z y k ≤ k
  | 0 => Nat.le_refl _
  | k + 1 => by have := ldC_le z y k; simp only [ldC]; split <;> omega
def ldN (n : Nat) (z : Nat → Int) (C : Int) : Nat := if hopB n z C then C.toNat else 0
def ldF (n : Nat) (z : Nat → Int) (j : Nat) : Int := (ldC z (j : Int) n : Nat)
theorem ldN_le6 (n : Nat) (z : Nat → Int) (C : Int) : ldN n z C ≤ 1000000 := by
  unfold ldN
  split
  · rename_i h
    have := (hopB_iff _ _ _).1 h
    omega
  · omega
theorem iMove_any (v : Value) (n : Nat) (z : Nat → Int) (C d : Int) (w : World) (h : IntsR w v n z) (hn : n ≤ 1048576) :
    Calls Try.prog 18 #[v, .int .i64 C, .int .i64 d] w fun e w' => ∃ u, e = .returned (.tuple #[u, .bool (mvB n z C d)]) ∧ OF w' w.heap.size u (mvN n z C d) (mvF z C d) ∧ Below w.heap.size w w' := by
  have hv := fun w h => iHops_any v n z C w h hn
  have hno := @mv_no n z C d
  have hB : mvB n z C d = (hopB n z C && mvD d) := rfl
  have HR := Lib.hid h
  cases hH : hopB n z C with
  | false =>
    rw [hH] at hv hB
    rw [hno hB, hB]
    have HV := Lib.hid hv
    clear hv hno hH hB h
    go_enter Try.func18, Try.ntmps18
    go_wp2_with fail
    refine (HV.out _ HR.out).mono ?_
    rintro e w' ⟨rfl, rfl⟩
    go_wp2
    go_ret2
    exact ⟨_, rfl, OF.nil _ _ _, Below.refl _ _⟩
  | true =>
    rw [hH] at hv hB
    have HV := Lib.hid hv
    by_cases hd : -16 ≤ d ∧ d ≤ 16
    · obtain ⟨⟨c1, c2⟩, n3, hz⟩ := (hopB_iff n z C).1 hH
      rw [(mvD_iff d).2 hd] at hB
      have hN : mvN n z C d = n := by unfold mvN; rw [hB]; rfl
      rw [hN, hB]
      obtain ⟨c, rfl⟩ : ∃ c : Nat, C = c := ⟨C.toNat, by omega⟩
      obtain ⟨a, cap, rfl, hc⟩ := h
      have HC := Lib.hid hc
      have HZ := Lib.hid hz
      have HM := Lib.hid (fun k w => modulo_any k c w (by omega) (by omega))
      have hmk := make_ints n (by omega)
      have l1 : ¬ (d < -16) := by omega
      have l2 : ¬ ((16 : Int) < d) := by omega
      obtain ⟨d1, d2⟩ := hd
      have hc1 : 1 ≤ c := by omega
      have hc2 : c ≤ 16 := by omega
      clear hv hno hH hB hN hc hz c1 c2
      go_enter Try.func18, Try.ntmps18
      go_wp2_with fail
      refine (HV.out _ HR.out).mono ?_
      rintro e w' ⟨rfl, rfl⟩
      go_wp2
      go_loopw [28] (fun t wr => ∃ i : Nat, i ≤ n ∧ t = .int .i64 i ∧ OF wr w.heap.size (.slice (some ⟨w.heap.size, 0, none⟩) n n) n (fun j => if j < i then mvF z c d j else 0) ∧ Below w.heap.size w wr) (fun t _ => n - (intOf t).toNat)
      case atStart => exact ⟨0, by omega, rfl, (OF.made w n (by omega)).congr (fun j _ => by simp), (Below.refl _ _).alloc (Nat.le_refl _) _⟩
      case round =>
        obtain ⟨i, hi, rfl, rO, rb⟩ := hrel
        clear hmk HR HV
        by_cases hlt : i < n
        · obtain ⟨x, rfl, hx, hcc⟩ := HC.out i hlt
          have cz := (rb.cell (p := x.add i) (by rw [add_block]; exact hx)).trans hcc
          obtain ⟨y1, y2⟩ := HZ.out i hlt
          obtain ⟨c1, c2⟩ := rO.at i hlt
          have hm := fun w => HM.out (z i + d) w
          have he : mvF z c d i = ((modN (z i + d) c : Nat) : Int) := rfl
          obtain ⟨Y, hY⟩ : ∃ Y, z i = Y := ⟨_, rfl⟩
          rw [hY] at cz y1 y2 hm he
          obtain ⟨R, hR⟩ : ∃ R, modN (Y + d) c = R := ⟨_, rfl⟩
          rw [hR] at hm he
          have HMM := Lib.hid hm
          have i0 : (0 : Int) ≤ (i : Int) := by omega
          have i1 : (i : Int) < (n : Int) := by omega
          have u1 : IntKind.i64.wrap (Y + d) = Y + d := IntWalk.i64_in _ (by omega)
          have nO : Hid (OF (wr.setCell ⟨w.heap.size, i, none⟩ (.int .i64 (R : Int))) w.heap.size (.slice (some ⟨w.heap.size, 0, none⟩) n n) n (fun j => if j < i + 1 then mvF z c d j else 0)) :=
            Lib.hid (rO.set i (R : Int) hlt (fun j hj => by
              by_cases e : j = i
              · subst e; rw [if_pos (by omega), if_pos rfl]; exact he
              · rw [if_neg e]
                by_cases e' : j < i
                · rw [if_pos (by omega), if_pos e']
                · rw [if_neg (by omega), if_neg e']))
          have nb : Hid (Below w.heap.size w (wr.setCell ⟨w.heap.size, i, none⟩ (.int .i64 (R : Int)))) := Lib.hid (rb.setCell (p := ⟨w.heap.size, i, none⟩) (Nat.le_refl _) _)
          clear rO rb he hR hY hm hcc hx
          go_wp2_with fail
          refine (HMM.out _).mono ?_
          rintro e w' ⟨rfl, rfl⟩
          go_wp2
          go_roundw
          case rel => exact ⟨i + 1, by omega, by go_num, nO.out, nb.out⟩
          case measure => simp [intOf]; omega
        · obtain rfl : i = n := by omega
          have nO := Lib.hid (rO.congr (g := mvF z c d) (fun j hj => by rw [if_pos hj]))
          clear rO
          go_wp2
          go_ret2
          exact ⟨_, rfl, nO.out, rb⟩
    · have hD : mvD d = false := by rw [Bool.eq_false_iff]; intro h; exact hd ((mvD_iff d).1 h)
      rw [hD] at hB
      rw [hno hB, hB]
      clear hv hno hH hB hD h
      by_cases h1 : -16 ≤ d
      · have l1 : ¬ (d < -16) := by omega
        have l2 : ((16 : Int) < d) := by omega
        go_enter Try.func18, Try.ntmps18
        go_wp2_with fail
        refine (HV.out _ HR.out).mono ?_
        rintro e w' ⟨rfl, rfl⟩
        go_wp2
        go_ret2
        exact ⟨_, rfl, OF.nil _ _ _, Below.refl _ _⟩
      · have l1 : (d < -16) := by omega
        go_enter Try.func18, Try.ntmps18
        go_wp2_with fail
        refine (HV.out _ HR.out).mono ?_
        rintro e w' ⟨rfl, rfl⟩
        go_wp2
        go_ret2
        exact ⟨_, rfl, OF.nil _ _ _, Below.refl _ _⟩
theorem iLoad_any (v : Value) (n : Nat) (z : Nat → Int) (C : Int) (w : World) (h : IntsR w v n z) (hn : n ≤ 1048576) :
    Calls Try.prog 13 #[v, .int .i64 C] w fun e w' => ∃ u, e = .returned u ∧ OF w' w.heap.size u (ldN n z C) (ldF n z) ∧ Below w.heap.size w w' := by
  have hv := fun w h => iHops_any v n z C w h hn
  have HR := Lib.hid h
  unfold ldN
  cases hH : hopB n z C with
  | false =>
    rw [hH] at hv
    have HV := Lib.hid hv
    clear hv hH h
    go_enter Try.func13, Try.ntmps13
    go_wp2_with fail
    refine (HV.out _ HR.out).mono ?_
    rintro e w' ⟨rfl, rfl⟩
    go_wp2
    go_ret
    exact ⟨_, rfl, OF.nil _ _ _, Below.refl _ _⟩
  | true =>
    rw [hH] at hv
    have HV := Lib.hid hv
    obtain ⟨⟨c1, c2⟩, n3, hz⟩ := (hopB_iff n z C).1 hH
    obtain ⟨c, rfl⟩ : ∃ c : Nat, C = c := ⟨C.toNat, by omega⟩
    obtain ⟨a, cap, rfl, hc⟩ := h
    have HC := Lib.hid hc
    have HZ := Lib.hid hz
    have HL := Lib.hid (fun y k => ldC_le z y k)
    have hmk := make_ints c (by omega)
    have hc1 : 1 ≤ c := by omega
    have hc2 : c ≤ 16 := by omega
    clear hv hH hc hz c1 c2
    simp only [Int.toNat_natCast, if_true]
    go_enter Try.func13, Try.ntmps13
    go_wp2_with fail
    refine (HV.out _ HR.out).mono ?_
    rintro e w' ⟨rfl, rfl⟩
    go_wp2
    go_loopw [16] (fun t wr => ∃ i : Nat, i ≤ n ∧ t = .int .i64 i ∧ OF wr w.heap.size (.slice (some ⟨w.heap.size, 0, none⟩) c c) c (ldF i z) ∧ Below w.heap.size w wr) (fun t _ => n - (intOf t).toNat)
    case atStart => exact ⟨0, by omega, rfl, (OF.made w c (by omega)).congr (fun j _ => rfl), (Below.refl _ _).alloc (Nat.le_refl _) _⟩
    case round =>
      obtain ⟨i, hi, rfl, rO, rb⟩ := hrel
      clear hmk HR HV
      by_cases hlt : i < n
      · obtain ⟨x, rfl, hx, hcc⟩ := HC.out i hlt
        have cz := (rb.cell (p := x.add i) (by rw [add_block]; exact hx)).trans hcc
        obtain ⟨y1, y2⟩ := HZ.out i hlt
        have hst : ∀ j : Nat, ldF (i + 1) z j = ldF i z j + (if z i = (j : Int) then 1 else 0) := fun j => by
          unfold ldF; simp only [ldC]; split <;> omega
        obtain ⟨Y, hY⟩ : ∃ Y, z i = Y := ⟨_, rfl⟩
        rw [hY] at cz y1 y2 hst
        obtain ⟨y, rfl⟩ : ∃ y : Nat, Y = y := ⟨Y.toNat, by omega⟩
        have hyc : y < c := by omega
        obtain ⟨c1, c2⟩ := rO.at y hyc
        have hl := HL.out (y : Int) i
        have hf : ldF i z y = ((ldC z (y : Int) i : Nat) : Int) := rfl
        obtain ⟨L, hL⟩ : ∃ L, ldC z (y : Int) i = L := ⟨_, rfl⟩
        rw [hL] at hl hf
        rw [hf] at c1
        have i0 : (0 : Int) ≤ (i : Int) := by omega
        have i1 : (i : Int) < (n : Int) := by omega
        have i2 : (0 : Int) ≤ (y : Int) := by omega
        have u1 : IntKind.i64.wrap ((L : Int) + 1) = (L : Int) + 1 := IntWalk.i64_in _ (by omega)
        have nO : Hid (OF (wr.setCell ⟨w.heap.size, y, none⟩ (.int .i64 ((L : Int) + 1))) w.heap.size (.slice (some ⟨w.heap.size, 0, none⟩) c c) c (ldF (i + 1) z)) :=
          Lib.hid (rO.set y ((L : Int) + 1) hyc (fun j hj => by
            rw [hst]
            by_cases e : j = y
            · subst e; rw [if_pos rfl, if_pos rfl, hf]
            · rw [if_neg e, if_neg (by omega)]; omega))
        have nb : Hid (Below w.heap.size w (wr.setCell ⟨w.heap.size, y, none⟩ (.int .i64 ((L : Int) + 1)))) := Lib.hid (rb.setCell (p := ⟨w.heap.size, y, none⟩) (Nat.le_refl _) _)
        clear rO rb hst hY hcc hx hf hL
        go_wp2
        go_roundw
        case rel => exact ⟨i + 1, by omega, by go_num, nO.out, nb.out⟩
        case measure => simp [intOf]; omega
      · obtain rfl : i = n := by omega
        go_wp2
        go_ret
        exact ⟨_, rfl, rO, rb⟩
theorem sLoad_any (v : Value) (n : Nat) (z : Nat → Int) (C : Int) (w : World) (h : IntsR w v n z) (hn : n ≤ 1048576) :
    Calls Try.prog 15 #[v, .int .i64 C] w fun e w' => ∃ u, e = .returned u ∧ OF w' w.heap.size u (ldN n z C) (ldF n z) ∧ Below w.heap.size w w' := by
  have hv := fun w h => sHops_any v n z C w h hn
  have HR := Lib.hid h
  unfold ldN
  cases hH : hopB n z C with
  | false =>
    rw [hH] at hv
    have HV := Lib.hid hv
    clear hv hH h
    go_enter Try.func15, Try.ntmps15
    go_wp2_with fail
    refine (HV.out _ HR.out).mono ?_
    rintro e w' ⟨rfl, rfl⟩
    go_wp2
    go_ret
    exact ⟨_, rfl, OF.empty0 w _, (Below.refl _ _).alloc (Nat.le_refl _) _⟩
  | true =>
    rw [hH] at hv
    have HV := Lib.hid hv
    obtain ⟨⟨c1, c2⟩, n3, hz⟩ := (hopB_iff n z C).1 hH
    obtain ⟨c, rfl⟩ : ∃ c : Nat, C = c := ⟨C.toNat, by omega⟩
    obtain ⟨a, cap, rfl, hc⟩ := h
    have HC := Lib.hid hc
    have HZ := Lib.hid hz
    have HL := Lib.hid (fun y k => ldC_le z y k)
    have hmk := make_ints c (by omega)
    have hc1 : 1 ≤ c := by omega
    have hc2 : c ≤ 16 := by omega
    clear hv hH hc hz c1 c2
    simp only [Int.toNat_natCast, if_true]
    go_enter Try.func15, Try.ntmps15
    go_wp2_with fail
    refine (HV.out _ HR.out).mono ?_
    rintro e w' ⟨rfl, rfl⟩
    go_wp2
    go_loopw [6] (fun t wr => ∃ i : Nat, i ≤ n ∧ t = .int .i64 i ∧ OF wr w.heap.size (.slice (some ⟨w.heap.size, 0, none⟩) c c) c (ldF i z) ∧ Below w.heap.size w wr) (fun t _ => n - (intOf t).toNat)
    case atStart => exact ⟨0, by omega, rfl, (OF.made w c (by omega)).congr (fun j _ => rfl), (Below.refl _ _).alloc (Nat.le_refl _) _⟩
    case round =>
      obtain ⟨i, hi, rfl, rO, rb⟩ := hrel
      clear hmk HR HV
      by_cases hlt : i < n
      · obtain ⟨x, rfl, hx, hcc⟩ := HC.out i hlt
        have cz := (rb.cell (p := x.add i) (by rw [add_block]; exact hx)).trans hcc
        obtain ⟨y1, y2⟩ := HZ.out i hlt
        have hst : ∀ j : Nat, ldF (i + 1) z j = ldF i z j + (if z i = (j : Int) then 1 else 0) := fun j => by
          unfold ldF; simp only [ldC]; split <;> omega
        obtain ⟨Y, hY⟩ : ∃ Y, z i = Y := ⟨_, rfl⟩
        rw [hY] at cz y1 y2 hst
        obtain ⟨y, rfl⟩ : ∃ y : Nat, Y = y := ⟨Y.toNat, by omega⟩
        have hyc : y < c := by omega
        obtain ⟨c1, c2⟩ := rO.at y hyc
        have hl := HL.out (y : Int) i
        have hf : ldF i z y = ((ldC z (y : Int) i : Nat) : Int) := rfl
        obtain ⟨L, hL⟩ : ∃ L, ldC z (y : Int) i = L := ⟨_, rfl⟩
        rw [hL] at hl hf
        rw [hf] at c1
        have i0 : (0 : Int) ≤ (i : Int) := by omega
        have i1 : (i : Int) < (n : Int) := by omega
        have i2 : (0 : Int) ≤ (y : Int) := by omega
        have i3 : (y : Int) < (c : Int) := by omega
        have u1 : IntKind.i64.wrap ((L : Int) + 1) = (L : Int) + 1 := IntWalk.i64_in _ (by omega)
        have nO : Hid (OF ((wr.setCell ⟨w.heap.size, y, none⟩ (.int .i64 ((L : Int) + 1))).drew) w.heap.size (.slice (some ⟨w.heap.size, 0, none⟩) c c) c (ldF (i + 1) z)) :=
          Lib.hid (OF.drewN (m := 1) (rO.set y ((L : Int) + 1) hyc (fun j hj => by
            rw [hst]
            by_cases e : j = y
            · subst e; rw [if_pos rfl, if_pos rfl, hf]
            · rw [if_neg e, if_neg (by omega)]; omega)))
        have nb : Hid (Below w.heap.size w (wr.setCell ⟨w.heap.size, y, none⟩ (.int .i64 ((L : Int) + 1))).drew) := Lib.hid (rb.setCell (p := ⟨w.heap.size, y, none⟩) (Nat.le_refl _) _).drew
        clear rO rb hst hY hcc hx hf hL
        go_wp2_with fail
        go_region
        go_wp2
        go_roundw
        case rel => exact ⟨i + 1, by omega, by go_num, nO.out, nb.out⟩
        case measure => simp [intOf]; omega
      · obtain rfl : i = n := by omega
        go_wp2
        go_ret
        exact ⟨_, rfl, rO, rb⟩
end Go.Proofs.Ytbllmgdnhjdphac
