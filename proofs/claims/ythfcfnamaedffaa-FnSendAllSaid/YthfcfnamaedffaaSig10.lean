/- SpreadBits of both sides. -/
import Derived.Test.YthfcfnamaedffaaSig4
import Derived.Test.YthfcfnamaedffaaSeqFun3
import Derived.Laws.OwnMore
namespace Go.Proofs.Ythfcfnamaedffaa
open Go.RowKit
set_option linter.unusedVariables false
set_option maxRecDepth 100000
theorem wpList_append_fit {w : World} {ops : Array Oper} {rest : List Oper} {o : Oper} {a : Act} {Q : Exit → Act → World → Prop} (hgd : o.guard = none) (s x : Operand)
    (ho : o.op = .call { callee := .builtin .append, args := #[s, x], argTypes := #[25, 25] }) (B g n cap : Nat) (f : Nat → Int) (hs : a.eval s = .slice (some ⟨g, 0, none⟩) n cap) (hown : OF w B (.slice (some ⟨g, 0, none⟩) n cap) n f)
    (ad c : Nat) (y : Int) (hx : a.eval x = .slice (some ⟨ad, 0, none⟩) 1 c) (hc : w.cell? ⟨ad, 0, none⟩ = some (.int .i64 y)) (hroom : n + 1 ≤ cap)
    (h : ∀ w', OF w' B (.slice (some ⟨g, 0, none⟩) (n + 1) cap) (n + 1) (fun j => if j < n then f j else y) → w.grownBy w' (some g) → wpList Try.prog ops Q rest (a.put o.dst (.slice (some ⟨g, 0, none⟩) (n + 1) cap)) w') : wpList Try.prog ops Q (o :: rest) a w := by
  obtain ⟨i0, hi, hzz⟩ := Option.map_eq_some_iff.1 ints_info
  simp only [Prod.mk.injEq] at hzz
  obtain ⟨hz, hsz, hby⟩ := hzz
  refine wpList_plain hgd fun _ hK => ?_
  obtain ⟨w', hr, h2, h3⟩ := run_append_fits (P := Try.prog) w B 25 o.type 3 i0 1 (by kernel_rfl) hi hsz g n cap _ hown ⟨ad, 0, none⟩ 1 c [.int .i64 y] rfl (by
    intro j u hj
    cases j with
    | zero => simp at hj; subst hj; exact hc
    | succ j => simp at hj) (by intro u hu; simp at hu; subst hu; rfl) hroom
  unfold Oper.wp execOp
  simp only [ho, resolve, invoke, builtin, Sem.run_bind, Sem.run_pure, Result.andThen_ok, List.map_toArray, List.map_cons, List.map_nil, hs, hx, hr]
  refine hK _ _ (h w' ?_ h3)
  unfold OF
  have e : ((List.range (n + 1)).map fun j => Value.int .i64 (if j < n then f j else y)) = ((List.range n).map fun j => Value.int .i64 (f j)) ++ [.int .i64 y] := by
    have e1 : (List.range n).map (fun j => Value.int .i64 (if j < n then f j else y)) = (List.range n).map (fun j => Value.int .i64 (f j)) := List.map_congr_left fun j hj => by rw [if_pos (List.mem_range.1 hj)]
    rw [List.range_succ, List.map_append, e1, List.map_cons, List.map_nil, if_neg (Nat.lt_irrefl n)]
  rw [e]; exact h2
theorem make_ints_cap (c : Nat) (h : c ≤ 1000000) (w : World) :
    (Instr.makeSlice 25 (.int .i64 0) (.int .i64 (c : Int))).run Try.prog w = .ok (.slice (some ⟨w.heap.size, 0, none⟩) 0 c) (w.alloc (.cells (madeCells #[.int .i64 0] c) 3)) := by
  obtain ⟨i0, hi, hzz⟩ := Option.map_eq_some_iff.1 ints_info
  simp only [Prod.mk.injEq] at hzz
  obtain ⟨hz, hsz, hby⟩ := hzz
  have hr := run_make (P := Try.prog) w 25 3 i0 (.int .i64 0) (by kernel_rfl) hi hz .i64 .i64 0 (c : Int) (by omega) (by omega) (by rw [hby]; omega) (by omega)
  simp only [Int.toNat_natCast, hsz, Nat.mul_one] at hr
  exact hr
theorem OF.made0 (w : World) (c : Nat) (f : Nat → Int) (h : c ≤ 1000000) : OF (w.alloc (.cells (madeCells #[.int .i64 0] c) 3)) w.heap.size (.slice (some ⟨w.heap.size, 0, none⟩) 0 c) 0 f := by
  refine ⟨by simp, .inr ⟨w.heap.size, c, madeCells #[.int .i64 0] c, rfl, Nat.le_refl _, ?_, Nat.zero_le _, by unfold maxLen; omega, by simp [madeCells], by simp⟩⟩
  show (w.heap.push _)[w.heap.size]? = _
  simp
theorem grown_any {w w' : World} (h : w.grownBy w' none) (row : Option Nat) : w.grownBy w' row := ⟨h.os, h.tape, h.output, h.size, fun k hk _ => h.block k hk (by simp)⟩
theorem grown_alloc (w : World) (o : Obj) (row : Option Nat) : w.grownBy (w.alloc o) row := grown_any (grown_of_below ((Below.refl w.heap.size w).alloc (Nat.le_refl _) o)) row
/-- The chips of data that is spread by a code of L bits. -/
def spF (p q : ByteArray) (L : Nat) (t : Nat) : Int := chF p (t / L) * chF q (t % L)
theorem spF_at (p q : ByteArray) (L i k : Nat) (hk : k < L) : spF p q L (i * L + k) = chF p i * chF q k := by
  unfold spF
  have e1 : (i * L + k) / L = i := by
    rw [Nat.mul_comm, Nat.mul_add_div (by omega), Nat.div_eq_of_lt hk, Nat.add_zero]
  have e2 : (i * L + k) % L = k := by
    rw [Nat.mul_comm, Nat.mul_add_mod, Nat.mod_eq_of_lt hk]
  rw [e1, e2]
theorem sp_room {i k L D P : Nat} (hP : D * L = P) (hi : i < D) (hk : k < L) : i * L + k + 1 ≤ P := by
  have h1 : (i + 1) * L ≤ D * L := Nat.mul_le_mul (by omega) (Nat.le_refl _)
  rw [Nat.add_mul, Nat.one_mul] at h1
  omega
theorem sgn_bd {a b : Int} (ha : a = 1 ∨ a = -1) (hb : b = 1 ∨ b = -1) : -1 ≤ a * b ∧ a * b ≤ 1 := by
  rcases ha with rfl | rfl <;> rcases hb with rfl | rfl <;> decide
def spOK (p q : ByteArray) : Bool := bitsB p && (seqB q && decide (p.size * q.size ≤ 3000))
theorem spOK_iff (p q : ByteArray) : spOK p q = true ↔ bitsB p = true ∧ seqB q = true ∧ p.size * q.size ≤ 3000 := by unfold spOK; simp only [Bool.and_eq_true, decide_eq_true_eq]
def spN (p q : ByteArray) : Nat := if spOK p q then p.size * q.size else 0
theorem spN_le6 (p q : ByteArray) : spN p q ≤ 1000000 := by
  unfold spN
  split
  · have := ((spOK_iff p q).1 (by assumption)).2.2; omega
  · omega
theorem sp_out {p q : ByteArray} (h : ¬ (bitsB p = true ∧ seqB q = true ∧ p.size * q.size ≤ 3000)) : spN p q = 0 ∧ spOK p q = false := by
  have : spOK p q = false := by
    cases hb : spOK p q with
    | false => rfl
    | true => exact absurd ((spOK_iff p q).1 hb) h
  exact ⟨by unfold spN; rw [this]; rfl, this⟩
theorem sp_in {p q : ByteArray} (h : bitsB p = true ∧ seqB q = true ∧ p.size * q.size ≤ 3000) : spN p q = p.size * q.size ∧ spOK p q = true := by
  have := (spOK_iff p q).2 h
  exact ⟨by unfold spN; rw [this]; rfl, this⟩
set_option maxHeartbeats 1600000 in
set_option maxRecDepth 100000 in
theorem iSpread_yes (p q : ByteArray) (w : World) (h1 : bitsB p = true) (h2 : seqB q = true) (h3 : p.size * q.size ≤ 3000) :
    Calls Try.prog 21 #[.string p, .string q] w fun e w' => ∃ u, e = .returned (.tuple #[u, .bool true]) ∧ OF w' w.heap.size u (p.size * q.size) (spF p q q.size) ∧ Below w.heap.size w w' := by
  obtain ⟨p1, p2⟩ := (bits_iff p).1 h1
  obtain ⟨q0, q1, q2⟩ := (seqB_iff q).1 h2
  have hb := fun w => bitsValid_any p w (by omega)
  rw [h1] at hb
  have HB := Lib.hid hb
  have HS := Lib.hid (fun w => iSequenceValid_yes q w h2)
  have HCQ := Lib.hid (fun w => iChips_yes q w q0 (by omega))
  have HCP := Lib.hid (fun w => iChips_yes p w p1 (by omega))
  have HXP := Lib.hid (fun k (h : k < p.size) => chF_bd p1 h)
  have HXQ := Lib.hid (fun k (h : k < q.size) => chF_bd q0 h)
  have HAT := Lib.hid (fun i k hk => spF_at p q q.size i k hk)
  clear hb h1 h2 p1 q0
  obtain ⟨L, hL⟩ : ∃ L, q.size = L := ⟨_, rfl⟩
  rw [hL] at HCQ HXQ HAT q1 q2 h3 ⊢
  have HL := Lib.hid hL
  obtain ⟨D, hD⟩ : ∃ D, p.size = D := ⟨_, rfl⟩
  rw [hD] at HCP HXP p2 h3 ⊢
  obtain ⟨P, hP⟩ : ∃ P, D * L = P := ⟨_, rfl⟩
  rw [hP] at h3 ⊢
  have hPi : (D : Int) * (L : Int) = (P : Int) := by rw [← hP, Int.natCast_mul]
  have HP := Lib.hid (fun i k hi hk => sp_room (i := i) (k := k) hP hi hk)
  have HPE := Lib.hid hP
  have hmk := make_ints_cap P (by omega)
  have l0 : ¬ ((3000 : Int) < (P : Int)) := by omega
  have HPB : Hid (P ≤ 3000) := Lib.hid h3
  clear hP
  go_enter Try.func21, Try.ntmps21
  go_wp2_with fail
  refine (HB.out _).mono ?_
  rintro e w' ⟨rfl, rfl⟩
  go_wp2_with fail
  refine (HS.out _).mono ?_
  rintro e w' ⟨rfl, rfl⟩
  go_wp2_with fail
  refine (HCQ.out _).mono ?_
  rintro e w1 ⟨vc, rfl, OC, b1⟩
  obtain ⟨ac, capc, rfl, hoc⟩ := OC.form
  obtain ⟨g, rfl, _, hg, hcells⟩ := hoc (by omega)
  have HG := Lib.hid hg
  have HCC := Lib.hid (fun k hk => (hcells k hk).1)
  have B1 := Lib.hid b1
  have M0 := Lib.hid (OF.made0 w1 P (spF p q L) (by have := HPB.out; omega))
  clear OC hoc hcells hg b1
  go_wp2_with fail
  refine (HCP.out _).mono ?_
  rintro e w2 ⟨vd, rfl, OD, b2⟩
  have hsz : (w1.alloc (.cells (madeCells #[.int .i64 0] P) 3)).heap.size = w1.heap.size + 1 := by simp
  obtain ⟨ad, capd, rfl, hod⟩ := OD.form
  have HCD : Hid (∀ k, k < D → ∃ x : Addr, ad = some x ∧ x.block ≠ w1.heap.size ∧ w2.cell? (x.add k) = some (.int .i64 (chF p k)) ∧ x.block < w2.heap.size) := Lib.hid (fun k hk => by
    obtain ⟨g2, rfl, h4, h5, h6⟩ := hod (by omega)
    refine ⟨_, rfl, by rw [hsz] at h4; show g2 ≠ _; omega, ?_, h5⟩
    have e : (⟨g2, 0, none⟩ : Addr).add k = ⟨g2, k, none⟩ := by unfold Addr.add; split <;> simp_all
    rw [e]; exact (h6 k hk).1)
  have M1 := Lib.hid (M0.out.below b2)
  have bb : Below w1.heap.size w1 w2 := below_then ((Below.refl w1.heap.size w1).alloc (Nat.le_refl _) (.cells (madeCells #[.int .i64 0] P) 3)) (by simp) b2
  have HC2 : Hid (∀ k, k < L → w2.cell? ⟨g, k, none⟩ = some (.int .i64 (chF q k))) := Lib.hid (fun k hk => (bb.cell (p := ⟨g, k, none⟩) HG.out).trans (HCC.out k hk))
  have HG2 : Hid (g ≠ w1.heap.size) := Lib.hid (by have := HG.out; omega)
  have BW := Lib.hid (below_then B1.out (Nat.le_refl _) bb)
  have HS1 : Hid (w.heap.size ≤ w1.heap.size) := Lib.hid B1.out.size
  clear OD b2 hod hsz bb HCC M0 HG
  go_wp2
  go_loopw [7, 39] (fun o t wr => ∃ i : Nat, i ≤ D ∧ t = .int .i64 i ∧ o = .slice (some ⟨w1.heap.size, 0, none⟩) (i * L) P ∧ OF wr w1.heap.size (.slice (some ⟨w1.heap.size, 0, none⟩) (i * L) P) (i * L) (spF p q L) ∧ w2.grownBy wr (some w1.heap.size)) (fun _ t _ => D - (intOf t).toNat)
  case atStart => exact ⟨0, by omega, rfl, by simp, by rw [Nat.zero_mul]; exact M1.out, ⟨rfl, rfl, rfl, Nat.le_refl _, fun _ _ _ => rfl⟩⟩
  case round =>
    obtain ⟨i, hi, rfl, rfl, rO, rg⟩ := hrel
    clear hmk
    by_cases hlt : i < D
    · obtain ⟨x, rfl, hx1, hx2, hx3⟩ := HCD.out i hlt
      have c0 := rg.cell hx2 (by rw [add_block]; intro e; injection e with e; exact hx1 e)
      have hX := HXP.out i hlt
      have hat := fun k hk => HAT.out i k hk
      have hroom := fun k hk => HP.out i k hlt hk
      have hnx : (i + 1) * L = i * L + L := by rw [Nat.add_mul, Nat.one_mul]
      obtain ⟨I, hI⟩ : ∃ I, i * L = I := ⟨_, rfl⟩
      rw [hI] at hat hroom hnx rO ⊢
      obtain ⟨X, hXe⟩ : ∃ X, chF p i = X := ⟨_, rfl⟩
      rw [hXe] at c0 hX hat
      have HX := Lib.hid hX
      have HATI := Lib.hid hat
      have HRM := Lib.hid hroom
      have HNX := Lib.hid hnx
      have i0 : (0 : Int) ≤ (i : Int) := by omega
      have i1 : (i : Int) < (D : Int) := by omega
      have R0 := Lib.hid rO
      have RG := Lib.hid rg
      clear hI hX hat hroom hnx hXe hx2 hx3 hx1 rO rg
      go_wp2
      go_loopw [7, 45] (fun o t wr2 => ∃ k : Nat, k ≤ L ∧ t = .int .i64 k ∧ o = .slice (some ⟨w1.heap.size, 0, none⟩) (I + k) P ∧ OF wr2 w1.heap.size (.slice (some ⟨w1.heap.size, 0, none⟩) (I + k) P) (I + k) (spF p q L) ∧ w2.grownBy wr2 (some w1.heap.size)) (fun _ t _ => L - (intOf t).toNat)
      case atStart => exact ⟨0, by omega, rfl, rfl, R0.out, RG.out⟩
      case round =>
        obtain ⟨k, hk, rfl, rfl, qO, qg⟩ := hrel
        by_cases hkl : k < L
        · have c1 := qg.cell (HC2.out k hkl) (by intro e; injection e with e; exact HG2.out e)
          have hC := HXQ.out k hkl
          obtain ⟨y1, y2⟩ := sgn_bd HX.out hC
          have hv := HATI.out k hkl
          have hr := HRM.out k hkl
          obtain ⟨C, hCe⟩ : ∃ C, chF q k = C := ⟨_, rfl⟩
          rw [hCe] at c1 y1 y2 hv
          obtain ⟨Y, hY⟩ : ∃ Y, X * C = Y := ⟨_, rfl⟩
          rw [hY] at y1 y2 hv
          have HV := Lib.hid hv
          have HR := Lib.hid hr
          have k0 : (0 : Int) ≤ (k : Int) := by omega
          have k1 : (k : Int) < (L : Int) := by omega
          clear hC hv hCe hr
          go_wp2_with (at_builtin; refine wpList_append_fit rfl (.tmp 49) (.tmp 53) rfl w1.heap.size w1.heap.size (I + k) P (spF p q L) rfl (qO.alloc _) wr.heap.size 1 Y rfl (by simp) HR.out ?_; intro w3 O3 g3; have O4 := Lib.hid (OF.congr (g := spF p q L) O3 (fun j hj => by by_cases e : j < I + k; (simp only [if_pos e]); (have e2 : j = I + k := by omega); (subst e2); (simp only [if_neg (Nat.lt_irrefl _)]); exact HV.out.symm)); have G4 := Lib.hid ((qg.trans (grown_alloc wr _ _)).trans g3); clear O3 g3 qO qg)
          go_roundw
          case rel => exact ⟨k + 1, by omega, by go_num, rfl, O4.out, G4.out⟩
          case measure => simp [intOf]; omega
        · obtain rfl : k = L := by omega
          have Q0 := Lib.hid qO
          have QG := Lib.hid qg
          clear qO qg
          go_wp2
          go_roundw
          case rel => exact ⟨i + 1, by omega, by go_num, by rw [HNX.out], by rw [HNX.out]; exact Q0.out, QG.out⟩
          case measure => simp [intOf]; omega
    · obtain rfl : i = D := by omega
      rw [HPE.out] at rO ⊢
      have R0 := Lib.hid (rO.mono HS1.out)
      have b3 : Below w.heap.size w wr := BW.out.grown rg BW.out.size (fun k hk => by injection hk with hk; rw [← hk]; exact HS1.out)
      clear rO rg
      go_wp2
      go_ret2
      exact ⟨_, rfl, R0.out, b3⟩
end Go.Proofs.Ythfcfnamaedffaa
