/- Contracts of the draws of users. -/
import Derived.Test.YthfcfnamaedffaaDrawUser
import Derived.Test.YthfcfnamaedffaaSnd
import Derived.Laws.Rows
namespace Go.Proofs.Ythfcfnamaedffaa
open Go.RowKit
set_option linter.unusedVariables false
set_option maxRecDepth 100000
theorem results_tmp4 {fn : Func} {t u v x : Tmp} (h : fn.results = #[.tmp t, .tmp u, .tmp v, .tmp x]) (tmps : Array Value) (P : Program) (w : World) :
    (results fn tmps).run P w = .ok (.tuple #[tmps.getD t undef, tmps.getD u undef, tmps.getD v undef, tmps.getD x undef]) w := by
  simp [results, h]
/-- Bits were drawn: at most m. -/
def BitPost (m b p : Nat) (zs : List Int) (w : World) (e : Ending) (w' : World) : Prop :=
  ∃ (z : ByteArray) (q : Nat), e = .returned (.string z) ∧ okB z z.size = true ∧ z.size ≤ m ∧ q ≤ p + 100 ∧ RdAt w' b q zs ∧ w.grownBy w' (some b)
set_option maxHeartbeats 800000 in
theorem l1String_bits (b p m : Nat) (zs : List Int) (w : World) (hr : RdAt w b p zs) (hp : p ≤ 900000) (hm : m ≤ 90) :
    Calls Try.prog 110 #[.pointer (some ⟨b, 0, none⟩), .int .i64 m] w (BitPost m b p zs w) := by
  have hmk := make_bytes_cap m (by omega)
  have hbl := hr.1
  have hr0 := hr.alloc (.cells (madeCells #[.int .u8 0] m) 5)
  have hO := BO.made0 w m (fun _ => 48) (by omega)
  have hg0 := World.grownBy_alloc w (.cells (madeCells #[.int .u8 0] m) 5) (some b)
  go_enter Try.func110, Try.ntmps110
  go_wp2_with fail
  have hm1 : (m : Int) + 1 = ((m + 1 : Nat) : Int) := by omega
  rw [hm1]
  clear hm1 hmk
  refine (pick_any b p (m + 1) zs _ hr0 (by omega) (by omega) (by omega)).mono ?_
  rintro e w1 ⟨k, hk, rfl, hr1, hg1⟩
  have hO1 := hO.kept hg1 (.inr (by simp [Value.ownBlock]; omega))
  have hg1' := hg0.trans hg1
  have hz1 : w.heap.size < w1.heap.size := by have := hg1.size; simp at this; omega
  clear hr hr0 hO hg0 hg1
  go_wp2
  go_loopw [5, 6] (fun v i wr => ∃ (j n : Nat) (f : Nat → Nat), n + j ≤ m ∧ i = .int .i64 j ∧ v = .slice (some ⟨w.heap.size, 0, none⟩) n m ∧ BO wr w.heap.size (.slice (some ⟨w.heap.size, 0, none⟩) n m) n f ∧ Hid (∀ t, t < n → f t = 48 ∨ f t = 49) ∧ RdAt wr b (p + 1 + n) zs ∧ w.grownBy wr (some b) ∧ w.heap.size < wr.heap.size) (fun _ i _ => (intOf i).toNat)
  case atStart => exact ⟨k, 0, _, by omega, rfl, rfl, hO1, Lib.hid (fun t ht => absurd ht (Nat.not_lt_zero t)), hr1, hg1', hz1⟩
  case round =>
    obtain ⟨j, n, f, hjn, rfl, rfl, rO, rF, rR, rg, rz⟩ := hrel
    clear hO1 hr1 hg1' hz1
    by_cases h0 : 0 < j
    · go_wp2_with fail
      refine (pick_any b (p + 1 + n) 2 zs _ rR (by omega) (by omega) (by omega)).mono ?_
      rintro e w2 ⟨k2, hk2, rfl, hr2, hg2⟩
      have hO2 := rO.kept hg2 (.inr (by simp [Value.ownBlock]; omega))
      have hgg := rg.trans hg2
      have hsz : w.heap.size < w2.heap.size := Nat.lt_of_lt_of_le rz hg2.size
      have u1 : IntKind.u8.wrap (48 + (k2 : Int)) = ((48 + k2 : Nat) : Int) := by rw [show (48 : Int) + (k2 : Int) = ((48 + k2 : Nat) : Int) by omega]; exact IntWalk.u8_in _ (by omega)
      have HF : Hid (∀ t, t < n + 1 → (if t < n then f t else 48 + k2) = 48 ∨ (if t < n then f t else 48 + k2) = 49) := Lib.hid (fun t ht => by
        by_cases e : t < n
        · rw [if_pos e]; exact rF.out t e
        · rw [if_neg e]; omega)
      clear rO rR rg hg2 rF rz
      go_wp2_with (at_builtin; refine wpList_append_bfit rfl _ _ rfl w.heap.size w.heap.size n m _ rfl (hO2.alloc _) w2.heap.size 1 (48 + k2) rfl ?c1 ?c2 ?_; rotate_left 2; intro w' O3 g3)
      case c1 => simp
      case c2 => omega
      have hr3 : RdAt w' b (p + 1 + n + 1) zs := (hr2.alloc _).kept g3 (fun q hq => by cases hq; exact hbl)
      have hg3 : w.grownBy w' (some b) := grown_own (hgg.trans (World.grownBy_alloc w2 _ (some b))) g3 (fun q hq => by cases hq; exact Nat.le_refl _)
      have hz3 : w.heap.size < w'.heap.size := by have := g3.size; simp at this; omega
      clear hO2 hr2 hgg g3 u1 hsz
      go_wp2
      go_roundw
      case rel => exact ⟨j - 1, n + 1, _, by omega, by rw [show ((j - 1 : Nat) : Int) = (j : Int) - 1 by omega], rfl, O3, HF, hr3, hg3, hz3⟩
      case measure => simp [intOf]; omega
    · obtain rfl : j = 0 := by omega
      have hst := rO.text
      have hok : Hid (okB (strF n f) (strF n f).size = true ∧ (strF n f).size = n) := Lib.hid ⟨okB_of_zb _ fun i hi => by
        rw [strF_size] at hi
        have := rF.out i hi
        rw [zb_strF hi (by omega)]; exact this, strF_size _ _⟩
      obtain ⟨z, hz⟩ : ∃ z, strF n f = z := ⟨_, rfl⟩
      rw [hz] at hst hok
      clear hz rF
      go_wp2
      go_ret
      exact ⟨z, p + 1 + n, rfl, hok.out.1, by have := hok.out.2; omega, by omega, rR, rg⟩
theorem UsrAt.kept {w w' : World} {b : Nat} {row : Option Nat} {c p : ByteArray} {g d : Int} (h : UsrAt w b c p g d) (hg : w.grownBy w' row) (hne : some b ≠ row) : UsrAt w' b c p g d :=
  ⟨hg.cell h.1 hne, hg.cell h.2.1 hne, hg.cell h.2.2.1 hne, hg.cell h.2.2.2.1 hne, Nat.lt_of_lt_of_le h.2.2.2.2 hg.size⟩
theorem frozen_new (w : World) (c : Array Value) (t : TypeId) (o : Nat) : (w.alloc (.cells c t)).frozen? ⟨w.heap.size, o, none⟩ = false :=
  frozen_of_row _ _ _ c t (by show (w.heap.push _)[w.heap.size]? = _; simp)
/-- What a drawn user looks like. -/
def DrU (u : Usr) : Prop := seqB u.code = true ∧ u.code.size ≤ 8 ∧ okB u.data u.data.size = true ∧ u.data.size ≤ 8 ∧ 1 ≤ u.gain ∧ u.gain ≤ 4 ∧ 0 ≤ u.delay ∧ u.delay ≤ 6
theorem DrU.ok {u : Usr} (h : DrU u) : u.ok = true := by
  obtain ⟨h1, h2, h3, h4, h5, h6, h7, h8⟩ := h
  refine (usrB_iff _ _ _ _).2 ⟨h1, (bits_iff _).2 ⟨h3, by omega⟩, ⟨by omega, by omega, h7, by omega⟩, ?_⟩
  have : u.data.size * u.code.size ≤ 8 * 8 := Nat.mul_le_mul h4 h2
  rw [← Int.natCast_mul]
  omega
theorem DrU.oks {f : Nat → Usr} : ∀ n, (∀ i, i < n → DrU (f i)) → okN f n = true
  | 0, _ => rfl
  | n + 1, h => by simp only [okN, Bool.and_eq_true]; exact ⟨DrU.oks n (fun i hi => h i (by omega)), (h n (by omega)).ok⟩
theorem DrU.len {u : Usr} (h : DrU u) : u.len ≤ 70 := by
  have : u.data.size * u.code.size ≤ 8 * 8 := Nat.mul_le_mul h.2.2.2.1 h.2.1
  have := h.2.2.2.2.2.2
  unfold Usr.len
  omega
theorem UF.empty0 (w : World) (f : Nat → Usr) : UF (w.alloc (.cells #[] 30)) w.heap.size (.slice (some ⟨w.heap.size, 0, none⟩) 0 0) 0 f := by
  refine ⟨by simp [usrL], .inr ⟨w.heap.size, 0, #[], rfl, Nat.le_refl _, ?_, Nat.le_refl _, by unfold maxLen; omega, rfl, rfl⟩⟩
  show (w.heap.push _)[w.heap.size]? = _
  simp
theorem usrL_snoc (n : Nat) (f : Nat → Usr) (u : Usr) : usrL n f ++ [.string u.code, .string u.data, .int .i64 u.gain, .int .i64 u.delay] = usrL (n + 1) (fun i => if i < n then f i else u) := by
  apply List.ext_getElem?
  intro t
  by_cases ht : t < n * 4
  · rw [List.getElem?_append_left (by rw [usrL_len]; exact ht), usrL_at ht, usrL_at (by omega), if_pos (by omega)]
  · rw [List.getElem?_append_right (by rw [usrL_len]; omega), usrL_len]
    by_cases h4 : t < n * 4 + 4
    · rw [usrL_at (by omega), if_neg (by omega)]
      have hj : t = n * 4 ∨ t = n * 4 + 1 ∨ t = n * 4 + 2 ∨ t = n * 4 + 3 := by omega
      rcases hj with rfl | rfl | rfl | rfl
      · rw [show n * 4 - n * 4 = 0 by omega, show n * 4 % 4 = 0 by omega]; rfl
      · rw [show n * 4 + 1 - n * 4 = 1 by omega, show (n * 4 + 1) % 4 = 1 by omega]; rfl
      · rw [show n * 4 + 2 - n * 4 = 2 by omega, show (n * 4 + 2) % 4 = 2 by omega]; rfl
      · rw [show n * 4 + 3 - n * 4 = 3 by omega, show (n * 4 + 3) % 4 = 3 by omega]; rfl
    · rw [List.getElem?_eq_none (by simp; omega), List.getElem?_eq_none (by rw [usrL_len]; omega)]
theorem user_info : (Try.prog.info? 30).map (fun i => (i.zero, i.size, i.bytes)) = some (some (.agg #[.string ⟨#[]⟩, .string ⟨#[]⟩, .int .i64 0, .int .i64 0]), 4, 48) := by kernel_rfl
theorem wpList_append_user {w : World} {ops : Array Oper} {rest : List Oper} {o : Oper} {a : Act} {Q : Exit → Act → World → Prop} (hgd : o.guard = none) (s x : Operand)
    (ho : o.op = .call { callee := .builtin .append, args := #[s, x], argTypes := #[23, 23] }) (B : Nat) (v : Value) (n : Nat) (f : Nat → Usr) (hs : a.eval s = v) (hown : UF w B v n f)
    (ad c : Nat) (u : Usr) (hx : a.eval x = .slice (some ⟨ad, 0, none⟩) 1 c) (hc : UsrCells w ad 0 u) (hn : n ≤ 1000000) (hB : B ≤ w.heap.size)
    (h : ∀ v' w', UF w' B v' (n + 1) (fun i => if i < n then f i else u) → w.grownBy w' v.ownBlock → wpList Try.prog ops Q rest (a.put o.dst v') w') : wpList Try.prog ops Q (o :: rest) a w := by
  obtain ⟨i0, hi, hzz⟩ := Option.map_eq_some_iff.1 user_info
  simp only [Prod.mk.injEq] at hzz
  obtain ⟨hz, hsz, hby⟩ := hzz
  obtain ⟨c0, c1, c2, c3⟩ := hc
  have e : ∀ j, (⟨ad, 0, none⟩ : Addr).add j = ⟨ad, j, none⟩ := fun j => by unfold Addr.add; split <;> simp_all
  refine wpList_append_own w hgd s x 23 ho B 30 i0 _ 4 48 (by kernel_rfl) hi hz hsz hby rfl (by decide) v n _ hs hown ⟨ad, 0, none⟩ 1 c [.string u.code, .string u.data, .int .i64 u.gain, .int .i64 u.delay] hx rfl ?_ ?_ ?_ ?_ hB ?_
  · intro j y hj
    rw [e]
    match j, hj with
    | 0, hj => simp at hj; subst hj; exact c0
    | 1, hj => simp at hj; subst hj; exact c1
    | 2, hj => simp at hj; subst hj; exact c2
    | 3, hj => simp at hj; subst hj; exact c3
    | j + 4, hj => simp at hj
  · intro y hy
    simp at hy
    rcases hy with rfl | rfl | rfl | rfl <;> rfl
  · unfold maxLen; omega
  · omega
  · intro v' w' h1 h2 _
    refine h v' w' ?_ h2
    unfold UF
    rw [← usrL_snoc]; exact h1
set_option maxHeartbeats 1600000 in
theorem l4User_any (b p : Nat) (code : ByteArray) (zs : List Int) (w : World) (hr : RdAt w b p zs) (hp : p ≤ 700000) :
    Calls Try.prog 84 #[.pointer (some ⟨b, 0, none⟩), .string code] w fun e w' => ∃ (D : ByteArray) (g d : Int) (q : Nat), e = .returned (.agg #[.string code, .string D, .int .i64 g, .int .i64 d]) ∧ okB D D.size = true ∧ D.size ≤ 8 ∧ 1 ≤ g ∧ g ≤ 4 ∧ 0 ≤ d ∧ d ≤ 6 ∧ q ≤ p + 110 ∧ RdAt w' b q zs ∧ w.grownBy w' (some b) := by
  have hbl := hr.1
  have u0 := UsrAt.new w 30 ⟨#[]⟩ ⟨#[]⟩ 0 0
  have F0 := Lib.hid (fun o => frozen_new w #[.string ⟨#[]⟩, .string ⟨#[]⟩, .int .i64 0, .int .i64 0] 30 o)
  have r0 := hr.alloc (.cells #[.string ⟨#[]⟩, .string ⟨#[]⟩, .int .i64 0, .int .i64 0] 30)
  have g0 := World.grownBy_alloc w (.cells #[.string ⟨#[]⟩, .string ⟨#[]⟩, .int .i64 0, .int .i64 0] 30) (some b)
  clear hr
  go_enter Try.func84, Try.ntmps84
  go_wp2_with fail
  refine (l1String_bits b p 8 zs _ r0 (by omega) (by omega)).mono ?_
  rintro e w1 ⟨D, q, rfl, hD, hD8, hq, r1, h1⟩
  have g1 := g0.trans h1
  have u1 := u0.kept h1 (by simp; omega)
  have F1 := Lib.hid (fun o => frozen_kept' (F0.out o) u0.2.2.2.2 h1 (by simp; omega))
  clear r0 g0 u0 F0 h1
  go_wp2_with fail
  refine (pick_any b q 4 zs _ r1 (by omega) (by omega) (by omega)).mono ?_
  rintro e w2 ⟨k2, hk2, rfl, r2, h2⟩
  have g2 := g1.trans h2
  have u2 := u1.kept h2 (by simp; omega)
  have F2 := Lib.hid (fun o => frozen_kept' (F1.out o) u1.2.2.2.2 h2 (by simp; omega))
  clear r1 g1 u1 F1 h2
  go_wp2_with fail
  refine (pick_any b (q + 1) 3 zs _ r2 (by omega) (by omega) (by omega)).mono ?_
  rintro e w3 ⟨k3, hk3, rfl, r3, h3⟩
  have g3 := g2.trans h3
  have u3 := u2.kept h3 (by simp; omega)
  have F3 := Lib.hid (fun o => frozen_kept' (F2.out o) u2.2.2.2.2 h3 (by simp; omega))
  clear r2 g2 u2 F2 h3
  go_wp2_with fail
  refine (pick_any b (q + 1 + 1) 4 zs _ r3 (by omega) (by omega) (by omega)).mono ?_
  rintro e w4 ⟨k4, hk4, rfl, r4, h4⟩
  have g4 := g3.trans h4
  obtain ⟨d0, d1, d2, d3, d4⟩ := u3.kept h4 (by simp; omega)
  have f0 := frozen_kept' (F3.out 0) u3.2.2.2.2 h4 (by simp; omega)
  have f1 := frozen_kept' (F3.out 1) u3.2.2.2.2 h4 (by simp; omega)
  have f2 := frozen_kept' (F3.out 2) u3.2.2.2.2 h4 (by simp; omega)
  have f3 := frozen_kept' (F3.out 3) u3.2.2.2.2 h4 (by simp; omega)
  have hP6 : k3 * k4 ≤ 2 * 3 := Nat.mul_le_mul (by omega) (by omega)
  obtain ⟨P, hP⟩ : ∃ P, k3 * k4 = P := ⟨_, rfl⟩
  have hPI : (k3 : Int) * (k4 : Int) = (P : Int) := by rw [← hP, Int.natCast_mul]
  rw [hP] at hP6
  clear r3 g3 u3 F3 h4 hP
  go_wp2
  refine bodyPost_ret (v := .agg #[.string code, .string D, .int .i64 (1 + (k2 : Int)), .int .i64 (P : Int)]) (by simp [results, Try.results84, go_sem, d0, d1, d2, d3]) rfl ?_
  have q3 := grown4 (w := w4) (g := w.heap.size) 0 1 2 3 (.string code) (.string D) (.int .i64 (1 + (k2 : Int))) (.int .i64 (P : Int))
  exact ⟨D, 1 + (k2 : Int), P, q + 1 + 1 + 1, rfl, hD, hD8, by omega, by omega, by omega, by omega, by omega, r4.kept q3 (fun k e => by cases e; exact hbl), grown_own g4 q3 (fun j e => by cases e; exact Nat.le_refl _)⟩
end Go.Proofs.Ythfcfnamaedffaa
