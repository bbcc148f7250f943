/- Slices of stations that grow: append of stations. -/
import Derived.Test.YtjnipbopimpggabStn
import Derived.Laws.AppendOwnNone
namespace Go.Proofs.Ytjnipbopimpggab
open Go.RowKit
set_option linter.unusedVariables false
set_option maxRecDepth 100000
theorem TF.empty0 (w : World) (f : Nat → Usr) : TF (w.alloc (.cells #[] 30)) w.heap.size (.slice (some ⟨w.heap.size, 0, none⟩) 0 0) 0 f := by
  refine ⟨by simp [usrL], .inr ⟨w.heap.size, 0, #[], rfl, Nat.le_refl _, ?_, Nat.le_refl _, by unfold maxLen; omega, rfl, rfl⟩⟩
  show (w.heap.push _)[w.heap.size]? = _
  simp
theorem TF.nil (w : World) (B : Nat) (f : Nat → Usr) : TF w B (.slice none 0 0) 0 f := World.ownsRow_nil w B _ 4
theorem usrL_app (n m : Nat) (f g : Nat → Usr) : usrL n f ++ usrL m g = usrL (n + m) (fun i => if i < n then f i else g (i - n)) := by
  apply List.ext_getElem?
  intro t
  by_cases ht : t < n * 4
  · rw [List.getElem?_append_left (by rw [usrL_len]; exact ht), usrL_at ht, usrL_at (by omega), if_pos (by omega)]
  · rw [List.getElem?_append_right (by rw [usrL_len]; omega), usrL_len]
    by_cases h4 : t < (n + m) * 4
    · rw [usrL_at (by omega), usrL_at h4, if_neg (by omega), show (t - n * 4) / 4 = t / 4 - n by omega, show (t - n * 4) % 4 = t % 4 by omega]
    · rw [List.getElem?_eq_none (by rw [usrL_len]; omega), List.getElem?_eq_none (by rw [usrL_len]; omega)]
theorem station_info : (Try.prog.info? 30).map (fun i => (i.zero, i.size, i.bytes)) = some (some (.agg #[.string ⟨#[]⟩, .string ⟨#[]⟩, .int .i64 0, .int .i64 0]), 4, 48) := by kernel_rfl
theorem usr_cell {w : World} {b o : Nat} {u : Usr} (h : UsrCells w b o u) (j : Nat) (hj : j < 4) : w.cell? ⟨b, o + j, none⟩ = some (u.at j) := by
  obtain ⟨c0, c1, c2, c3⟩ := h
  have : j = 0 ∨ j = 1 ∨ j = 2 ∨ j = 3 := by omega
  rcases this with rfl | rfl | rfl | rfl
  · exact c0
  · exact c1
  · exact c2
  · exact c3
theorem usr_at_cell (u : Usr) (j : Nat) : (u.at j).oneCell' = true := by
  unfold Usr.at
  split
  · rfl
  · split
    · rfl
    · split <;> rfl
theorem wp_append_stations {w : World} {o : Oper} {a : Act} {K : Act → World → Prop} {Q : Exit → Act → World → Prop} (s x : Operand)
    (ho : o.op = .call { callee := .builtin .append, args := #[s, x], argTypes := #[23, 23] }) (B : Nat) (v : Value) (n : Nat) (f : Nat → Usr) (hs : a.eval s = v) (hown : TF w B v n f)
    (ad : Addr) (m c : Nat) (g : Nat → Usr) (hx : a.eval x = .slice (some ad) m c) (hu : UsrsC w (.slice (some ad) m c) m g) (hn : n + m ≤ 1048576) (hB : B ≤ w.heap.size)
    (h : ∀ v' w', TF w' B v' (n + m) (fun i => if i < n then f i else g (i - n)) → w.grownBy w' v.ownBlock → K (a.put o.dst v') w') : Oper.wp Try.prog o a w K Q := by
  obtain ⟨i0, hi, hzz⟩ := Option.map_eq_some_iff.1 station_info
  simp only [Prod.mk.injEq] at hzz
  obtain ⟨hz, hsz, hby⟩ := hzz
  obtain ⟨a', c', e1, _, hc⟩ := hu
  injection e1 with e1 _ _
  subst e1
  refine wp_append_own w s x 23 ho B 30 i0 _ 4 48 (by kernel_rfl) hi hz hsz hby rfl (by decide) v n _ hs hown ad m c (usrL m g) hx (usrL_len _ _) ?_ ?_ ?_ ?_ hB ?_
  · intro j y hj
    by_cases hjm : j < m * 4
    · rw [usrL_at hjm] at hj
      simp at hj
      subst hj
      obtain ⟨b, p, e2, _, h3⟩ := hc (j / 4) (by omega)
      injection e2 with e2
      subst e2
      have := usr_cell h3 (j % 4) (by omega)
      rw [show p + j / 4 * 4 + j % 4 = p + j by omega] at this
      rw [show (⟨b, p, none⟩ : Addr).add j = ⟨b, p + j, none⟩ by unfold Addr.add; split <;> simp_all]
      exact this
    · rw [List.getElem?_eq_none (by rw [usrL_len]; omega)] at hj
      simp at hj
  · intro y hy
    unfold usrL at hy
    simp at hy
    obtain ⟨j, _, rfl⟩ := hy
    exact usr_at_cell _ _
  · unfold maxLen; omega
  · omega
  · intro v' w' h1 h2 _
    refine h v' w' ?_ h2
    unfold TF
    rw [← usrL_app]; exact h1
theorem wpList_append_stations {w : World} {ops : Array Oper} {rest : List Oper} {o : Oper} {a : Act} {Q : Exit → Act → World → Prop} (hgd : o.guard = none) (s x : Operand)
    (ho : o.op = .call { callee := .builtin .append, args := #[s, x], argTypes := #[23, 23] }) (B : Nat) (v : Value) (n : Nat) (f : Nat → Usr) (hs : a.eval s = v) (hown : TF w B v n f)
    (u : Value) (m : Nat) (g : Nat → Usr) (hx : a.eval x = u) (hu : UsrsC w u m g) (hn : n + m ≤ 1048576) (hB : B ≤ w.heap.size)
    (h : ∀ v' w', TF w' B v' (n + m) (fun i => if i < n then f i else g (i - n)) → w.grownBy w' v.ownBlock → wpList Try.prog ops Q rest (a.put o.dst v') w') : wpList Try.prog ops Q (o :: rest) a w := by
  obtain ⟨a', c', rfl, ⟨hcp, hnil⟩, hc⟩ := id hu
  cases a' with
  | none =>
    obtain ⟨rfl, rfl⟩ := hnil rfl
    obtain ⟨i0, hi, hzz⟩ := Option.map_eq_some_iff.1 station_info
    refine wpList_append_own_none hgd s x 23 ho B 30 i0 4 (by kernel_rfl) hi v n _ hs hown hx ?_
    exact h v w (hown.congr fun j hj => by rw [if_pos hj]) ⟨rfl, rfl, rfl, Nat.le_refl _, fun _ _ _ => rfl⟩
  | some ad => exact wpList_plain hgd fun K hK => wp_append_stations s x ho B v n f hs hown ad m c' g hx hu hn hB fun v' w' h2 h3 => hK _ _ (h v' w' h2 h3)
theorem step_append_stations {w : World} {ops : Array Oper} {o : Oper} {a : Act} {K : Act → World → Prop} {Q : Exit → Act → World → Prop} {E : Prop} (hgd : o.guard = none) (s x : Operand)
    (ho : o.op = .call { callee := .builtin .append, args := #[s, x], argTypes := #[23, 23] }) (B : Nat) (v : Value) (n : Nat) (f : Nat → Usr) (hs : a.eval s = v) (hown : TF w B v n f)
    (ad : Addr) (m c : Nat) (g : Nat → Usr) (hx : a.eval x = .slice (some ad) m c) (hu : UsrsC w (.slice (some ad) m c) m g) (hn : n + m ≤ 1048576) (hB : B ≤ w.heap.size)
    (h : ∀ v' w', TF w' B v' (n + m) (fun i => if i < n then f i else g (i - n)) → w.grownBy w' v.ownBlock → K (a.put o.dst v') w') :
    if Region.wanted o (yielded ops a.tmps) = true then Oper.wp Try.prog o a w K Q else E := by
  have hw : Region.wanted o (yielded ops a.tmps) = true := by simp [Region.wanted, hgd]
  rw [if_pos hw]
  exact wp_append_stations s x ho B v n f hs hown ad m c g hx hu hn hB h
end Go.Proofs.Ytjnipbopimpggab
