/- Slices of users: read by index; of a call's own. -/
import Derived.Test.YtpcogmpnmkmoeabUsr
import Derived.Test.YtpcogmpnmkmoeabSsStr
import Derived.Test.YtpcogmpnmkmoeabStrs
namespace Go.Proofs.Ytpcogmpnmkmoeab
open Go.RowKit
set_option linter.unusedVariables false
set_option maxRecDepth 100000
/-- The four cells of a user at a place. -/
def UsrCells (w : World) (b o : Nat) (u : Usr) : Prop :=
  w.cell? ⟨b, o, none⟩ = some (.string u.code) ∧ w.cell? ⟨b, o + 1, none⟩ = some (.string u.data) ∧ w.cell? ⟨b, o + 2, none⟩ = some (.int .i64 u.gain) ∧ w.cell? ⟨b, o + 3, none⟩ = some (.int .i64 u.delay)
/-- A slice of n users that can be read: element i is f i. -/
def UsrsR (w : World) (v : Value) (n : Nat) (f : Nat → Usr) : Prop :=
  ∃ a cap, v = .slice a n cap ∧ ∀ i, i < n → ∃ b o : Nat, a = some ⟨b, o, none⟩ ∧ b < w.heap.size ∧ UsrCells w b (o + i * 4) (f i)
theorem UsrCells.below {w w' : World} {B b o : Nat} {u : Usr} (h : UsrCells w b o u) (hb : Below B w w') (hx : b < B) : UsrCells w' b o u :=
  ⟨(hb.cell (p := ⟨b, o, none⟩) hx).trans h.1, (hb.cell (p := ⟨b, o + 1, none⟩) hx).trans h.2.1, (hb.cell (p := ⟨b, o + 2, none⟩) hx).trans h.2.2.1, (hb.cell (p := ⟨b, o + 3, none⟩) hx).trans h.2.2.2⟩
theorem UsrsR.below {w w' : World} {v : Value} {n : Nat} {f : Nat → Usr} (h : UsrsR w v n f) (hb : Below w.heap.size w w') : UsrsR w' v n f := by
  obtain ⟨a, cap, rfl, hc⟩ := h
  refine ⟨a, cap, rfl, fun i hi => ?_⟩
  obtain ⟨b, o, rfl, h1, h2⟩ := hc i hi
  exact ⟨b, o, rfl, Nat.lt_of_lt_of_le h1 hb.size, h2.below hb h1⟩
theorem szU_at (c p : ByteArray) (l : Int) (hl : l ≤ 1048576) (h : ¬ szU c p l < 0) : 0 ≤ szU c p l ∧ szU c p l ≤ l ∧ c.size ≤ 1048576 ∧ p.size ≤ 1048576 := by
  unfold szU at h ⊢
  by_cases q : l - (c.size : Int) < 0
  · rw [if_pos q] at h; omega
  · rw [if_neg q] at h ⊢
    by_cases q2 : l - (c.size : Int) - (p.size : Int) < 0
    · rw [if_pos q2] at h; omega
    · rw [if_neg q2] at h ⊢; omega
/-- A user's cell. -/
def Usr.at (u : Usr) (j : Nat) : Value := if j = 0 then .string u.code else if j = 1 then .string u.data else if j = 2 then .int .i64 u.gain else .int .i64 u.delay
/-- The cells of n users. -/
def usrL (n : Nat) (f : Nat → Usr) : List Value := (List.range (n * 4)).map fun t => (f (t / 4)).at (t % 4)
theorem usrL_len (n : Nat) (f : Nat → Usr) : (usrL n f).length = n * 4 := by simp [usrL]
theorem usrL_at {n t : Nat} {f : Nat → Usr} (h : t < n * 4) : (usrL n f)[t]? = some ((f (t / 4)).at (t % 4)) := by
  unfold usrL
  rw [List.getElem?_map, List.getElem?_range h]; rfl
theorem usrL_cell {n i j : Nat} {f : Nat → Usr} (h : i < n) (hj : j < 4) : (usrL n f)[i * 4 + j]? = some ((f i).at j) := by
  rw [usrL_at (by omega), show (i * 4 + j) / 4 = i by omega, show (i * 4 + j) % 4 = j by omega]
theorem usrL_congr {n : Nat} {f g : Nat → Usr} (h : ∀ i, i < n → f i = g i) : usrL n f = usrL n g := by
  unfold usrL
  exact List.map_congr_left fun t ht => by rw [h (t / 4) (by have := List.mem_range.1 ht; omega)]
theorem usrL_set {n p : Nat} {f g : Nat → Usr} {y : Value} (h : ∀ t, t < n * 4 → (g (t / 4)).at (t % 4) = if t = p then y else (f (t / 4)).at (t % 4)) : (usrL n f).set p y = usrL n g := by
  apply List.ext_getElem?
  intro t
  by_cases ht : t < n * 4
  · rw [List.getElem?_set, usrL_at ht, usrL_at ht, h t ht]
    by_cases e : p = t
    · rw [if_pos e, if_pos (by rw [usrL_len]; omega), if_pos e.symm]
    · rw [if_neg e, if_neg (fun x => e x.symm)]
  · rw [List.getElem?_eq_none (by rw [List.length_set, usrL_len]; omega), List.getElem?_eq_none (by rw [usrL_len]; omega)]
end Go.Proofs.Ytpcogmpnmkmoeab
