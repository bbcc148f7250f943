/- What users and stations share: four fields, two strings and two numbers. -/
import Derived.Test.YtjnipbopimpggabInts
import Derived.Test.YtjnipbopimpggabSeqTurn
namespace Go.Proofs.Ytjnipbopimpggab
open Go.RowKit
set_option linter.unusedVariables false
set_option maxRecDepth 100000
/-- A user, or what has its form. -/
structure Usr where
  code : ByteArray
  data : ByteArray
  gain : Int
  delay : Int
def Usr.val (u : Usr) : Value := .agg #[.string u.code, .string u.data, .int .i64 u.gain, .int .i64 u.delay]
/-- What is left of a size. -/
def szU (c p : ByteArray) (l : Int) : Int := if l - (c.size : Int) < 0 then -1 else if l - (c.size : Int) - (p.size : Int) < 0 then -1 else l - (c.size : Int) - (p.size : Int)
/-- A box with a user. -/
def UsrAt (w : World) (b : Nat) (c p : ByteArray) (g d : Int) : Prop :=
  w.cell? ⟨b, 0, none⟩ = some (.string c) ∧ w.cell? ⟨b, 1, none⟩ = some (.string p) ∧ w.cell? ⟨b, 2, none⟩ = some (.int .i64 g) ∧ w.cell? ⟨b, 3, none⟩ = some (.int .i64 d) ∧ b < w.heap.size
theorem UsrAt.new (w : World) (t : TypeId) (c p : ByteArray) (g d : Int) : UsrAt (w.alloc (.cells #[.string c, .string p, .int .i64 g, .int .i64 d] t)) w.heap.size c p g d := by
  refine ⟨?_, ?_, ?_, ?_, by simp⟩ <;> simp
theorem UsrAt.below {w w' : World} {b B : Nat} {c p : ByteArray} {g d : Int} (h : UsrAt w b c p g d) (hb : Below B w w') (hB : b < B) : UsrAt w' b c p g d :=
  ⟨(hb.cell (p := ⟨b, 0, none⟩) hB).trans h.1, (hb.cell (p := ⟨b, 1, none⟩) hB).trans h.2.1, (hb.cell (p := ⟨b, 2, none⟩) hB).trans h.2.2.1, (hb.cell (p := ⟨b, 3, none⟩) hB).trans h.2.2.2.1, Nat.lt_of_lt_of_le h.2.2.2.2 hb.size⟩
/-- The four cells of a user at a place. -/
def UsrCells (w : World) (b o : Nat) (u : Usr) : Prop :=
  w.cell? ⟨b, o, none⟩ = some (.string u.code) ∧ w.cell? ⟨b, o + 1, none⟩ = some (.string u.data) ∧ w.cell? ⟨b, o + 2, none⟩ = some (.int .i64 u.gain) ∧ w.cell? ⟨b, o + 3, none⟩ = some (.int .i64 u.delay)
/-- A slice of n users that can be read: element i is f i. -/
def UsrsR (w : World) (v : Value) (n : Nat) (f : Nat → Usr) : Prop :=
  ∃ a cap, v = .slice a n cap ∧ ∀ i, i < n → ∃ b o : Nat, a = some ⟨b, o, none⟩ ∧ b < w.heap.size ∧ UsrCells w b (o + i * 4) (f i)
theorem UsrCells.below {w w' : World} {B b o : Nat} {u : Usr} (h : UsrCells w b o u) (hb : Below B w w') (hx : b < B) : UsrCells w' b o u :=
  ⟨(hb.cell (p := ⟨b, o, none⟩) hx).trans h.1, (hb.cell (p := ⟨b, o + 1, none⟩) hx).trans h.2.1, (hb.cell (p := ⟨b, o + 2, none⟩) hx).trans h.2.2.1, (hb.cell (p := ⟨b, o + 3, none⟩) hx).trans h.2.2.2⟩
theorem UsrsR.below {w w' : World} {v : Value} {n : Nat} {f : Nat → Usr} (h : UsrsR w v n f) (hb : Below w.heap.size w w') : UsrsR w' v n f := by
  obtain ⟨a, cap, rfl, hc⟩ := h
  refine ⟨a, cap, rfl, fun i hi => ?_⟩
  obtain ⟨b, o, rfl, h1, h2⟩ := hc i hi
  exact ⟨b, o, rfl, Nat.lt_of_lt_of_le h1 hb.size, h2.below hb h1⟩
/-- The same, with room for all of them. -/
def UsrsC (w : World) (v : Value) (n : Nat) (f : Nat → Usr) : Prop :=
  ∃ a cap, v = .slice a n cap ∧ (n ≤ cap ∧ (a = none → n = 0 ∧ cap = 0)) ∧ ∀ i, i < n → ∃ b o : Nat, a = some ⟨b, o, none⟩ ∧ b < w.heap.size ∧ UsrCells w b (o + i * 4) (f i)
theorem UsrsC.usrs {w : World} {v : Value} {n : Nat} {f : Nat → Usr} (h : UsrsC w v n f) : UsrsR w v n f := by
  obtain ⟨a, cap, e, _, hc⟩ := h
  exact ⟨a, cap, e, hc⟩
theorem UsrsC.below {w w' : World} {v : Value} {n : Nat} {f : Nat → Usr} (h : UsrsC w v n f) (hb : Below w.heap.size w w') : UsrsC w' v n f := by
  obtain ⟨a, cap, rfl, hm, hc⟩ := h
  refine ⟨a, cap, rfl, hm, fun i hi => ?_⟩
  obtain ⟨b, o, rfl, h1, h2⟩ := hc i hi
  exact ⟨b, o, rfl, Nat.lt_of_lt_of_le h1 hb.size, h2.below hb h1⟩
/-- Texts that are not too long. -/
def UsrSz (n : Nat) (f : Nat → Usr) : Prop := ∀ i, i < n → (f i).code.size ≤ 1048576 ∧ (f i).data.size ≤ 1048576
theorem szU_at (c p : ByteArray) (l : Int) (hl : l ≤ 1048576) (h : ¬ szU c p l < 0) : 0 ≤ szU c p l ∧ szU c p l ≤ l ∧ c.size ≤ 1048576 ∧ p.size ≤ 1048576 := by
  unfold szU at h ⊢
  by_cases q : l - (c.size : Int) < 0
  · rw [if_pos q] at h; omega
  · rw [if_neg q] at h ⊢
    by_cases q2 : l - (c.size : Int) - (p.size : Int) < 0
    · rw [if_pos q2] at h; omega
    · rw [if_neg q2] at h ⊢; omega
/-- What is left of a size behind k users. -/
def szN (f : Nat → Usr) (l : Int) : Nat → Int
  | 0 => l
  | k + 1 => szU (f k).code (f k).data (szN f l k)
/-- A user's cell. -/
def Usr.at (u : Usr) (j : Nat) : Value := if j = 0 then .string u.code else if j = 1 then .string u.data else if j = 2 then .int .i64 u.gain else .int .i64 u.delay
/-- The cells of n users. -/
def usrL (n : Nat) (f : Nat → Usr) : List Value := (List.range (n * 4)).map fun t => (f (t / 4)).at (t % 4)
theorem usrL_len (n : Nat) (f : Nat → Usr) : (usrL n f).length = n * 4 := by simp [usrL]
theorem usrL_at {n t : Nat} {f : Nat → Usr} (h : t < n * 4) : (usrL n f)[t]? = some ((f (t / 4)).at (t % 4)) := by
  unfold usrL
  rw [List.getElem?_map, List.getElem?_range h]; rfl
theorem usrL_cell {n i j : Nat} {f : Nat → Usr} (h : i < n) (hj : j < 4) : (usrL n f)[i * 4 + j]? = some ((f i).at j) := by
  rw [usrL_at (by omega), show (i * 4 + j) / 4 = i by omega, show (i * 4 + j) % 4 = j by omega]
theorem usrL_congr {n : Nat} {f g : Nat → Usr} (h : ∀ i, i < n → f i = g i) : usrL n f = usrL n g := by
  unfold usrL
  exact List.map_congr_left fun t ht => by rw [h (t / 4) (by have := List.mem_range.1 ht; omega)]
theorem usrL_set {n p : Nat} {f g : Nat → Usr} {y : Value} (h : ∀ t, t < n * 4 → (g (t / 4)).at (t % 4) = if t = p then y else (f (t / 4)).at (t % 4)) : (usrL n f).set p y = usrL n g := by
  apply List.ext_getElem?
  intro t
  by_cases ht : t < n * 4
  · rw [List.getElem?_set, usrL_at ht, usrL_at ht, h t ht]
    by_cases e : p = t
    · rw [if_pos e, if_pos (by rw [usrL_len]; omega), if_pos e.symm]
    · rw [if_neg e, if_neg (fun x => e x.symm)]
  · rw [List.getElem?_eq_none (by rw [List.length_set, usrL_len]; omega), List.getElem?_eq_none (by rw [usrL_len]; omega)]
theorem at0 (c d : ByteArray) (g e : Int) : (Usr.mk c d g e).at 0 = .string c := rfl
theorem at1 (c d : ByteArray) (g e : Int) : (Usr.mk c d g e).at 1 = .string d := rfl
theorem at2 (c d : ByteArray) (g e : Int) : (Usr.mk c d g e).at 2 = .int .i64 g := rfl
theorem at3 (c d : ByteArray) (g e : Int) : (Usr.mk c d g e).at 3 = .int .i64 e := rfl
theorem upd_at {f f' : Nat → Usr} {k j : Nat} {y : Value} (hj : j < 4) (h1 : ∀ i, i ≠ k → f' i = f i) (h2 : (f' k).at j = y) (h3 : ∀ t, t < 4 → t ≠ j → (f' k).at t = (f k).at t) (t : Nat) :
    (f' (t / 4)).at (t % 4) = if t = k * 4 + j then y else (f (t / 4)).at (t % 4) := by
  by_cases e : t / 4 = k
  · by_cases e2 : t % 4 = j
    · rw [if_pos (by omega), e, e2]; exact h2
    · rw [if_neg (by omega), e]; exact h3 _ (by omega) e2
  · rw [if_neg (by omega), h1 _ e]
/-- Element k in place of what was there. -/
def upU (f : Nat → Usr) (k : Nat) (u : Usr) (i : Nat) : Usr := if i = k then u else f i
theorem upU_ne {f : Nat → Usr} {k i : Nat} {u : Usr} (h : i ≠ k) : upU f k u i = f i := if_neg h
theorem upU_eq (f : Nat → Usr) (k : Nat) (u : Usr) : upU f k u k = u := if_pos rfl
theorem upU_up (f : Nat → Usr) (k : Nat) (u v : Usr) : upU (upU f k u) k v = upU f k v := by funext i; unfold upU; split <;> rfl
theorem grown4 {w : World} {g : Nat} (p0 p1 p2 p3 : Nat) (y0 y1 y2 y3 : Value) : w.grownBy ((((w.setCell ⟨g, p0, none⟩ y0).setCell ⟨g, p1, none⟩ y1).setCell ⟨g, p2, none⟩ y2).setCell ⟨g, p3, none⟩ y3) (some g) := by
  have one : ∀ (w : World) (p : Nat) (y : Value), w.grownBy (w.setCell ⟨g, p, none⟩ y) (some g) := fun w p y => ⟨rfl, rfl, rfl, by simp, fun k hk hne => Below.heap_setCell _ _ _ _ (fun e => hne (by rw [e]))⟩
  exact (((one _ _ _).trans (one _ _ _)).trans (one _ _ _)).trans (one _ _ _)
theorem grownAny {w w' : World} (h : w.grownBy w' none) (row : Option Nat) : w.grownBy w' row := ⟨h.os, h.tape, h.output, h.size, fun k hk _ => h.block k hk (by simp)⟩
theorem UsrAt.kept {w w' : World} {b : Nat} {row : Option Nat} {c p : ByteArray} {g d : Int} (h : UsrAt w b c p g d) (hg : w.grownBy w' row) (hne : row ≠ some b) : UsrAt w' b c p g d := by
  have e := hg.block b h.2.2.2.2 (fun x => hne x.symm)
  have k : ∀ i, w'.cell? ⟨b, i, none⟩ = w.cell? ⟨b, i, none⟩ := fun i => by unfold World.cell?; rw [e]
  exact ⟨(k 0).trans h.1, (k 1).trans h.2.1, (k 2).trans h.2.2.1, (k 3).trans h.2.2.2.1, Nat.lt_of_lt_of_le h.2.2.2.2 hg.size⟩
theorem UsrAt.box {w : World} {b : Nat} {c p : ByteArray} {g d : Int} (h : UsrAt w b c p g d) : w.cell? ⟨b, 0, none⟩ = some (.string c) ∧ w.cell? ⟨b, 1, none⟩ = some (.string p) ∧ w.cell? ⟨b, 2, none⟩ = some (.int .i64 g) ∧ w.cell? ⟨b, 3, none⟩ = some (.int .i64 d) := ⟨h.1, h.2.1, h.2.2.1, h.2.2.2.1⟩
end Go.Proofs.Ytjnipbopimpggab
