/- The laws' helpers on slices of users. -/
import Derived.Test.YthfcfnamaedffaaUsrs
import Derived.Test.YthfcfnamaedffaaStrs2
namespace Go.Proofs.Ythfcfnamaedffaa
open Go.RowKit
set_option linter.unusedVariables false
set_option maxRecDepth 100000
theorem UF.set {w : World} {B g cap n : Nat} {f : Nat → Usr} (h : UF w B (.slice (some ⟨g, 0, none⟩) n cap) n f) (p : Nat) (y : Value) (f' : Nat → Usr)
    (e : ∀ t, t < n * 4 → (f' (t / 4)).at (t % 4) = if t = p then y else (f (t / 4)).at (t % 4)) : UF (w.setCell ⟨g, p, none⟩ y) B (.slice (some ⟨g, 0, none⟩) n cap) n f' := by
  have := (World.ownsRow.stored h p y).1
  rw [usrL_set e] at this
  exact this
theorem at0 (c d : ByteArray) (g e : Int) : (Usr.mk c d g e).at 0 = .string c := rfl
theorem at1 (c d : ByteArray) (g e : Int) : (Usr.mk c d g e).at 1 = .string d := rfl
theorem at2 (c d : ByteArray) (g e : Int) : (Usr.mk c d g e).at 2 = .int .i64 g := rfl
theorem at3 (c d : ByteArray) (g e : Int) : (Usr.mk c d g e).at 3 = .int .i64 e := rfl
theorem upd_at {f f' : Nat → Usr} {k j : Nat} {y : Value} (hj : j < 4) (h1 : ∀ i, i ≠ k → f' i = f i) (h2 : (f' k).at j = y) (h3 : ∀ t, t < 4 → t ≠ j → (f' k).at t = (f k).at t) (t : Nat) :
    (f' (t / 4)).at (t % 4) = if t = k * 4 + j then y else (f (t / 4)).at (t % 4) := by
  by_cases e : t / 4 = k
  · by_cases e2 : t % 4 = j
    · rw [if_pos (by omega), e, e2]; exact h2
    · rw [if_neg (by omega), e]; exact h3 _ (by omega) e2
  · rw [if_neg (by omega), h1 _ e]
/-- Element k in place of what was there. -/
def upU (f : Nat → Usr) (k : Nat) (u : Usr) (i : Nat) : Usr := if i = k then u else f i
theorem upU_ne {f : Nat → Usr} {k i : Nat} {u : Usr} (h : i ≠ k) : upU f k u i = f i := if_neg h
theorem upU_eq (f : Nat → Usr) (k : Nat) (u : Usr) : upU f k u k = u := if_pos rfl
theorem upU_up (f : Nat → Usr) (k : Nat) (u v : Usr) : upU (upU f k u) k v = upU f k v := by funext i; unfold upU; split <;> rfl
theorem UF.set0 {w : World} {B g cap n : Nat} {f : Nat → Usr} (h : UF w B (.slice (some ⟨g, 0, none⟩) n cap) n f) (k : Nat) (y : ByteArray) : UF (w.setCell ⟨g, k * 4, none⟩ (.string y)) B (.slice (some ⟨g, 0, none⟩) n cap) n (upU f k ⟨y, (f k).data, (f k).gain, (f k).delay⟩) :=
  h.set (k * 4) _ _ (fun t _ => by
    have := upd_at (f := f) (f' := upU f k ⟨y, (f k).data, (f k).gain, (f k).delay⟩) (k := k) (j := 0) (y := .string y) (by omega) (fun i hi => upU_ne hi) (by rw [upU_eq]; rfl) (fun t h1 h2 => by
      rw [upU_eq]
      have : t = 1 ∨ t = 2 ∨ t = 3 := by omega
      rcases this with rfl | rfl | rfl <;> rfl) t
    simpa using this)
theorem UF.set1 {w : World} {B g cap n : Nat} {f : Nat → Usr} (h : UF w B (.slice (some ⟨g, 0, none⟩) n cap) n f) (k : Nat) (y : ByteArray) : UF (w.setCell ⟨g, k * 4 + 1, none⟩ (.string y)) B (.slice (some ⟨g, 0, none⟩) n cap) n (upU f k ⟨(f k).code, y, (f k).gain, (f k).delay⟩) :=
  h.set (k * 4 + 1) _ _ (fun t _ => upd_at (k := k) (j := 1) (by omega) (fun i hi => upU_ne hi) (by rw [upU_eq]; rfl) (fun t h1 h2 => by
      rw [upU_eq]
      have : t = 0 ∨ t = 2 ∨ t = 3 := by omega
      rcases this with rfl | rfl | rfl <;> rfl) t)
theorem UF.set2 {w : World} {B g cap n : Nat} {f : Nat → Usr} (h : UF w B (.slice (some ⟨g, 0, none⟩) n cap) n f) (k : Nat) (y : Int) : UF (w.setCell ⟨g, k * 4 + 2, none⟩ (.int .i64 y)) B (.slice (some ⟨g, 0, none⟩) n cap) n (upU f k ⟨(f k).code, (f k).data, y, (f k).delay⟩) :=
  h.set (k * 4 + 2) _ _ (fun t _ => upd_at (k := k) (j := 2) (by omega) (fun i hi => upU_ne hi) (by rw [upU_eq]; rfl) (fun t h1 h2 => by
      rw [upU_eq]
      have : t = 0 ∨ t = 1 ∨ t = 3 := by omega
      rcases this with rfl | rfl | rfl <;> rfl) t)
theorem UF.set3 {w : World} {B g cap n : Nat} {f : Nat → Usr} (h : UF w B (.slice (some ⟨g, 0, none⟩) n cap) n f) (k : Nat) (y : Int) : UF (w.setCell ⟨g, k * 4 + 3, none⟩ (.int .i64 y)) B (.slice (some ⟨g, 0, none⟩) n cap) n (upU f k ⟨(f k).code, (f k).data, (f k).gain, y⟩) :=
  h.set (k * 4 + 3) _ _ (fun t _ => upd_at (k := k) (j := 3) (by omega) (fun i hi => upU_ne hi) (by rw [upU_eq]; rfl) (fun t h1 h2 => by
      rw [upU_eq]
      have : t = 0 ∨ t = 1 ∨ t = 2 := by omega
      rcases this with rfl | rfl | rfl <;> rfl) t)
theorem UF.put {w : World} {B g cap n : Nat} {f : Nat → Usr} (h : UF w B (.slice (some ⟨g, 0, none⟩) n cap) n f) (k : Nat) (c d : ByteArray) (x y : Int) :
    UF ((((w.setCell ⟨g, k * 4, none⟩ (.string c)).setCell ⟨g, k * 4 + 1, none⟩ (.string d)).setCell ⟨g, k * 4 + 2, none⟩ (.int .i64 x)).setCell ⟨g, k * 4 + 3, none⟩ (.int .i64 y)) B (.slice (some ⟨g, 0, none⟩) n cap) n (upU f k ⟨c, d, x, y⟩) := by
  have := (((h.set0 k c).set1 k d).set2 k x).set3 k y
  simp only [upU_eq, upU_up] at this
  exact this
theorem grown4 {w : World} {g : Nat} (p0 p1 p2 p3 : Nat) (y0 y1 y2 y3 : Value) : w.grownBy ((((w.setCell ⟨g, p0, none⟩ y0).setCell ⟨g, p1, none⟩ y1).setCell ⟨g, p2, none⟩ y2).setCell ⟨g, p3, none⟩ y3) (some g) := by
  have one : ∀ (w : World) (p : Nat) (y : Value), w.grownBy (w.setCell ⟨g, p, none⟩ y) (some g) := fun w p y => ⟨rfl, rfl, rfl, by simp, fun k hk hne => Below.heap_setCell _ _ _ _ (fun e => hne (by rw [e]))⟩
  exact (((one _ _ _).trans (one _ _ _)).trans (one _ _ _)).trans (one _ _ _)
theorem grownAny {w w' : World} (h : w.grownBy w' none) (row : Option Nat) : w.grownBy w' row := ⟨h.os, h.tape, h.output, h.size, fun k hk _ => h.block k hk (by simp)⟩
end Go.Proofs.Ythfcfnamaedffaa
