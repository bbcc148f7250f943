/- Slices of users: read by index; of a call's own. -/
import Derived.Test.YthfcfnamaedffaaUsr
import Derived.Test.YthfcfnamaedffaaSsStr
import Derived.Test.YthfcfnamaedffaaStrs
namespace Go.Proofs.Ythfcfnamaedffaa
open Go.RowKit
set_option linter.unusedVariables false
set_option maxRecDepth 100000
/-- The four cells of a user at a place. -/
def UsrCells (w : World) (b o : Nat) (u : Usr) : Prop :=
  w.cell? ⟨b, o, none⟩ = some (.string u.code) ∧ w.cell? ⟨b, o + 1, none⟩ = some (.string u.data) ∧ w.cell? ⟨b, o + 2, none⟩ = some (.int .i64 u.gain) ∧ w.cell? ⟨b, o + 3, none⟩ = some (.int .i64 u.delay)
/-- A slice of n users that can be read: element i is f i. -/
def UsrsR (w : World) (v : Value) (n : Nat) (f : Nat → Usr) : Prop :=
  ∃ a cap, v = .slice a n cap ∧ ∀ i, i < n → ∃ b o : Nat, a = some ⟨b, o, none⟩ ∧ b < w.heap.size ∧ UsrCells w b (o + i * 4) (f i)
theorem UsrCells.below {w w' : World} {B b o : Nat} {u : Usr} (h : UsrCells w b o u) (hb : Below B w w') (hx : b < B) : UsrCells w' b o u :=
  ⟨(hb.cell (p := ⟨b, o, none⟩) hx).trans h.1, (hb.cell (p := ⟨b, o + 1, none⟩) hx).trans h.2.1, (hb.cell (p := ⟨b, o + 2, none⟩) hx).trans h.2.2.1, (hb.cell (p := ⟨b, o + 3, none⟩) hx).trans h.2.2.2⟩
theorem UsrsR.below {w w' : World} {v : Value} {n : Nat} {f : Nat → Usr} (h : UsrsR w v n f) (hb : Below w.heap.size w w') : UsrsR w' v n f := by
  obtain ⟨a, cap, rfl, hc⟩ := h
  refine ⟨a, cap, rfl, fun i hi => ?_⟩
  obtain ⟨b, o, rfl, h1, h2⟩ := hc i hi
  exact ⟨b, o, rfl, Nat.lt_of_lt_of_le h1 hb.size, h2.below hb h1⟩
theorem szU_at (c p : ByteArray) (l : Int) (hl : l ≤ 1048576) (h : ¬ szU c p l < 0) : 0 ≤ szU c p l ∧ szU c p l ≤ l ∧ c.size ≤ 1048576 ∧ p.size ≤ 1048576 := by
  unfold szU at h ⊢
  by_cases q : l - (c.size : Int) < 0
  · rw [if_pos q] at h; omega
  · rw [if_neg q] at h ⊢
    by_cases q2 : l - (c.size : Int) - (p.size : Int) < 0
    · rw [if_pos q2] at h; omega
    · rw [if_neg q2] at h ⊢; omega
/-- A user's cell. -/
def Usr.at (u : Usr) (j : Nat) : Value := if j = 0 then .string u.code else if j = 1 then .string u.data else if j = 2 then .int .i64 u.gain else .int .i64 u.delay
/-- The cells of n users. -/
def usrL (n : Nat) (f : Nat → Usr) : List Value := (List.range (n * 4)).map fun t => (f (t / 4)).at (t % 4)
theorem usrL_len (n : Nat) (f : Nat → Usr) : (usrL n f).length = n * 4 := by simp [usrL]
theorem usrL_at {n t : Nat} {f : Nat → Usr} (h : t < n * 4) : (usrL n f)[t]? = some ((f (t / 4)).at (t % 4)) := by
  unfold usrL
  rw [List.getElem?_map, List.getElem?_range h]; rfl
theorem usrL_cell {n i j : Nat} {f : Nat → Usr} (h : i < n) (hj : j < 4) : (usrL n f)[i * 4 + j]? = some ((f i).at j) := by
  rw [usrL_at (by omega), show (i * 4 + j) / 4 = i by omega, show (i * 4 + j) % 4 = j by omega]
theorem usrL_congr {n : Nat} {f g : Nat → Usr} (h : ∀ i, i < n → f i = g i) : usrL n f = usrL n g := by
  unfold usrL
  exact List.map_congr_left fun t ht => by rw [h (t / 4) (by have := List.mem_range.1 ht; omega)]
theorem usrL_set {n p : Nat} {f g : Nat → Usr} {y : Value} (h : ∀ t, t < n * 4 → (g (t / 4)).at (t % 4) = if t = p then y else (f (t / 4)).at (t % 4)) : (usrL n f).set p y = usrL n g := by
  apply List.ext_getElem?
  intro t
  by_cases ht : t < n * 4
  · rw [List.getElem?_set, usrL_at ht, usrL_at ht, h t ht]
    by_cases e : p = t
    · rw [if_pos e, if_pos (by rw [usrL_len]; omega), if_pos e.symm]
    · rw [if_neg e, if_neg (fun x => e x.symm)]
  · rw [List.getElem?_eq_none (by rw [List.length_set, usrL_len]; omega), List.getElem?_eq_none (by rw [usrL_len]; omega)]
/-- A slice of n users of a call's own: element i is f i. -/
def UF (w : World) (B : Nat) (v : Value) (n : Nat) (f : Nat → Usr) : Prop := w.ownsRow B 30 4 v n (usrL n f)
theorem UF.congr {w : World} {B : Nat} {v : Value} {n : Nat} {f g : Nat → Usr} (h : UF w B v n f) (e : ∀ i, i < n → f i = g i) : UF w B v n g := by
  unfold UF at h ⊢
  rw [← usrL_congr e]; exact h
theorem UF.kept {w w' : World} {B : Nat} {v : Value} {n : Nat} {f : Nat → Usr} {row : Option Nat} (h : UF w B v n f) (hg : w.grownBy w' row) (hne : v.ownBlock = none ∨ v.ownBlock ≠ row) : UF w' B v n f := World.ownsRow.kept h hg hne
theorem UF.lt {w : World} {B : Nat} {v : Value} {n : Nat} {f : Nat → Usr} (h : UF w B v n f) : ∀ k, v.ownBlock = some k → B ≤ k ∧ k < w.heap.size := World.ownsRow.lt h
theorem UF.below {w w' : World} {B : Nat} {v : Value} {n : Nat} {f : Nat → Usr} (h : UF w B v n f) (hb : Below w.heap.size w w') : UF w' B v n f :=
  h.kept (grown_of_below hb) (by cases v.ownBlock <;> simp)
theorem UF.drewN {w : World} {B : Nat} {v : Value} {n : Nat} {f : Nat → Usr} (h : UF w B v n f) (m : Nat) : UF (w.drewN m) B v n f := h.below (below_drewN (Below.refl _ _) m)
theorem UF.alloc {w : World} {B : Nat} {v : Value} {n : Nat} {f : Nat → Usr} (h : UF w B v n f) (o : Obj) : UF (w.alloc o) B v n f := World.ownsRow.alloc h o
theorem UF.mono {w : World} {B C : Nat} {v : Value} {n : Nat} {f : Nat → Usr} (h : UF w B v n f) (hC : C ≤ B) : UF w C v n f := by
  obtain ⟨h1, ⟨rfl, rfl⟩ | ⟨g, cap, cur, rfl, hB, hg, hn, hm, hs, ht⟩⟩ := h
  · exact ⟨h1, .inl ⟨rfl, rfl⟩⟩
  · exact ⟨h1, .inr ⟨g, cap, cur, rfl, Nat.le_trans hC hB, hg, hn, hm, hs, ht⟩⟩
theorem UF.form {w : World} {B : Nat} {v : Value} {n : Nat} {f : Nat → Usr} (h : UF w B v n f) : ∃ a cap, v = .slice a n cap ∧ (0 < n → ∃ g, a = some ⟨g, 0, none⟩ ∧ B ≤ g ∧ g < w.heap.size) := by
  obtain ⟨h1, ⟨rfl, rfl⟩ | ⟨g, cap, cur, rfl, hB, hg, hn, hm, hs, ht⟩⟩ := h
  · exact ⟨none, 0, rfl, fun h => absurd h (Nat.lt_irrefl 0)⟩
  · exact ⟨_, cap, rfl, fun _ => ⟨g, rfl, hB, (Array.getElem?_eq_some_iff.1 hg).1⟩⟩
theorem UF.cells {w : World} {B g n cap : Nat} {f : Nat → Usr} (h : UF w B (.slice (some ⟨g, 0, none⟩) n cap) n f) (i : Nat) (hi : i < n) : UsrCells w g (i * 4) (f i) := by
  have c := fun (j : Nat) (hj : j < 4) => (World.ownsRow.cellAt h (i * 4 + j) (by omega)).trans (usrL_cell hi hj)
  exact ⟨c 0 (by omega), c 1 (by omega), c 2 (by omega), c 3 (by omega)⟩
theorem UF.free {w : World} {B g n cap : Nat} {f : Nat → Usr} (h : UF w B (.slice (some ⟨g, 0, none⟩) n cap) n f) (j : Nat) : w.frozen? ⟨g, j, none⟩ = false := World.ownsRow.frozenAt h j
theorem UF.users {w : World} {B : Nat} {v : Value} {n : Nat} {f : Nat → Usr} (h : UF w B v n f) : UsrsR w v n f := by
  obtain ⟨a, cap, rfl, hc⟩ := h.form
  refine ⟨a, cap, rfl, fun i hi => ?_⟩
  obtain ⟨g, rfl, _, hl⟩ := hc (by omega)
  exact ⟨g, 0, rfl, hl, by have := h.cells i hi; rwa [Nat.zero_add]⟩
theorem UF.made (w : World) (n : Nat) (hm : n ≤ 1048576) : UF (w.alloc (.cells (madeCells #[.string ⟨#[]⟩, .string ⟨#[]⟩, .int .i64 0, .int .i64 0] (n * 4)) 30)) w.heap.size (.slice (some ⟨w.heap.size, 0, none⟩) n n) n (fun _ => ⟨⟨#[]⟩, ⟨#[]⟩, 0, 0⟩) := by
  have hs : (madeCells #[Value.string ⟨#[]⟩, .string ⟨#[]⟩, .int .i64 0, .int .i64 0] (n * 4)).size = n * 4 := size_madeCells _ _
  refine ⟨usrL_len _ _, .inr ⟨w.heap.size, n, madeCells #[.string ⟨#[]⟩, .string ⟨#[]⟩, .int .i64 0, .int .i64 0] (n * 4), rfl, Nat.le_refl _, ?_, Nat.le_refl _, by unfold maxLen; omega, hs, ?_⟩⟩
  · show (w.heap.push _)[w.heap.size]? = _
    simp
  · rw [List.take_of_length_le (by rw [Array.length_toList, hs]; omega)]
    apply List.ext_getElem?
    intro t
    by_cases ht : t < n * 4
    · rw [usrL_at ht]
      have hj : t % 4 = 0 ∨ t % 4 = 1 ∨ t % 4 = 2 ∨ t % 4 = 3 := by omega
      rcases hj with e | e | e | e <;> simp [madeCells, Usr.at, e, ht]
    · rw [List.getElem?_eq_none (by rw [Array.length_toList, hs]; omega), List.getElem?_eq_none (by rw [usrL_len]; omega)]
theorem make_users (n : Nat) (h : n ≤ 1048576) (w : World) :
    (Instr.makeSlice 23 (.int .i64 (n : Int)) (.int .i64 (n : Int))).run Try.prog w = .ok (.slice (some ⟨w.heap.size, 0, none⟩) n n) (w.alloc (.cells (madeCells #[.string ⟨#[]⟩, .string ⟨#[]⟩, .int .i64 0, .int .i64 0] (n * 4)) 30)) := by
  obtain ⟨i0, hi, hzz⟩ := Option.map_eq_some_iff.1 (show (Try.prog.info? 30).map (fun i => (i.zero, i.size, i.bytes)) = some (some (.agg #[.string ⟨#[]⟩, .string ⟨#[]⟩, .int .i64 0, .int .i64 0]), 4, 48) by kernel_rfl)
  simp only [Prod.mk.injEq] at hzz
  obtain ⟨hz, hsz, hby⟩ := hzz
  have hr := run_make (P := Try.prog) w 23 30 i0 _ (by kernel_rfl) hi hz .i64 .i64 (n : Int) (n : Int) (by omega) (by omega) (by rw [hby]; omega) (by omega)
  simp only [Int.toNat_natCast, hsz] at hr
  exact hr
end Go.Proofs.Ythfcfnamaedffaa
