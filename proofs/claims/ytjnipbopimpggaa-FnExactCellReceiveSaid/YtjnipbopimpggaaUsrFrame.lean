/- What the frames share: slices of users that came in. -/
import Derived.Test.YtjnipbopimpggaaRegFrame
import Derived.Test.YtjnipbopimpggaaUsr0
import Derived.Deep.Slices
import Derived.ChangeArms
namespace Go.Proofs.Ytjnipbopimpggaa
open Go.ChangeShapes Go.WideShapes Go.ChangeAt Go.RowKit Go.Joins
open Go.ChangeMaps (open_string shut_string)
set_option linter.unusedVariables false
/-- Users that came in. -/
def UsrsIn (W : World) (a : Option Addr) (len cap : Nat) (f : Nat → Usr) : Prop := UsrsR W (.slice a len cap) len f ∧ len ≤ maxLen ∧ ∀ i, i < len → (f i).code.size ≤ maxLen ∧ (f i).data.size ≤ maxLen
theorem spot_none {w : World} {a : Addr} {v : Value} (h : w.cell? a = some v) : a.spot = none := by
  unfold World.cell? at h
  split at h
  · by_cases e : a.spot.isSome
    · rw [if_pos e] at h; cases h
    · cases hs : a.spot with
      | none => rfl
      | some x => rw [hs] at e; exact absurd rfl e
  · cases h
theorem quad_mid (b o i j : Nat) : ((⟨b, o, none⟩ : Addr).add (i * 4)).add j = ⟨b, o + i * 4 + j, none⟩ := by
  unfold Addr.add
  split <;> split <;> simp_all
section
variable {H : Type} {enc : TypeId × Value → H} {P : Program} {w : World} {base : Nat} {spare : Nat → Bool} {held : Bool}
/-- A struct of four cells, field by field. -/
theorem quad_fields {e : TypeId} {f0 f1 f2 f3 : Field} {fuel : Nat} {cs : List Value} {x : DataW H × List MemPlace} (he : P.underlying e = some (.struct #[f0, f1, f2, f3]))
    (o0 : f0.offset = 0) (o1 : f1.offset = 1) (o2 : f2.offset = 2) (o3 : f3.offset = 3) (c0 : P.cellsOf f0.type = 1) (c1 : P.cellsOf f1.type = 1) (c2 : P.cellsOf f2.type = 1) (c3 : P.cellsOf f3.type = 1)
    (hl : cs.length = 4) (h : DataW.trod enc P w base spare held fuel e cs = some x) :
    ∃ (v0 v1 v2 v3 : Value) (y0 y1 y2 y3 : DataW H × List MemPlace) (n : Nat), cs = [v0, v1, v2, v3] ∧ DataW.trod enc P w base spare held n f0.type [v0] = some y0 ∧ DataW.trod enc P w base spare held n f1.type [v1] = some y1 ∧
      DataW.trod enc P w base spare held n f2.type [v2] = some y2 ∧ DataW.trod enc P w base spare held n f3.type [v3] = some y3 := by
  obtain ⟨xs, n, _, _, _, hxl, hf⟩ := DataW.trod_struct he h
  match cs, hl, xs, hxl with
  | [v0, v1, v2, v3], _, [y0, y1, y2, y3], _ =>
    have g0 := hf 0 f0 rfl
    have g1 := hf 1 f1 rfl
    have g2 := hf 2 f2 rfl
    have g3 := hf 3 f3 rfl
    simp [o0, c0] at g0
    simp [o1, c1] at g1
    simp [o2, c2] at g2
    simp [o3, c3] at g3
    exact ⟨v0, v1, v2, v3, y0, y1, y2, y3, n, rfl, g0, g1, g2, g3⟩
end
set_option maxRecDepth 100000 in
theorem frame_stations {H : Type} {enc : TypeId × Value → H} {W : World} {a : Option Addr} {len cap : Nat} {d : DataW H} {p : List MemPlace}
    (h : DataW.Trod enc Try.prog W 0 (fun _ => true) true 22 (.slice a len cap) d p) : ∃ f, UsrsIn W a len cap f := by
  obtain ⟨fuel, hf⟩ := h
  rcases Go.Deep.open_slice Try.underlying22 hf with ⟨hcs, _⟩ | ⟨x, l, c, m, n, D, Pl, hcs, _, hl, hm, hmm, _, hc⟩
  · simp [Value.cells] at hcs
    obtain ⟨rfl, rfl, rfl⟩ := hcs
    exact ⟨fun _ => ⟨⟨#[]⟩, ⟨#[]⟩, 0, 0⟩, ⟨none, 0, rfl, fun i hi => absurd hi (Nat.not_lt_zero i)⟩, Nat.zero_le _, fun i hi => absurd hi (Nat.not_lt_zero i)⟩
  · simp [Value.cells] at hcs
    obtain ⟨rfl, rfl, rfl⟩ := hcs
    have hm2 : len ≤ m := by rw [hmm]; simpa using hl
    have each : ∀ i, ∃ u : Usr, i < len → (W.cell? ((x.add (i * 4)).add 0) = some (.string u.code) ∧ W.cell? ((x.add (i * 4)).add 1) = some (.string u.data) ∧ W.cell? ((x.add (i * 4)).add 2) = some (.int .i64 u.gain) ∧ W.cell? ((x.add (i * 4)).add 3) = some (.int .i64 u.delay)) ∧ u.code.size ≤ maxLen ∧ u.data.size ≤ maxLen := by
      intro i
      by_cases hi : i < len
      · obtain ⟨cs, h1, h2⟩ := hc i (by omega)
        rw [show Try.prog.cellsOf 30 = 4 by kernel_rfl] at h1
        obtain ⟨_, h3, h4⟩ := World.cells?_some h1
        obtain ⟨c0, c1, c2, c3, y0, y1, y2, y3, k, rfl, g0, g1, g2, g3⟩ := quad_fields Try.underlying30 rfl rfl rfl rfl (by kernel_rfl) (by kernel_rfl) (by kernel_rfl) (by kernel_rfl) h3 h2
        obtain ⟨s0, e0, _, q0⟩ := DataW.trod_string Try.underlying9 g0
        obtain ⟨s1, e1, _, q1⟩ := DataW.trod_string Try.underlying9 g1
        obtain ⟨n2, e2, _, _⟩ := DataW.trod_int Try.underlying3 g2
        obtain ⟨n3, e3, _, _⟩ := DataW.trod_int Try.underlying3 g3
        simp at e0 e1 e2 e3
        subst e0 e1 e2 e3
        exact ⟨⟨s0, s1, n2, n3⟩, fun _ => ⟨⟨h4 0 (by omega), h4 1 (by omega), h4 2 (by omega), h4 3 (by omega)⟩, q0, q1⟩⟩
      · exact ⟨⟨⟨#[]⟩, ⟨#[]⟩, 0, 0⟩, fun h => absurd h hi⟩
    obtain ⟨f, hfn⟩ := Classical.axiomOfChoice each
    refine ⟨f, ⟨some x, cap, rfl, fun i hi => ?_⟩, Nat.le_trans hl hm, fun i hi => (hfn i hi).2⟩
    have hsp : x.spot = none := by
      have := spot_none (hfn 0 (by omega)).1.1
      simpa [Addr.add] using this
    obtain ⟨b, o, s⟩ := x
    simp at hsp
    subst hsp
    obtain ⟨⟨k0, k1, k2, k3⟩, _⟩ := hfn i hi
    rw [quad_mid] at k0 k1 k2 k3
    exact ⟨b, o, rfl, block_lt_of_cell k0, k0, k1, k2, k3⟩
end Go.Proofs.Ytjnipbopimpggaa
