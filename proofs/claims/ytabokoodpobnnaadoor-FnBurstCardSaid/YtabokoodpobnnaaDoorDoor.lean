/- What the frames of a door seat share: the array dataPlaces, as it was laid, as four cells; it reads behind the call as it read before. -/
import Derived.Test.YtabokoodpobnnaaDoorRows
import Derived.ProofKit
import Derived.LaidMore
import Derived.OpenShut
import Derived.Stop.Joined
import Derived.Below
import Derived.ChangeVars
namespace Go.Proofs.YtabokoodpobnnaaDoor
open Go Go.ChangeShapes Go.WideShapes Go.ChangeAt Go.RowKit Go.WideElems
set_option linter.unusedVariables false

theorem door_global : Tryd.prog.globalNamed "loop.example/spreadspectrum/impl.dataPlaces" = some 0 := by kernel_rfl
theorem door_type : (Tryd.prog.globals[0]?).map (·.type) = some 56 := by kernel_rfl
/-- The four places of the data. -/
def PlacesAt (w : World) : Prop := w.cell? ⟨0, 0, none⟩ = some (.int .i64 3) ∧ w.cell? ⟨0, 1, none⟩ = some (.int .i64 5) ∧ w.cell? ⟨0, 2, none⟩ = some (.int .i64 6) ∧ w.cell? ⟨0, 3, none⟩ = some (.int .i64 7)

set_option maxRecDepth 100000 in
theorem door_places {W : World} (h : laidMetH Tryd.prog [("loop.example/spreadspectrum/impl.dataPlaces", Rows.laid_loop_example_spreadspectrum_impl_dataPlaces)] W) : PlacesAt W := by
  rw [MakeChecks.laidMetH_plain _ _ _ (by kernel_rfl)] at h
  obtain ⟨ps, ⟨g0, t0, cs0, f0, p0, q0, hg0, ht0, hv0, hd0, _, _⟩, _, _⟩ := h
  obtain rfl := Option.some.inj (door_global.symm.trans hg0)
  obtain rfl := Option.some.inj (door_type.symm.trans ht0)
  obtain ⟨xs, m1, rfl, hx1, hlen, hn3, hel⟩ := DataW.trod_array Tryd.underlying56 hd0
  have c3 : Tryd.prog.cellsOf 3 = 1 := by kernel_rfl
  have c24 : Tryd.prog.cellsOf 56 = 4 := by kernel_rfl
  have hc := fun i => World.var?_cell hg0 hv0 i
  obtain ⟨l⟩ := cs0
  rw [c24] at hlen
  have h0 := hel 0 (by decide)
  have h1 := hel 1 (by decide)
  have h2 := hel 2 (by decide)
  have h3 := hel 3 (by decide)
  simp only [Prod.mk.injEq, Rows.laid_loop_example_spreadspectrum_impl_dataPlaces, DataW.agg.injEq] at hx1
  match l, hlen, xs, hn3, hx1, h0, h1, h2, h3, hc with
  | [a0, a1, a2, a3], _, [x0, x1, x2, x3], _, hx1, h0, h1, h2, h3, hc =>
    simp only [List.map_cons, List.map_nil, List.cons.injEq] at hx1
    rw [c3] at h0 h1 h2 h3
    obtain ⟨k0, e0, d0, _⟩ := DataW.trod_int Tryd.underlying3 (show DataW.trod _ Tryd.prog W 0 _ false m1 3 [a0] = some x0 from h0)
    obtain ⟨k1, e1, d1, _⟩ := DataW.trod_int Tryd.underlying3 (show DataW.trod _ Tryd.prog W 0 _ false m1 3 [a1] = some x1 from h1)
    obtain ⟨k2, e2, d2, _⟩ := DataW.trod_int Tryd.underlying3 (show DataW.trod _ Tryd.prog W 0 _ false m1 3 [a2] = some x2 from h2)
    obtain ⟨k3, e3, d3, _⟩ := DataW.trod_int Tryd.underlying3 (show DataW.trod _ Tryd.prog W 0 _ false m1 3 [a3] = some x3 from h3)
    rw [d0, d1, d2, d3] at hx1
    simp at hx1 e0 e1 e2 e3
    obtain ⟨⟨rfl, rfl, rfl, rfl⟩, _⟩ := hx1
    subst e0 e1 e2 e3
    exact ⟨by simpa using hc 0, by simpa using hc 1, by simpa using hc 2, by simpa using hc 3⟩

set_option maxRecDepth 1000000 in
theorem door_met (os : Os) (args : Array Value) : laidMetH Tryd.prog [("loop.example/spreadspectrum/impl.dataPlaces", Rows.laid_loop_example_spreadspectrum_impl_dataPlaces)] ((World.doorLaid Tryd.prog 14 os).forCall (fun _ _ => 0) ⟨#[], args, []⟩).memory :=
  laidMetH_of_parts3 (fuel := 8) (laidMet_of_run' 8 (by kernel_rfl) (by kernel_rfl)) (by kernel_rfl) (by kernel_rfl)

theorem door_var {P : Program} {B g : Nat} {W W' : World} {n : String} {cs : Array Value} (h : Below B W W') (hg : P.globalNamed n = some g) (hgB : g < B) (hv : W.var? P n = some cs) : W'.var? P n = some cs := by
  unfold World.var? at hv ⊢
  simp only [hg, Option.bind_some] at hv ⊢
  rw [h.block g hgB]
  exact hv
end Go.Proofs.YtabokoodpobnnaaDoor
