/- Two names that are handed in, opened. -/
import Derived.Test.YtojobiefambkoaaGreatDoorFG
namespace Go.Proofs.YtojobiefambkoaaGreatDoor
open Go.ChangeShapes Go.WideShapes Go.ChangeAt Go.RowKit Go.Joins Go.Deep Go.Proofs.YtojobiefambkoaaGreatDoor.Laid
theorem cells50 : Tryz.prog.cellsOf 50 = 4 := by kernel_rfl
theorem cells49 : Tryz.prog.cellsOf 49 = 2 := by kernel_rfl
set_option maxRecDepth 100000 in
theorem open_pair {H : Type} {enc : TypeId × Value → H} {w : World} {base base0 : Nat} {fuel : Nat} {v : Value} {x : DataW H × List MemPlace} (hv : Value.okWide Tryz.prog w .any base0 50 v) (h : DataW.trod enc Tryz.prog w base (fun _ => true) true fuel 50 v.cells.toList = some x) :
    ∃ x y : Nm, wfN x ∧ v = .agg #[.int .i64 x.1, .int .i64 x.2, .int .i64 y.1, .int .i64 y.2] := by
  obtain ⟨cs, rfl⟩ := OpnC.okWide_arr Tryz.underlying50 hv
  simp only [Value.cells] at h
  obtain ⟨ys, m, _, rfl, hl, hy, hel⟩ := DataW.trod_array Tryz.underlying50 h
  rw [cells50] at hl
  have h0 := hel 0 (by omega)
  have h1 := hel 1 (by omega)
  rw [cells49] at h0 h1
  match ys, hy with
  | [y0, y1], _ =>
    obtain ⟨l, rfl⟩ : ∃ l : List Value, cs = l.toArray := ⟨cs.toList, by simp⟩
    match l, hl with
    | [a, b, c, d], _ =>
      simp at h0 h1
      obtain ⟨p, hp, e0⟩ := OpnC.open_nm h0
      obtain ⟨q, _, e1⟩ := OpnC.open_nm h1
      simp only [List.cons.injEq, and_true] at e0 e1
      obtain ⟨rfl, rfl⟩ := e0
      obtain ⟨rfl, rfl⟩ := e1
      exact ⟨p, q, hp, rfl⟩
end Go.Proofs.YtojobiefambkoaaGreatDoor
