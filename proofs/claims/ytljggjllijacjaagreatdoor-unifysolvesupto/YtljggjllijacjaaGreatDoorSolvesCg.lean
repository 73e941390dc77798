/- For every row of bindings, every number of steps and every row of equations the statement on what comes of equations (P8.2) returns true and its arguments read as before, where what is handed in holds at most 1048576 values and letters; the package's row of signs is as its initialiser lays it, and the card ties it to the program's text. -/
import Derived.Test.YtljggjllijacjaaGreatDoorOpeng
import Derived.Test.YtljggjllijacjaaGreatDoorYMg
namespace Go.Proofs.YtljggjllijacjaaGreatDoor
open Go.ChangeShapes Go.WideShapes Go.ChangeAt Go.RowKit Go.Joins Go.Deep Go.Proofs.YtljggjllijacjaaGreatDoor.Laid
section
variable {H : Type} {enc : TypeId × Value → H} {w : World} {base : Nat} {sp : Nat → Bool} {held : Bool}
theorem open_cellW {fuel : Nat} {cs : List Value} {x : DataW H × List MemPlace} (h : DataW.trod enc Tryz.prog w base sp held fuel 78 cs = some x) : ∃ c : C, cs = c.vals ∧ wfN (c.vn, c.vk) := by
 cases fuel with
 | zero => simp [DataW.trod] at h
 | succ fuel =>
  simp only [DataW.trod, Tryz.underlying78, cells60] at h
  split at h
  ·rename_i hl
   obtain ⟨a, b, c, d, e, rfl⟩ := list5 hl
   obtain ⟨xs, hm, _⟩ := Option.map_eq_some_iff.1 h
   have f0 := Lib.mapM_at hm 0 _ rfl
   have f1 := Lib.mapM_at hm 1 _ rfl
   have f2 := Lib.mapM_at hm 2 _ rfl
   have f6 := Lib.mapM_at hm 3 _ rfl
   obtain ⟨y0, _, g0⟩ := f0
   obtain ⟨y1, _, g1⟩ := f1
   obtain ⟨y2, _, g2⟩ := f2
   obtain ⟨y3, _, g3⟩ := f6
   simp only [cells58, cells9, cells3, cells23', List.drop_zero, List.drop_succ_cons, List.take_succ_cons, List.take_zero] at g0 g1 g2 g3
   obtain ⟨k, e0, _, _⟩ := DataW.trod_int Tryz.underlying76 g0
   obtain ⟨t, e1, _, ht⟩ := DataW.trod_string Tryz.underlying9 g1
   obtain ⟨n, e2, _, _⟩ := DataW.trod_int Tryz.underlying3 g2
   obtain ⟨z0, z1, n3, _, _, h30, h31⟩ := trod_struct2 Tryz.underlying32 g3
   simp only [cells3, List.drop_zero, List.drop_succ_cons, List.take_succ_cons, List.take_zero] at h30 h31
   obtain ⟨vn, e3, _, w3⟩ := DataW.trod_int Tryz.underlying3 h30
   obtain ⟨vk, e4, _, w4⟩ := DataW.trod_int Tryz.underlying3 h31
   simp only [List.cons.injEq, and_true] at e0 e1 e2 e3 e4
   subst e0 e1 e2 e3 e4
   exact ⟨⟨k, t, n, vn, vk⟩, rfl, w3, w4⟩
  ·cases h
theorem term_wf {fuel : Nat} {v : Value} {x : DataW H × List MemPlace} {l : List C} (h : DataW.trod enc Tryz.prog w base (fun _ => true) held fuel 24 [v] = some x) (hT : TermAt w v l) : ∀ c ∈ l, wfN (c.vn, c.vk) := by
 obtain ⟨_, hT⟩ := hT
 rcases hT with ⟨rfl, _⟩ | ⟨b, o, cp, hf, _, _, hr, hb⟩
 ·simp
 rcases open_slice Tryz.underlying24 h with ⟨hcs, hx⟩ | ⟨a, len, cap, m, n, D, Pl, hcs, _, hl, hmx, hm, hx, hel⟩
 ·simp only [List.cons.injEq, and_true] at hcs
  rw [hf] at hcs
  cases hcs
 ·simp only [List.cons.injEq, and_true] at hcs
  rw [hf] at hcs
  simp only [Value.slice.injEq, Option.some.injEq] at hcs
  obtain ⟨rfl, rfl, rfl⟩ := hcs
  simp only [if_true] at hm
  subst hm
  rw [cells60] at hel
  intro c hc
  obtain ⟨i, hi, rfl⟩ := List.getElem_of_mem hc
  obtain ⟨cs, h1, h2⟩ := hel i (by omega)
  obtain ⟨c', rfl, hw⟩ := open_cellW h2
  have h3 := (World.cells?_some h1).2.2
  obtain ⟨_, _, _, p3, p4⟩ := term_cells hr i hi
  have q3 := h3 3 (by omega)
  have q4 := h3 4 (by omega)
  rw [Addr.add_mid, Addr.add_mid] at q3 q4
  rw [p3] at q3
  rw [p4] at q4
  simp [C.vals] at q3 q4
  rw [q3, q4]; exact hw
end
end Go.Proofs.YtljggjllijacjaaGreatDoor

namespace Go.Proofs.YtljggjllijacjaaGreatDoor.SolvesC
open Go.ChangeShapes Go.WideShapes Go.ChangeAt Go.RowKit Go.Joins Go.Deep Go.Proofs.YtljggjllijacjaaGreatDoor.Laid
open Go.ChangeMaps (open_string shut_string)
theorem cells43 : Tryz.prog.cellsOf 73 = 3 := by kernel_rfl
theorem cells33 : Tryz.prog.cellsOf 32 = 2 := by kernel_rfl
theorem cells24 : Tryz.prog.cellsOf 24 = 1 := by kernel_rfl
theorem cells3' : Tryz.prog.cellsOf 3 = 1 := by kernel_rfl
theorem bytes43 : Tryz.prog.bytesOf 73 = 40 := by kernel_rfl
section
variable {H : Type} {enc : TypeId × Value → H} {w : World} {base : Nat} {held : Bool}
theorem trod_struct2 {P : Program} {sp : Nat → Bool} {t : TypeId} {f0 f1 : Field} {fuel : Nat} {cs : List Value} {x : DataW H × List MemPlace} (ht : P.underlying t = some (.struct #[f0, f1])) (h : DataW.trod enc P w base sp held fuel t cs = some x) :
  ∃ y0 y1 n, x.1 = .agg [y0.1, y1.1] ∧ cs.length = P.cellsOf t ∧ DataW.trod enc P w base sp held n f0.type ((cs.drop f0.offset).take (P.cellsOf f0.type)) = some y0 ∧
   DataW.trod enc P w base sp held n f1.type ((cs.drop f1.offset).take (P.cellsOf f1.type)) = some y1 := by
 obtain ⟨xs, n, _, rfl, hl, hlen, hf⟩ := DataW.trod_struct ht h
 match xs, hlen with
 | [y0, y1], _ => exact ⟨y0, y1, n, by simp, hl, by simpa using hf 0 f0 rfl, by simpa using hf 1 f1 rfl⟩
set_option maxRecDepth 100000 in
theorem open_nm {fuel : Nat} {cs : List Value} {x : DataW H × List MemPlace} (h : DataW.trod enc Tryz.prog w base (fun _ => true) held fuel 32 cs = some x) :
  ∃ x : Nm, wfN x ∧ cs = [.int .i64 x.1, .int .i64 x.2] := by
 obtain ⟨y0, y1, n, _, hl, g0, g1⟩ := trod_struct2 Tryz.underlying32 h
 rw [cells33] at hl
 match cs, hl with
 | [a, b], _ =>
  simp only [cells3', List.drop_zero, List.drop_succ_cons, List.take_succ_cons, List.take_zero] at g0 g1
  obtain ⟨k0, e0, _, w0⟩ := DataW.trod_int Tryz.underlying3 g0
  obtain ⟨k1, e1, _, w1⟩ := DataW.trod_int Tryz.underlying3 g1
  simp only [List.cons.injEq, and_true] at e0 e1
  subst e0 e1
  exact ⟨(k0, k1), ⟨w0, w1⟩, rfl⟩
set_option maxRecDepth 100000 in
theorem open_bd {fuel : Nat} {cs : List Value} {x : DataW H × List MemPlace} (h : DataW.trod enc Tryz.prog w base (fun _ => true) held fuel 73 cs = some x) :
  ∃ b : Bn, cs = encB b ∧ TermAt w b.v b.l ∧ wfN b.x ∧ (∀ c ∈ b.l, wfN (c.vn, c.vk)) ∧ ∀ M : Nat, (∀ y ∈ DataW.weights Tryz.prog 73 x.1, y ≤ M) → b.l.length * 48 ≤ M := by
 obtain ⟨y0, y1, n, hx, hl, g0, g1⟩ := trod_struct2 Tryz.underlying73 h
 rw [cells43] at hl
 match cs, hl with
 | [a, b, c], _ =>
  simp only [cells33, cells24, List.drop_zero, List.drop_succ_cons, List.take_succ_cons, List.take_zero] at g0 g1
  obtain ⟨z, hz, e0⟩ := open_nm g0
  obtain ⟨l, hT, hbd⟩ := open_term g1
  have hwf := term_wf g1 hT
  obtain ⟨ad, cap, e1⟩ := hT.form
  simp only [List.cons.injEq, and_true] at e0
  obtain ⟨rfl, rfl⟩ := e0
  subst e1
  refine ⟨⟨z, ad, l.length, cap, l⟩, rfl, hT, hz, hwf, fun M hM => hbd M fun y hy => hM y ?_⟩
  rw [hx]
  simp only [DataW.weights, Tryz.underlying73]
  simp [DataW.weightsEach, hy]
theorem encB_div (l : List Bn) (j : Nat) (v : Value) (h : (l.flatMap encB)[j]? = some v) : ∃ (hi : j / 3 < l.length), (encB l[j / 3])[j % 3]? = some v := by
 have hj : j < (l.flatMap encB).length := (List.getElem?_eq_some_iff.1 h).1
 rw [encB_len] at hj
 have hi : j / 3 < l.length := by omega
 obtain ⟨h1, h2, h3⟩ := encB_get l (j / 3) hi
 refine ⟨hi, ?_⟩
 rcases (show j % 3 = 0 ∨ j % 3 = 1 ∨ j % 3 = 2 by omega) with e | e | e
 ·rw [show j / 3 * 3 = j by omega, h] at h1
  rw [e]; simpa [encB] using h1.symm
 ·rw [show j / 3 * 3 + 1 = j by omega, h] at h2
  rw [e]; simpa [encB] using h2.symm
 ·rw [show j / 3 * 3 + 2 = j by omega, h] at h3
  rw [e]; simpa [encB] using h3.symm
theorem open_bds {fuel : Nat} {v : Value} {x : DataW H × List MemPlace} (h : DataW.trod enc Tryz.prog w base (fun _ => true) held fuel 22 [v] = some x) :
  ∃ a n c bs, v = .slice a n c ∧ ∀ M : Nat, M ≤ 140737488355328 → (∀ y ∈ DataW.weights Tryz.prog 22 x.1, y ≤ M) → BdRow w a n bs ∧ n * 40 ≤ M := by
 rcases open_slice Tryz.underlying22 h with ⟨hcs, _⟩ | ⟨a, len, cap, m, n, D, Pl, hcs, _, hl, hmx, hm, hx, hel⟩
 ·simp only [List.cons.injEq, and_true] at hcs
  exact ⟨none, 0, 0, [], hcs, fun M _ _ => ⟨⟨⟨rfl, .inl rfl⟩, fun e h => by cases h⟩, by simp⟩⟩
 ·simp only [List.cons.injEq, and_true] at hcs
  simp only [if_true] at hm
  subst hm
  by_cases h0 : m = 0
  ·have hl0 : len = 0 := by omega
   subst h0 hl0
   exact ⟨some a, 0, _, [], hcs, fun M _ _ => ⟨⟨⟨rfl, .inl rfl⟩, fun e h => by cases h⟩, by simp⟩⟩
  ·rw [cells43] at hel
   have hc : ∀ i, i < m → ∃ e : Bn, (∀ r, r < 3 → w.cell? ((a.add (i * 3)).add r) = (encB e)[r]?) ∧ TermAt w e.v e.l ∧ wfN e.x ∧ (∀ c ∈ e.l, wfN (c.vn, c.vk)) ∧ ∀ M : Nat, (∀ y ∈ DataW.weights Tryz.prog 73 (D i), y ≤ M) → e.l.length * 48 ≤ M := by
    intro i hi
    obtain ⟨cs, h1, h2⟩ := hel i hi
    obtain ⟨e, rfl, h3⟩ := open_bd h2
    exact ⟨e, (World.cells?_some h1).2.2, h3⟩
   obtain ⟨f, hf⟩ := @choose_lt Bn ⟨⟨(0, 0), none, 0, 0, []⟩⟩ m _ hc
   have h00 := (hf 0 (by omega)).1 0 (by omega)
   obtain ⟨b, o, spot⟩ := a
   have hspot : spot = none := by
    have h01 : w.cell? (((⟨b, o, spot⟩ : Addr).add (0 * 3)).add 0) = some (.int .i64 (f 0).x.1) := h00
    simpa [Addr.add] using World.cell?_spot h01
   subst hspot
   have hr : w.rangeAt b o (((List.range len).map f).flatMap encB) := by
    intro j u hu
    obtain ⟨hi, hv⟩ := encB_div _ j u hu
    simp at hi
    have h2 := (hf (j / 3) (by omega)).1 (j % 3) (by omega)
    rw [Addr.add_mid, Addr.add_mid, show o + j / 3 * 3 + j % 3 = o + j by omega] at h2
    rw [h2]
    simpa using hv
   have hb : b < w.heap.size := by
    have h01 : w.cell? (((⟨b, o, none⟩ : Addr).add (0 * 3)).add 0) = some (.int .i64 (f 0).x.1) := h00
    rw [Addr.add_mid, Addr.add_mid] at h01
    exact World.block_lt_of_cell? w _ h01
   refine ⟨some ⟨b, o, none⟩, len, _, (List.range len).map f, hcs, fun M hM8 hM => ⟨⟨⟨by simp, .inr ⟨b, o, rfl, hb, hr⟩⟩, fun e he => ?_⟩, ?_⟩⟩
   ·simp only [List.mem_map, List.mem_range] at he
    obtain ⟨i, hi, rfl⟩ := he
    obtain ⟨_, k1, k2, k3, k4⟩ := hf i (by omega)
    refine ⟨k1, k2, k3, Nat.le_trans (k4 M fun y hy => hM y ?_) hM8⟩
    rw [hx]
    simp only [DataW.weights, Tryz.underlying22, List.mem_cons, List.mem_append]
    right; left
    exact weightsAll_mem (List.mem_map.2 ⟨i, by simpa using hi, rfl⟩) hy
   ·have h1 := hM ((len + (m - len)) * 40) (by
     rw [hx]
     simp [DataW.weights, Tryz.underlying22, bytes43])
    have h2 : len * 40 ≤ (len + (m - len)) * 40 := Nat.mul_le_mul_right _ (by omega)
    omega
end
theorem bulk_pos {H : Type} (d : DataW H) : 1 ≤ Rows.uptoBulk d := by
 cases d with
 | lit x => cases x <;> simp [Rows.uptoBulk]
 | _ => simp [Rows.uptoBulk]
theorem bulkAll_len {H : Type} : ∀ ds : List (DataW H), ds.length ≤ Rows.uptoBulkAll ds
 | [] => by simp
 | d :: r => by
  have h1 := bulk_pos d
  have h2 := bulkAll_len r
  simp only [Rows.uptoBulkAll, List.length_cons]
  omega
theorem bds_bulk {H : Type} {enc : TypeId × Value → H} {w : World} {base : Nat} {held : Bool} {fuel : Nat} {a : Option Addr} {n c : Nat} {x : DataW H × List MemPlace} (h : DataW.trod enc Tryz.prog w base (fun _ => true) held fuel 22 [.slice a n c] = some x) : n ≤ Rows.uptoBulk x.1 := by
 rcases open_slice Tryz.underlying22 h with ⟨hcs, hx⟩ | ⟨a', len, cap, m, n', D, Pl, hcs, _, hl, hmx, hm, hx, hel⟩
 ·simp only [List.cons.injEq, and_true, Value.slice.injEq] at hcs
  rw [hcs.2.1]
  simp
 ·simp only [List.cons.injEq, and_true, Value.slice.injEq] at hcs
  rw [hx, hcs.2.1]
  simp only [Rows.uptoBulk]
  have := bulkAll_len ((List.range len).map D)
  simp only [List.length_map, List.length_range] at this
  omega
section
variable {H : Type} {enc : TypeId × Value → H} {w : World} {base : Nat} {held : Bool}
theorem open_rowW {fuel : Nat} {v : Value} {x : DataW H × List MemPlace} (h : DataW.trod enc Tryz.prog w base (fun _ => true) held fuel 33 [v] = some x) :
  ∃ ls : List (List C), RowAt w v ls ∧ (∀ M : Nat, (∀ y ∈ DataW.weights Tryz.prog 33 x.1, y ≤ M) → ls.length * 24 ≤ M ∧ ∀ l ∈ ls, l.length * 48 ≤ M) ∧ (∀ l ∈ ls, ∀ c ∈ l, wfN (c.vn, c.vk) ∧ c.t.size ≤ maxLen) ∧ ls.length ≤ Rows.uptoBulk x.1 := by
 rcases open_slice1 Tryz.underlying33 cells29 h with ⟨hcs, hx⟩ | ⟨a, len, cap, m, n, V, D, Pl, hcs, _, hl, hmx, hm, hx, hel⟩
 ·simp only [List.cons.injEq, and_true] at hcs
  subst hcs
  exact ⟨[], ⟨by simp, Or.inl ⟨rfl, none, rfl⟩⟩, fun M _ => by simp, by simp, by simp⟩
 ·simp only [List.cons.injEq, and_true] at hcs
  subst hcs
  simp only [if_true] at hm
  subst hm
  by_cases h0 : m = 0
  ·have hl0 : len = 0 := by omega
   subst h0 hl0
   exact ⟨[], ⟨by simp, Or.inl ⟨rfl, some a, rfl⟩⟩, fun M _ => by simp, by simp, by simp⟩
  ·have hc : ∀ i, i < m → ∃ l : List C, TermAt w (V i) l ∧ (∀ M : Nat, (∀ y ∈ DataW.weights Tryz.prog 24 (D i), y ≤ M) → l.length * 48 ≤ M) ∧ (∀ c ∈ l, wfN (c.vn, c.vk) ∧ c.t.size ≤ maxLen) := fun i hi => by
    obtain ⟨l, h1, h2⟩ := open_term (hel i hi).2
    exact ⟨l, h1, h2, fun c hc => ⟨term_wf (hel i hi).2 h1 c hc, h1.1.2 c hc⟩⟩
   obtain ⟨f, hf⟩ := @choose_lt (List C) ⟨[]⟩ m _ hc
   have h00 := (hel 0 (by omega)).1
   obtain ⟨b, o, spot⟩ := a
   have hspot : spot = none := by simpa [Addr.add] using World.cell?_spot h00
   subst hspot
   have hb : b < w.heap.size := by
    rw [Addr.add_mid] at h00
    exact World.block_lt_of_cell? w _ h00
   refine ⟨(List.range len).map f, ⟨by simp; omega, Or.inr ⟨b, o, m, (List.range len).map V, by simp, by simp; exact hl, hmx, hb, by simp, ?_, ?_⟩⟩, ?_, ?_, ?_⟩
   ·intro j u hu
    simp only [List.getElem?_map, Option.map_eq_some_iff] at hu
    obtain ⟨i, hi, rfl⟩ := hu
    have hj : j < len := by have := (List.getElem?_eq_some_iff.1 hi).1; simpa using this
    rw [List.getElem?_range hj] at hi
    cases hi
    have := (hel j (by omega)).1
    rw [Addr.add_mid] at this
    exact this
   ·intro i u l hu hl'
    simp only [List.getElem?_map, Option.map_eq_some_iff] at hu hl'
    obtain ⟨j, hj, rfl⟩ := hu
    obtain ⟨j', hj', rfl⟩ := hl'
    rw [hj] at hj'
    cases hj'
    have hlt : i < len := by have := (List.getElem?_eq_some_iff.1 hj).1; simpa using this
    rw [List.getElem?_range hlt] at hj
    cases hj
    exact (hf i (by omega)).1
   ·intro M hM
    refine ⟨?_, ?_⟩
    ·have h1 := hM ((len + (m - len)) * 24) (by
      rw [hx]
      simp [DataW.weights, Tryz.underlying33, bytes29])
     have h2 : len * 24 ≤ (len + (m - len)) * 24 := Nat.mul_le_mul_right _ (by omega)
     simp; omega
    ·intro l hl'
     simp only [List.mem_map, List.mem_range] at hl'
     obtain ⟨i, hi, rfl⟩ := hl'
     refine (hf i (by omega)).2.1 M (fun y hy => hM y ?_)
     rw [hx]
     simp only [DataW.weights, Tryz.underlying33, List.mem_cons, List.mem_append]
     right; left
     exact weightsAll_mem (List.mem_map.2 ⟨i, by simpa using hi, rfl⟩) hy
   ·intro l hl'
    simp only [List.mem_map, List.mem_range] at hl'
    obtain ⟨i, hi, rfl⟩ := hl'
    exact (hf i (by omega)).2.2
   ·have h1 := bulkAll_len ((List.range len).map D)
    simp only [List.length_map, List.length_range] at h1 ⊢
    rw [hx]
    simp only [Rows.uptoBulk]
    omega
end
set_option maxRecDepth 100000 in
theorem contract (H : Type) (enc : TypeId × Value → H) (W : World) (base : Nat) (args : Array Value) (ds gs : List (DataW H)) (before : List MemPlace)
  (hval : ∀ (j : Nat) t v, Tryz.f4.params[j]? = some t → args[j]? = some v → Value.okWide Tryz.prog W .any base t v)
  (hW : DataW.Whole enc Tryz.prog Tryz.f4.params.toList Rows.unifySolvesSpec.vars false W args.toList ds gs before) (hL : laidMetH Tryz.prog Rows.unifySolvesUptoRow.laid W)
  (hk : Rows.uptoSmall H (ds ++ gs) = true)
  (hsz : (DataW.weightsEach Tryz.prog (Tryz.f4.params.toList ++ (Rows.OpenSpec.upto Rows.unifySolvesSpec).bare.plain.varTypes Tryz.prog) (ds ++ gs)).all (· ≤ reachBytes) = true) :
  Calls Tryz.prog 4 args W fun e W' => ∃ v, e = .returned v ∧ Rows.unifySolvesSpec.post enc Tryz.prog Tryz.f4 false true false false W args v W' := by
 have hW' := hW
 obtain ⟨p, q, hA0, hV, rfl, hfz, hnd⟩ := hW
 have hA : DataW.TrodAll enc Tryz.prog W 0 (fun _ => true) true Tryz.f4.params.toList args.toList ds p := hA0
 rw [Tryz.params4] at hA hval hsz
 obtain ⟨v0, vs0, d0, ds0, p0, q0, hargs, rfl, rfl, h0, r0⟩ := trodAll_cons hA
 obtain ⟨v1, vs1, d1, ds1, p1, q1, rfl, rfl, rfl, h1, r1⟩ := trodAll_cons r0
 obtain ⟨v2, vs2, d2, ds2, p2, q2, rfl, rfl, rfl, h2, r2⟩ := trodAll_cons r1
 obtain ⟨rfl, rfl, rfl⟩ := trodAll_nil r2
 obtain rfl : args = #[v0, v1, v2] := by cases args; simp_all
 obtain ⟨rfl, rfl⟩ := trodVars_none hV
 have h0k := h0
 have h1k := h1
 have h2k := h2
 clear hA0
 simp only [List.append_nil] at hW'
 have lt0 : ∀ x ∈ p0, x.block < W.heap.size := by obtain ⟨m, hm⟩ := h0k; exact DataW.trod_lt m _ _ _ hm
 have lt1 : ∀ x ∈ p1, x.block < W.heap.size := by obtain ⟨m, hm⟩ := h1k; exact DataW.trod_lt m _ _ _ hm
 have lt2 : ∀ x ∈ p2, x.block < W.heap.size := by obtain ⟨m, hm⟩ := h2k; exact DataW.trod_lt m _ _ _ hm
 obtain ⟨b0, len0, cap0, rfl⟩ := okWide_slice Tryz.underlying22 (hval 0 22 v0 rfl rfl)
 obtain ⟨k1, e1⟩ := okWide_int Tryz.underlying3 (hval 1 3 v1 rfl rfl)
 subst e1
 obtain ⟨b2, len2, cap2, rfl⟩ := okWide_slice Tryz.underlying33 (hval 2 33 v2 rfl rfl)
 obtain ⟨fuel0, hf0⟩ := h0
 obtain ⟨fuel2, hf2⟩ := h2
 obtain ⟨a0, n0, c0, bs0, e0, hD0⟩ := open_bds (by simpa [Value.cells] using hf0)
 simp only [Value.slice.injEq] at e0
 obtain ⟨rfl, rfl, rfl⟩ := e0
 have hall0 : ∀ y ∈ DataW.weights Tryz.prog 22 d0, y ≤ 140737488351232 := fun y hy => by
  have h := List.all_eq_true.1 hsz y (by
   simp only [List.cons_append, DataW.weightsEach, List.mem_append]
   simp [hy])
  have h2 : y ≤ reachBytes := by simpa using h
  have h3 : reachBytes = 140737488351232 := by decide
  omega
 obtain ⟨k0, _⟩ := hD0 140737488351232 (by omega) hall0
 have hf2' := hf2
 simp only [Value.cells] at hf2'
 obtain ⟨ls2, hR2, hM2, hw2, hb2⟩ := open_rowW hf2'
 have hall2 : ∀ y ∈ DataW.weights Tryz.prog 33 d2, y ≤ 140737488351232 := fun y hy => by
  have h := List.all_eq_true.1 hsz y (by
   simp only [List.cons_append, DataW.weightsEach, List.mem_append]
   simp [DataW.weightsEach, hy])
  have h2 : y ≤ reachBytes := by simpa using h
  have h3 : reachBytes = 140737488351232 := by decide
  omega
 obtain ⟨hr2, hs2⟩ := hM2 140737488351232 hall2
 have hk' := of_decide_eq_true hk
 simp only [List.append_nil, Rows.uptoBulkAll] at hk'
 have hb0 := bds_bulk (by simpa [Value.cells] using hf0)
 dsimp only at hb0 hb2
 refine (t4 b0 len0 cap0 bs0 k1 _ ls2 W k0 (by omega) hR2 (by omega) (fun l hl c hc => (hw2 l hl c hc).1) (fun l hl => by have := hs2 l hl; omega) (fun l hl c hc => (hw2 l hl c hc).2) (Laid.signs_of hL)).mono fun e W' ⟨he, hb⟩ => ?_
 subst he
 exact ⟨_, rfl, _, _, _, [], _, [], hW', trodAll_mk1 (shut_bool Tryz.underlying4 _), (trodAll_cons_mk
  (Below.trod laidOut (by kernel_rfl) (of_decide_eq_true (by kernel_rfl)) h0k hb lt0) (trodAll_cons_mk
  (Below.trod laidOut (by kernel_rfl) (of_decide_eq_true (by kernel_rfl)) h1k hb lt1) (trodAll_cons_mk
  (Below.trod laidOut (by kernel_rfl) (of_decide_eq_true (by kernel_rfl)) h2k hb lt2) trodAll_mk0))), rfl, hb.frame _, fun h => by cases h⟩

theorem laid_met (os : Os) : laidMet Tryz.prog Rows.unifySolvesUptoRow.laid ((laidOn (World.holding Tryz.prog os ⟨#[], #[], []⟩)).forCall (fun _ _ => 0) ⟨#[], #[.slice none 0 0, .int .i64 0, .slice none 0 0], []⟩).memory :=
 laidMet_of_run' 8 (by kernel_rfl) (by kernel_rfl)
theorem reads (os : Os) {H : Type} (enc : TypeId × Value → H) : ∃ places, DataW.whole enc Tryz.prog ((laidOn (World.holding Tryz.prog os ⟨#[], #[], []⟩)).forCall (fun _ _ => 0) ⟨#[], #[.slice none 0 0, .int .i64 0, .slice none 0 0], []⟩).memory Tryz.f4.params.toList Rows.unifySolvesSpec.vars false #[Value.slice none 0 0, .int .i64 0, .slice none 0 0].toList 8 = some ([.nil, .lit (.int .i64 0), .nil], [], places) :=
 ⟨[], by kernel_rfl⟩

set_option maxRecDepth 100000 in
theorem lifted (os : Os) (started : os.Started) (H : Type) (enc : TypeId × Value → H) (F : Stop.Interp) :
  ReturnsInHanded {} Tryz.checked os 4 .any ((Rows.OpenSpec.upto Rows.unifySolvesSpec).preRow enc Tryz.prog Tryz.f4 Rows.unifySolvesUptoRow.domain false Rows.unifySolvesUptoRow.laid) (((Rows.OpenSpec.upto Rows.unifySolvesSpec).at F).post enc Tryz.prog Tryz.f4 false true false false) := by
 obtain ⟨places, hx⟩ := reads os enc
 refine returnsInHanded_of_row (C := Tryz.checked) (s := Rows.OpenSpec.upto Rows.unifySolvesSpec) own started (by kernel_rfl) Tryz.func4
  (witness_row_at (enc := enc) (C := Tryz.checked) false (laidOn (World.holding Tryz.prog os ⟨#[], #[], []⟩)) #[.slice none 0 0, .int .i64 0, .slice none 0 0] rfl (by kernel_rfl) (by kernel_rfl) (by kernel_rfl)
   (OpenSpec.preRow_of_cond 8 hx (by kernel_rfl) (fun k hk => by cases hk; kernel_rfl) (by kernel_rfl) (laid_met os))) ?_
 intro W base args ds gs before hval hW _ hcond hsz hL _ _
 exact contract H enc W base args ds gs before hval hW hL (hcond _ rfl) hsz

theorem said : Rows.UnifySolvesUptoSaid :=
 OpenClaim.holds_of_cond 4 Tryz.f4 rfl rfl rfl rfl rfl rfl rfl ⟨rfl, rfl, rfl, rfl, rfl⟩ rfl rfl rfl rfl rfl (by kernel_rfl) Tryz.func4 (by kernel_rfl)
  (of_decide_eq_true (by kernel_rfl)) (by unfold Func.isWrapper; first | (rw [if_pos (by decide +kernel)]; kernel_rfl) | (rw [if_neg (by decide +kernel)]; exact ⟨rfl, rfl⟩))
  (fun os started H enc _ F => by rw [OpenClaim.pre_eq_preRow]; exact lifted os started H enc F)

/-- No parameter wants a stand-in; the program's own looks are off. -/
theorem plain (f : FuncId) (fn : Func) (hf : Tryz.pinned.checked.prog.funcNamed Tryz.f4.name = some f) (hfn : Tryz.pinned.checked.prog.funcs[f]? = some fn) :
  true = Tryz.pinned.checked.prog.looks [] ∧ ∀ (j : Nat) t, fn.params[j]? = some t → Tryz.pinned.checked.prog.wantsStandIn t = false := by
 obtain rfl : f = 4 := Option.some.inj ((show Tryz.prog.funcNamed Tryz.f4.name = some 4 by kernel_rfl).symm.trans hf) |>.symm
 obtain rfl : fn = Tryz.f4 := (Option.some.inj (Tryz.func4.symm.trans hfn)).symm
 refine ⟨by kernel_rfl, fun j t ht => ?_⟩
 rw [Tryz.params4] at ht
 have hm : t ∈ #[22, 3, 33] := Array.mem_of_getElem? ht
 have h2 : t = 22 ∨ t = 3 ∨ t = 33 := by simpa using hm
 rcases h2 with rfl | rfl | rfl
 ·exact (show Tryz.prog.wantsStandIn 22 = false by kernel_rfl)
 ·exact (show Tryz.prog.wantsStandIn 3 = false by kernel_rfl)
 ·exact (show Tryz.prog.wantsStandIn 33 = false by kernel_rfl)
end Go.Proofs.YtljggjllijacjaaGreatDoor.SolvesC

namespace Go.Proofs.YtljggjllijacjaaGreatDoor
open SolvesC
/-- THE CARD. -/
theorem unifySolvesUpto_holds : Rows.UnifySolvesUptoCardSaid :=
 Claim7.holds_tied_plain_at .later [] _ _ _ _ said (fun _ h => by cases h) (by kernel_rfl) (fun _ h => by cases h) unifySolvesUpto_row_tie rfl ⟨rfl, rfl⟩ (by kernel_rfl) rfl plain (by kernel_rfl)
end Go.Proofs.YtljggjllijacjaaGreatDoor
