/- For every two programs, name, arity, number of a clause and row of goals the statement on a program's predicates, clauses, calls and on what is reached (P4.3) returns true and its arguments read as before, where what is handed in holds at most 1048576 values and letters; the package's row of signs is as its initialiser lays it, and the card ties it to the program's text. -/
import Derived.Test.YtlfccjlifjppdaaGreatDoorQ11
import Derived.Test.YtlfccjlifjppdaaGreatDoorQ29
import Derived.Test.YtlfccjlifjppdaaGreatDoorQ32
namespace Go.Proofs.YtlfccjlifjppdaaGreatDoor.PredsC
open Go.ChangeShapes Go.WideShapes Go.ChangeAt Go.RowKit Go.Joins Go.Proofs.YtlfccjlifjppdaaGreatDoor.Laid

set_option maxRecDepth 100000 in
theorem contract (H : Type) (enc : TypeId × Value → H) (W : World) (base : Nat) (args : Array Value) (ds gs : List (DataW H)) (before : List MemPlace)
    (hval : ∀ (j : Nat) t v, Tryz.f4.params[j]? = some t → args[j]? = some v → Value.okWide Tryz.prog W .any base t v)
    (hW : DataW.Whole enc Tryz.prog Tryz.f4.params.toList Rows.checkPredsSpec.vars false W args.toList ds gs before) (hL : laidMetH Tryz.prog Rows.checkPredsUptoRow.laid W)
    (hk : Rows.uptoSmall H (ds ++ gs) = true)
    (hsz : (DataW.weightsEach Tryz.prog (Tryz.f4.params.toList ++ (Rows.OpenSpec.upto Rows.checkPredsSpec).bare.plain.varTypes Tryz.prog) (ds ++ gs)).all (· ≤ reachBytes) = true) :
    Calls Tryz.prog 4 args W fun e W' => ∃ v, e = .returned v ∧ Rows.checkPredsSpec.post enc Tryz.prog Tryz.f4 false true false false W args v W' := by
  have hW' := hW
  obtain ⟨p, q, hA0, hV, rfl, hfz, hnd⟩ := hW
  have hA : DataW.TrodAll enc Tryz.prog W 0 (fun _ => true) true Tryz.f4.params.toList args.toList ds p := hA0
  rw [Tryz.params4] at hA hval hsz
  obtain ⟨v0, vs0, d0, ds0, p0, q0, hargs, rfl, rfl, h0, r0⟩ := trodAll_cons hA
  obtain ⟨v1, vs1, d1, ds1, p1, q1, hargs1, rfl, rfl, h1, r1⟩ := trodAll_cons r0
  obtain ⟨v2, vs2, d2, ds2, p2, q2, hargs2, rfl, rfl, h2, r2⟩ := trodAll_cons r1
  obtain ⟨rfl, rfl, rfl⟩ := trodAll_nil r2
  obtain rfl : args = #[v0, v1, v2] := by cases args; simp_all
  obtain ⟨rfl, rfl⟩ := trodVars_none hV
  have h0k := h0
  have h1k := h1
  have h2k := h2
  clear hA0
  simp only [List.append_nil] at hW'
  have hlt : ∀ y ∈ p0 ++ (p1 ++ p2), y.block < W.heap.size := fun y hy => hW'.lt y (by simpa using hy)
  obtain ⟨a0, len0, cap0, rfl⟩ := okWide_slice Tryz.underlying23 (hval 0 23 v0 rfl rfl)
  obtain ⟨a1, len1, cap1, rfl⟩ := okWide_slice Tryz.underlying23 (hval 1 23 v1 rfl rfl)
  obtain ⟨f0, t0⟩ := h0
  obtain ⟨cs, hP, hD, hwt⟩ := open_prog t0
  obtain ⟨f1, t1⟩ := h1
  obtain ⟨cs1, hQ, hD1, hwt1⟩ := open_prog t1
  obtain ⟨x0, x1, x2, x3, y0, y1, y2, y3, n2, rfl, rfl, rfl, s0, s1, s2, s3⟩ := open_agg4 Tryz.underlying34 (by kernel_rfl) cells34 (hval 2 34 v2 rfl rfl) h2
  obtain ⟨nm, e0, f2, hnm⟩ := DataW.trod_string Tryz.underlying9 s0
  obtain ⟨ar, e1, f3, har⟩ := DataW.trod_int Tryz.underlying3 s1
  obtain ⟨cl, e2, f4, _⟩ := DataW.trod_int Tryz.underlying3 s2
  simp at e0 e1 e2
  subst e0 e1 e2
  obtain ⟨ls, hR, hwr⟩ := open_row s3
  have hby := hwt reachBytes (fun y hy => by
      have := List.all_eq_true.1 hsz y (by simp [DataW.weightsEach, hy])
      simpa using this)
  have hby1 := hwt1 reachBytes (fun y hy => by
      have := List.all_eq_true.1 hsz y (by simp [DataW.weightsEach, hy])
      simpa using this)
  have hbyr := hwr reachBytes (fun y hy => by
      have := List.all_eq_true.1 hsz y (by simp [DataW.weightsEach, DataW.weights, Tryz.underlying34, hy])
      simpa using this)
  have h3 := reachBytes_lt
  have hF : Fits cs := fits_of hD (by omega) (fun c hc => by have := hby.2 c hc; omega)
  have hF1 : Fits cs1 := fits_of hD1 (by omega) (fun c hc => by have := hby1.2 c hc; omega)
  have hk' := of_decide_eq_true hk
  simp only [List.cons_append, List.nil_append, Rows.uptoBulkAll, Rows.uptoBulk] at hk'
  have hb0 : goals cs ≤ Rows.uptoBulk d0 := prog_bulk t0 hP
  have hl0 : cs.length ≤ Rows.uptoBulk d0 := prog_len t0 hP
  have hl1 : cs1.length ≤ Rows.uptoBulk d1 := prog_len t1 hQ
  have hb1 : ls.length ≤ Rows.uptoBulk y3.1 := row_bulk s3 hR
  have hu := univ_goals cs ls
  have hrw := row_wf s3 hR
  have hhd := heads_two cs cs1
  refine (k4p cs cs1 hF hF1 ls nm ar cl _ _ _ W hP hQ hR (signs_of hL) ⟨hnm, har⟩ (fun c hc => by have := mem_goals cs c hc; omega) (by omega) (fun l hl => by have := hbyr.2 l hl; omega) (fun l hl x hx => (hrw l hl x hx).2.2) (calledW hrw) (by omega) (by omega) (by omega)).mono fun e W' ⟨he, hb⟩ => ?_
  subst he
  exact ⟨_, rfl, _, _, _, [], _, [], hW', trodAll_mk1 (shut_bool Tryz.underlying4 _), trodAll_mk3
    (Below.trod laidOut (by kernel_rfl) (of_decide_eq_true (by kernel_rfl)) h0k hb (fun y hy => hlt y (by simp [hy])))
    (Below.trod laidOut (by kernel_rfl) (of_decide_eq_true (by kernel_rfl)) h1k hb (fun y hy => hlt y (by simp [hy])))
    (Below.trod laidOut (by kernel_rfl) (of_decide_eq_true (by kernel_rfl)) h2k hb (fun y hy => hlt y (List.mem_append_right _ (List.mem_append_right _ hy)))), rfl, hb.frame _, fun h => by cases h⟩

theorem laid_met (os : Os) : laidMet Tryz.prog Rows.checkPredsUptoRow.laid ((laidOn (World.holding Tryz.prog os ⟨#[], #[], []⟩)).forCall (fun _ _ => 0) ⟨#[], #[.slice none 0 0, .slice none 0 0, .agg #[.string ⟨#[]⟩, .int .i64 0, .int .i64 0, .slice none 0 0]], []⟩).memory :=
  laidMet_of_run' 8 (by kernel_rfl) (by kernel_rfl)
theorem reads (os : Os) {H : Type} (enc : TypeId × Value → H) : ∃ places, DataW.whole enc Tryz.prog ((laidOn (World.holding Tryz.prog os ⟨#[], #[], []⟩)).forCall (fun _ _ => 0) ⟨#[], #[.slice none 0 0, .slice none 0 0, .agg #[.string ⟨#[]⟩, .int .i64 0, .int .i64 0, .slice none 0 0]], []⟩).memory Tryz.f4.params.toList Rows.checkPredsSpec.vars false #[Value.slice none 0 0, .slice none 0 0, .agg #[.string ⟨#[]⟩, .int .i64 0, .int .i64 0, .slice none 0 0]].toList 8 = some ([.nil, .nil, .agg [.lit (.string []), .lit (.int .i64 0), .lit (.int .i64 0), .nil]], [], places) :=
  ⟨[], by kernel_rfl⟩

set_option maxRecDepth 100000 in
theorem lifted (os : Os) (started : os.Started) (H : Type) (enc : TypeId × Value → H) (F : Stop.Interp) :
    ReturnsInHanded {} Tryz.checked os 4 .any ((Rows.OpenSpec.upto Rows.checkPredsSpec).preRow enc Tryz.prog Tryz.f4 Rows.checkPredsUptoRow.domain false Rows.checkPredsUptoRow.laid) (((Rows.OpenSpec.upto Rows.checkPredsSpec).at F).post enc Tryz.prog Tryz.f4 false true false false) := by
  obtain ⟨places, hx⟩ := reads os enc
  refine returnsInHanded_of_row (C := Tryz.checked) (s := Rows.OpenSpec.upto Rows.checkPredsSpec) own started (by kernel_rfl) Tryz.func4
    (witness_row_at (enc := enc) (C := Tryz.checked) false (laidOn (World.holding Tryz.prog os ⟨#[], #[], []⟩)) #[.slice none 0 0, .slice none 0 0, .agg #[.string ⟨#[]⟩, .int .i64 0, .int .i64 0, .slice none 0 0]] rfl (by kernel_rfl) (by kernel_rfl) (by kernel_rfl)
      (OpenSpec.preRow_of_cond 8 hx (by kernel_rfl) (fun k hk => by cases hk; kernel_rfl) (by kernel_rfl) (laid_met os))) ?_
  intro W base args ds gs before hval hW _ hcond hsz hL _ _
  exact contract H enc W base args ds gs before hval hW hL (hcond _ rfl) hsz

theorem said : Rows.CheckPredsUptoSaid :=
  OpenClaim.holds_of_cond 4 Tryz.f4 rfl rfl rfl rfl rfl rfl rfl ⟨rfl, rfl, rfl, rfl, rfl⟩ rfl rfl rfl rfl rfl (by kernel_rfl) Tryz.func4 (by kernel_rfl)
    (of_decide_eq_true (by kernel_rfl)) (by unfold Func.isWrapper; first | (rw [if_pos (by decide +kernel)]; kernel_rfl) | (rw [if_neg (by decide +kernel)]; exact ⟨rfl, rfl⟩))
    (fun os started H enc _ F => by rw [OpenClaim.pre_eq_preRow]; exact lifted os started H enc F)

/-- No parameter wants a stand-in; the program's own looks are off. -/
theorem plain (f : FuncId) (fn : Func) (hf : Tryz.pinned.checked.prog.funcNamed Tryz.f4.name = some f) (hfn : Tryz.pinned.checked.prog.funcs[f]? = some fn) :
    false = Tryz.pinned.checked.prog.looks [] ∧ ∀ (j : Nat) t, fn.params[j]? = some t → Tryz.pinned.checked.prog.wantsStandIn t = false := by
  obtain rfl : f = 4 := Option.some.inj ((show Tryz.prog.funcNamed Tryz.f4.name = some 4 by kernel_rfl).symm.trans hf) |>.symm
  obtain rfl : fn = Tryz.f4 := (Option.some.inj (Tryz.func4.symm.trans hfn)).symm
  refine ⟨by kernel_rfl, fun j t ht => ?_⟩
  rw [Tryz.params4] at ht
  have hm : t ∈ #[23, 23, 34] := Array.mem_of_getElem? ht
  have h2 : t = 23 ∨ t = 34 := by simpa using hm
  rcases h2 with rfl | rfl
  · exact (show Tryz.prog.wantsStandIn 23 = false by kernel_rfl)
  · exact (show Tryz.prog.wantsStandIn 34 = false by kernel_rfl)
end Go.Proofs.YtlfccjlifjppdaaGreatDoor.PredsC

namespace Go.Proofs.YtlfccjlifjppdaaGreatDoor
open PredsC
/-- THE CARD. -/
theorem checkPredsUpto_holds : Rows.CheckPredsUptoCardSaid :=
  Claim7.holds_tied_plain_at .later [] _ _ _ _ said (fun _ h => by cases h) (by kernel_rfl) (fun _ h => by cases h) checkPredsUpto_row_tie rfl ⟨rfl, rfl⟩ (by kernel_rfl) rfl plain (by kernel_rfl)
end Go.Proofs.YtlfccjlifjppdaaGreatDoor
