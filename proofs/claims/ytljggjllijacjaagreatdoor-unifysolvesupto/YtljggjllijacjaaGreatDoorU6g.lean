/- Regions in a round of a range over a function: their pure operations may be taken first. Contract of solvingBy without a map. -/
import Derived.Test.YtljggjllijacjaaGreatDoorU5g
import Derived.RangeFuncOwn
import Derived.RangeFuncKeeps
import Derived.RangeFuncFrom
import Derived.Deep.RegionHeld3
import Derived.Maps.AppendAt
namespace Go.Proofs.YtljggjllijacjaaGreatDoor
open Go.RowKit Go.Shelf
attribute [local go_sem] Oper.semAt_some
section
variable {F : Fence} {n : Nat} {P : Program} {l : Nat}
theorem wpInR {o : Oper} {a : Act} {w : World} {K : Act → World → Prop} {Q : Exit → Act → World → Prop} (hd : ∀ c, o.op ≠ Op.defer c) (h : Oper.wpIn F n P o a w K Q) : Oper.wpIn (F.inRound l) n P o a w K Q := by
 unfold Oper.wpIn at *
 rw [Oper.semAt_eq _ _ _ hd] at *
 exact h
def noDefer (ops : Array Oper) : Bool := ops.toList.all fun o => match o.op with | .defer _ => false | _ => true
theorem noDefer_spec {ops : Array Oper} (h : noDefer ops = true) (j : Nat) (o : Oper) (c) (ho : ops[j]? = some o) : o.op ≠ Op.defer c := by
 intro e
 unfold noDefer at h
 rw [List.all_eq_true] at h
 have := h o (by rw [Array.mem_toList_iff]; exact Array.mem_of_getElem? ho)
 rw [e] at this
 cases this
end
/-- The end alone. -/
def OnlyN (Q : Exit → Act → World → Prop) : Exit → Act → World → Prop
 | .normal, a, w => Q .normal a w
 | _, _, _ => False
theorem onlyN_imp {Q : Exit → Act → World → Prop} : ∀ (e : Exit) (a : Act) (w : World), OnlyN Q e a w → Q e a w := fun e a w h => by
 cases e <;> first | exact h | exact False.elim h
theorem onlyN_out {Q : Exit → Act → World → Prop} : ¬ LetsOut (OnlyN Q) := fun ⟨_, _, h⟩ => h
section
variable {n : Nat} {P : Program} {l : Nat}
theorem opIn_of_wp {o : Oper} {a : Act} {w : World} {K : Act → World → Prop} {Q : Exit → Act → World → Prop} (hd : ∀ c, o.op ≠ Op.defer c) (h : Oper.wp P o a w K Q) : Oper.wpIn (Fence.wide.inRound l) n P o a w K Q := by
 refine wpInR hd ?_
 unfold Oper.wpIn
 rw [Oper.semAt_eq _ _ _ hd]
 refine ⟨fun _ _ => trivial, ?_⟩
 unfold Oper.wp at h
 generalize (execOp a.eval o).run P w = r at *
 cases r with
 | ok x w' =>
  cases x <;> simp only [Oper.upon, Oper.uponIn] at h ⊢
  case value => exact h
  case skip => exact h
  case defer => exact h
  case enter =>
   refine ⟨fun e => ?_, callsIn_wide.2 h⟩
   simp [Fence.wide] at e
  case row =>
   refine ⟨fun e => ?_, fun c cs _ => ?_⟩
   ·simp [Fence.wide] at e
   ·obtain ⟨v, w2, h1, h2⟩ := h c cs
    exact ⟨v, w2, h1, stepsIn_wide.2 h2⟩
 | halt x w' =>
  cases x <;> simp only [Oper.upon, Oper.uponIn] at h ⊢
  case panic => exact h
theorem opsIn_of_wp {ops : Array Oper} {Q : Exit → Act → World → Prop} {i : Nat} {K : Act → World → Prop} {a : Act} {w : World} (hd : ∀ (j : Nat) (o : Oper) c, ops[j]? = some o → o.op ≠ Op.defer c) (hQ : ¬ LetsOut Q) (h : wpOp P ops Q i K a w) : wpOpIn (Fence.wide.inRound l) n P ops Q i K a w := by
 unfold wpOp at h
 unfold wpOpIn
 cases ho : ops[i]? with
 | none => simpa [ho] using h
 | some o =>
  simp only [ho] at h ⊢
  split
  ·rename_i hw
   rw [if_pos hw] at h
   rcases h with h | h
   ·exact opIn_of_wp (fun c => hd i o c ho) h
   ·exact absurd h.2 hQ
  ·rename_i hw
   rw [if_neg hw] at h
   exact ⟨fun _ _ => trivial, h⟩
theorem anyIn_of_any {ops : Array Oper} {md : Region.Mode} {Q : Exit → Act → World → Prop} (hd : ∀ (j : Nat) (o : Oper) c, ops[j]? = some o → o.op ≠ Op.defer c) (hQ : ¬ LetsOut Q) : ∀ (fuel : Nat) (listed : Array Bool) (a : Act) (w : World), wpAny P md ops Q fuel listed a w → wpAnyIn (Fence.wide.inRound l) n P md ops Q fuel listed a w
 | 0, _, _, _, h => h
 | fuel + 1, _, _, _, h => ⟨h.1, fun i hi => wpOpIn_mono (fun a' w' h' => anyIn_of_any hd hQ fuel _ a' w' h') (opsIn_of_wp hd hQ (h.2 i hi))⟩
/-- A region in a round, in whatever order, S held. -/
theorem region_in {id : Nat} {ops : Array Oper} {Q : Exit → Act → World → Prop} {S : World → Prop} {a : Act} {w : World} (hnd : noDefer ops = true) (hm : P.follows .mixedOrders = true) (hS : S w.drew)
  (h : S w.drew → wpAnyH P .any ops (OnlyN Q) S ops.size (Array.replicate ops.size false) a w.drew) : (Code.region id ops true).wpIn (Fence.wide.inRound l) n P Q a w :=
 Code.wpIn_mono onlyN_imp (wpIn_region_any hm (anyIn_of_any (noDefer_spec hnd) onlyN_out _ _ _ _ (wpAny_of_held _ _ _ _ (h hS))))
/-- An append in a region, its row one's own. -/
theorem stepH_append {w : World} {ops : Array Oper} {o : Oper} {a : Act} {K : Act → World → Prop} {Q : Exit → Act → World → Prop} {E : Prop} (hgd : o.guard = none) (s x : Operand) (t : TypeId)
  (ho : o.op = .call { callee := .builtin .append, args := #[s, x], argTypes := #[t, t] })
  (base : Nat) (e : TypeId) (i : TypeInfo) (z : Value) (size bytes : Nat) (ht : P.underlying t = some (.slice e)) (hi : P.info? e = some i) (hz : i.zero = some z)
  (hsize : i.size = size) (hby : i.bytes = bytes) (hzs : z.cells.size = size) (hsz : 0 < size)
  (v : Value) (m0 : Nat) (xs : List Value) (hs : a.eval s = v) (hown : w.ownsRow base e size v m0 xs)
  (ad : Addr) (m c : Nat) (news : List Value) (hx : a.eval x = .slice (some ad) m c) (hl : news.length = m * size) (hnews : ∀ j u, news[j]? = some u → w.cell? (ad.add j) = some u) (h1 : ∀ u ∈ news, u.oneCell' = true)
  (h63 : m0 + m ≤ maxLen) (hbytes : (m0 + m) * bytes ≤ 140737488355328) (hbase : base ≤ w.heap.size)
  (h : ∀ v' w', w'.ownsRow base e size v' (m0 + m) (xs ++ news) → w.grownBy w' v.ownBlock → (v'.ownBlock = v.ownBlock ∨ v'.ownBlock = some w.heap.size) → K (a.put o.dst v') w') :
  if Region.wanted o (yielded ops a.tmps) = true then Oper.wp P o a w K Q else E := by
 have hw : Region.wanted o (yielded ops a.tmps) = true := by simp [Region.wanted, hgd]
 rw [if_pos hw]
 obtain ⟨v', w', hr, h2, h3, h4, h5⟩ := run_append_own_at (P := P) w base t o.type e i z size bytes ht hi hz hsize hby hzs hsz v m0 xs hown ad m c news hl hnews h1 h63 hbytes hbase
 unfold Oper.wp
 simp [execOp, ho, resolve, invoke, builtin, hs, hx, hr, Result.andThen, Oper.upon]
 exact h v' w' h2 h3 h5
end
set_option maxRecDepth 100000 in
theorem u71n (w : World) : Calls Tryz.prog 88 #[.pointer none] w fun e w' => e = .returned (.pointer none) ∧ w' = w := by
 go_enter Tryz.func88, Tryz.ntmps88
 go_wp2_with fail
 go_ret
 exact ⟨rfl, rfl⟩
/-- The record of what is being solved. -/
def SvAt (w : World) (sb hb : Nat) (bv rv : Value) (st : Int) : Prop := w.heap[sb]? = some (.cells #[.int .u8 0, bv, .slice none 0 0, .int .i64 st, .pointer (some ⟨hb, 0, none⟩), rv] 104 (0, 0))
def SbPost (ls : List (List C)) (e : Ending) (w w' : World) : Prop := ∃ sb hb M rv, e = .returned (.pointer (some ⟨sb, 0, none⟩)) ∧ SvAt w' sb hb (.slice none 0 0) rv 0 ∧ HpAt w' hb M 0 (.map []) [] ∧ OwnRow w' w.heap.size rv ls.reverse ∧ Below w.heap.size w w' ∧ w.heap.size ≤ sb ∧ w.heap.size ≤ hb ∧ w.heap.size ≤ M
def lsAt (ls : List (List C)) (x : Nat × Value) : List C := (ls[x.1]?).getD []
theorem cells_kept {A B : World} {row : Option Nat} (hg : A.grownBy B row) (hr : ∀ r, row = some r → ∃ o : Obj, A.heap[r]? = some o ∧ o.isCells = false) {k : Nat} {cs : Array Value} {t : TypeId} {fr : Nat × Nat} (h : A.heap[k]? = some (.cells cs t fr)) : B.heap[k]? = some (.cells cs t fr) :=
 (hg.block k (Array.getElem?_eq_some_iff.1 h).1 (fun e => by
  obtain ⟨o, h1, h2⟩ := hr k e.symm
  rw [h] at h1; cases h1; cases h2)).trans h
theorem owns_cells {A B : World} {row : Option Nat} (hg : A.grownBy B row) (hr : ∀ r, row = some r → ∃ o : Obj, A.heap[r]? = some o ∧ o.isCells = false) {n0 : Nat} {e : TypeId} {s n : Nat} {u : Value} {xs : List Value} (h : A.ownsRow n0 e s u n xs) : B.ownsRow n0 e s u n xs := by
 refine ⟨h.1, ?_⟩
 rcases h.2 with h1 | ⟨g, cap, cur, h1, h2, h3, h4⟩
 ·exact .inl h1
 ·exact .inr ⟨g, cap, cur, h1, h2, cells_kept hg hr h3, h4⟩
theorem ownRow_cells {A B : World} {row : Option Nat} (hg : A.grownBy B row) (hr : ∀ r, row = some r → ∃ o : Obj, A.heap[r]? = some o ∧ o.isCells = false) {n0 : Nat} {u : Value} {ls : List (List C)} (h : OwnRow A n0 u ls) : OwnRow B n0 u ls := by
 obtain ⟨us, h1, h2, h3⟩ := h
 exact ⟨us, owns_cells hg hr h1, fun j v x hv hx => owns_cells hg hr (h2 j v x hv hx), h3⟩
theorem typed_apart {W : World} {B s m k t : Nat} {v : Value} {xs : List Value} {cur : Array Value} (h : W.ownsRow B 24 s v m xs) (hk : W.heap[k]? = some (.cells cur t (0, 0))) (ht : t ≠ 24) : v.ownBlock ≠ some k := by
 intro e
 rcases h.2 with ⟨h1, _⟩ | ⟨g, cap, cu, h1, h2, h3, h4⟩
 ·rw [h1] at e; cases e
 ·rw [h1] at e
  simp only [Value.ownBlock, Option.some.injEq] at e
  subst e
  rw [h3] at hk
  simp only [Option.some.injEq, Obj.cells.injEq] at hk
  exact ht hk.2.1.symm
theorem sb_end {n1 hb : Nat} {W w3 w5 : World} {rv u v' sl : Value} {L : List (List C)} {l : List C} {us : List Value} (h1 : SvAt W n1 hb (.slice none 0 0) rv 0) (h2 : Boxed W (n1 + 1) 101 (.pointer (some ⟨n1, 0, none⟩))) (h4 : Boxed W (n1 + 2) 33 sl) (ho : W.ownsRow n1 24 1 rv L.length us) (hea : ∀ (j : Nat) (v : Value) (x : List C), us[j]? = some v → L[j]? = some x → OwnT W n1 v x) (hap : Ap us)
  (hb3 : Below W.heap.size W w3) (hO3 : OwnT w3 W.heap.size u l) (hown5 : w5.ownsRow n1 24 1 v' (L.length + 1) (us ++ [u])) (hgr : (w3.alloc (.cells #[u] 24)).grownBy w5 rv.ownBlock) :
  KeepsOthers W (w5.setCell ⟨n1, 5, none⟩ v') ∧ KpB n1 (n1 + 2) W (w5.setCell ⟨n1, 5, none⟩ v') ∧ SvAt (w5.setCell ⟨n1, 5, none⟩ v') n1 hb (.slice none 0 0) v' 0 ∧ Boxed (w5.setCell ⟨n1, 5, none⟩ v') (n1 + 1) 101 (.pointer (some ⟨n1, 0, none⟩)) ∧ Boxed (w5.setCell ⟨n1, 5, none⟩ v') (n1 + 2) 33 sl ∧ OwnRow (w5.setCell ⟨n1, 5, none⟩ v') n1 v' (L ++ [l]) := by
 have z2 := h4.lt
 have z3 := hb3.size
 have hkeep : ∀ k, k < W.heap.size → rv.ownBlock ≠ some k → w5.heap[k]? = W.heap[k]? := fun k hk hne => ((hgr.block k (by simp; omega) (fun e => hne e.symm)).trans (heap_alloc_old w3 _ (by omega))).trans (hb3.block k hk)
 have e1 := (hkeep n1 (by omega) (typed_apart ho h1 (by decide))).trans h1
 have e2 := (hkeep (n1 + 1) (by omega) (typed_apart ho h2 (by decide))).trans h2
 have e4 := (hkeep (n1 + 2) (by omega) (typed_apart ho h4 (by decide))).trans h4
 have hset : ∀ k, k ≠ n1 → (w5.setCell ⟨n1, 5, none⟩ v').heap[k]? = w5.heap[k]? := fun k hk => heap_setCell_other w5 ⟨n1, 5, none⟩ k v' hk
 have hoT : ∀ {x : Value} {y : List C} {B : Nat}, OwnT w3 B x y → OwnT (w5.setCell ⟨n1, 5, none⟩ v') B x y := fun {x y B} hx => by
  refine ⟨hx.1, ?_⟩
  rcases hx.2 with hh | ⟨g, cap, cu, f1, f2, f3, f4⟩
  ·exact .inl hh
  ·have hg3 := (Array.getElem?_eq_some_iff.1 f3).1
   have hg5 : w5.heap[g]? = some (.cells cu 78 (0, 0)) := by
    refine (hgr.block g (by simp; omega) (fun e => ?_)).trans ((heap_alloc_old w3 _ hg3).trans f3)
    rcases ho.2 with ⟨k1, _⟩ | ⟨g', c', cu', k1, k2, k3, k4⟩
    ·rw [k1] at e; cases e
    ·rw [k1] at e
     simp only [Value.ownBlock, Option.some.injEq] at e
     subst e
     have := (hb3.block g (Array.getElem?_eq_some_iff.1 k3).1).trans k3
     rw [f3] at this
     simp at this
   refine .inr ⟨g, cap, cu, f1, f2, (hset g (fun e => ?_)).trans hg5, f4⟩
   rw [e] at hg5
   rw [e1] at hg5
   simp at hg5
 refine ⟨?_, ⟨?_, ?_⟩, ?_, (hset (n1 + 1) (by omega)).trans e2, (hset (n1 + 2) (by omega)).trans e4, us ++ [u], ?_, ?_, ?_⟩
 ·refine ((KeepsOthers.trans ⟨hb3.size, fun k o hk hc => (hb3.block k (Array.getElem?_eq_some_iff.1 hk).1).trans hk⟩ (KeepsOthers.alloc w3 (.cells #[u] 24))).trans (KeepsOthers.of_grownBy hgr fun j o hj hjo => ?_)).trans (KeepsOthers.setCell w5 _ _)
  rcases ho.2 with ⟨k1, _⟩ | ⟨g', c', cu', k1, k2, k3, k4⟩
  ·rw [k1] at hj; cases hj
  ·rw [k1] at hj
   simp only [Value.ownBlock, Option.some.injEq] at hj
   subst hj
   have h5 := (heap_alloc_old w3 (.cells #[u] 24) (by have := (Array.getElem?_eq_some_iff.1 k3).1; omega)).trans ((hb3.block g' (Array.getElem?_eq_some_iff.1 k3).1).trans k3)
   rw [h5] at hjo
   cases hjo
   rfl
 ·exact ((((hb3.mono (by omega)).alloc (by omega) _).grown hgr (by simp; omega) (fun g hg => (ho.lt g hg).1)).setCell (p := ⟨n1, 5, none⟩) (Nat.le_refl _) _)
 ·exact ((hset (n1 + 2) (by omega)).trans e4).trans h4.symm
 ·show _ = _
  rw [heap_setCell_same w5 n1 5 _ 104 v' e1]
  rfl
 ·rw [List.length_append]
  refine ⟨hown5.1, ?_⟩
  rcases hown5.2 with hh | ⟨g, cap, cu, f1, f2, f3, f4⟩
  ·exact .inl hh
  ·refine .inr ⟨g, cap, cu, f1, f2, (hset g (fun e => ?_)).trans f3, f4⟩
   rw [e, e1] at f3
   simp at f3
 ·intro j v x hv hx
  have hul : us.length = L.length := by have := ho.1; omega
  by_cases hj : j < us.length
  ·rw [List.getElem?_append_left hj] at hv
   rw [List.getElem?_append_left (by omega)] at hx
   exact hoT (ownT_below (hea j v x hv hx) hb3)
  ·rw [List.getElem?_append_right (by omega)] at hv
   rw [List.getElem?_append_right (by omega)] at hx
   have h0 : j - us.length = 0 := by
    have := (List.getElem?_eq_some_iff.1 hv).1
    simp at this; omega
   rw [← hul, h0] at hx
   rw [h0] at hv
   simp at hv hx
   subst hv hx
   exact hoT (ownT_base hO3 (by omega))
 ·refine ap_snoc (n := W.heap.size) hap (fun j v g hv hg => ?_) (fun g hg => (World.ownsRow.lt hO3 g hg).1)
  have hj : j < L.length := by have := (List.getElem?_eq_some_iff.1 hv).1; have := ho.1; omega
  exact (World.ownsRow.lt (hea j v _ hv (List.getElem?_eq_getElem hj)) g hg).2
abbrev QB (vs : List Value) (x : Nat × Value) : Prop := vs[x.1]? = some x.2
def SbI (n1 hb : Nat) (sl : Value) (ls : List (List C)) (vs : List Value) (pre : List { x : Nat × Value // QB vs x }) (W : World) : Prop :=
 ∃ rv, SvAt W n1 hb (.slice none 0 0) rv 0 ∧ Boxed W (n1 + 1) 101 (.pointer (some ⟨n1, 0, none⟩)) ∧ OwnRow W n1 rv (pre.map fun x => lsAt ls x.1) ∧ Boxed W (n1 + 2) 33 sl
theorem sbI_own (n1 hb : Nat) (sl : Value) (ls : List (List C)) (vs : List Value) : Own (SbI n1 hb sl ls vs) := by
 rintro s A B row ⟨rv, h1, h2, h3, h4⟩ hg hr
 exact ⟨rv, cells_kept hg hr h1, cells_kept hg hr h2, ownRow_cells hg hr h3, cells_kept hg hr h4⟩
theorem enB_ls (vs : List Value) (ls : List (List C)) (h : vs.length = ls.length) : (enB vs).map (lsAt ls) = ls.reverse := by
 refine List.ext_getElem (by simp [enB_length, h]) fun i h1 h2 => ?_
 have h3 : i < (enB vs).length := by simpa using h1
 have h4 : i < vs.length := by rw [enB_length] at h3; exact h3
 rw [List.getElem_map, enB_get vs i h3, List.getElem_reverse]
 have h5 : vs.length - 1 - i < ls.length := by omega
 simp only [lsAt]
 rw [List.getElem?_eq_getElem h5]
 simp [h]
set_option maxRecDepth 100000 in
set_option maxHeartbeats 4000000 in
theorem u48 (ls : List (List C)) (v : Value) (w : World) (h : RowAt w v ls) (hby : ∀ l ∈ ls, l.length * 48 ≤ 140737488355328) (hln : ls.length * 24 ≤ 140737488355328) :
  Calls Tryz.prog 59 #[.pointer none, v] w fun e w' => SbPost ls e w w' := by
 have H71 := u71n w
 have H22 := h26 w
 have HR : Hid (RowAt w v ls) := h
 obtain ⟨i0, hi, hz, hsz, hbyt⟩ := info29
 obtain ⟨a, c, hf⟩ := h.form
 subst hf
 clear h
 refine (callsIn_wide (n := 6)).1 ?_
 refine callsIn_of_wp_marks Tryz.func59 rfl trivial ?_ rfl
 simp only [Tryz.ntmps59, List.size_toArray, List.length_cons, List.length_nil, Nat.reduceAdd, Nat.reduceSub, Array.replicate_succ, Array.replicate_zero, List.push_toArray, List.append_toArray, List.nil_append, List.cons_append]
 gi_wp2_with (refine ⟨trivial, ?_⟩; gi_at_call 88; refine (callsIn_wide.2 H71).mono ?_; rintro e w' ⟨rfl, hw⟩; obtain rfl := hw.symm)
 gi_wp2_with (refine ⟨trivial, ?_⟩; gi_at_call 33; refine (callsIn_wide.2 H22).mono ?_; rintro e w1 ⟨rfl, hH, hB⟩)
 gi_wp2_with (refine ⟨trivial, ?_⟩; gi_at_call 89; refine (callsIn_wide.2 (u72 _ _ _ _)).mono ?_; rintro e w' ⟨rfl, hw⟩; obtain rfl := hw.symm)
 obtain ⟨n1, hn1⟩ : ∃ n1, w1.heap.size = n1 := ⟨_, rfl⟩
 obtain ⟨hb, hhb⟩ : ∃ hb, w.heap.size + 1 = hb := ⟨_, rfl⟩
 obtain ⟨vs, hvs⟩ : ∃ vs : List Value, vs.length = ls.length ∧ (vs.length = 0 ∨ ∃ g o, a = some ⟨g, o, none⟩ ∧ g < w.heap.size ∧ w.rangeAt g o vs) ∧ ∀ (i : Nat) (u : Value) (l : List C), vs[i]? = some u → ls[i]? = some l → TermAt w u l := by
  rcases HR.out.2 with ⟨e1, _⟩ | ⟨b, o, cap, vs, e1, e2, e3, e4, e5, e6, e7⟩
  ·exact ⟨[], by simp [e1], .inl rfl, fun i u l h => by simp at h⟩
  ·simp only [Value.slice.injEq, true_and] at e1
   exact ⟨vs, e5, .inr ⟨b, o, e1.1, e4, e6⟩, e7⟩
 have HV : Hid (vs.length = ls.length ∧ ∀ (i : Nat) (u : Value) (l : List C), vs[i]? = some u → ls[i]? = some l → TermAt w u l) := ⟨hvs.1, hvs.2.2⟩
 have hM := hH.map.lt
 have hhs := (Array.getElem?_eq_some_iff.1 hH.blk).1
 have hBs := hB.size
 have bS : SvAt ((w1.alloc (.cells #[.int .u8 0, .slice none 0 0, .slice none 0 0, .int .i64 0, .pointer (some ⟨hb, 0, none⟩), .slice none 0 0] 104)).alloc (.cells #[.pointer (some ⟨n1, 0, none⟩)] 101) |>.alloc (.cells #[.slice a ls.length c] 33)) n1 hb (.slice none 0 0) (.slice none 0 0) 0 := by
  show _ = _
  rw [heap_alloc_old _ _ (by simp; omega), heap_alloc_old _ _ (by simp; omega), ← hn1]
  exact heap_alloc_new w1 _
 have bX := (Boxed.new (w1.alloc (.cells #[.int .u8 0, .slice none 0 0, .slice none 0 0, .int .i64 0, .pointer (some ⟨hb, 0, none⟩), .slice none 0 0] 104)) 101 (.pointer (some ⟨n1, 0, none⟩))).alloc (.cells #[.slice a ls.length c] 33)
 have bC := Boxed.new ((w1.alloc (.cells #[.int .u8 0, .slice none 0 0, .slice none 0 0, .int .i64 0, .pointer (some ⟨hb, 0, none⟩), .slice none 0 0] 104)).alloc (.cells #[.pointer (some ⟨n1, 0, none⟩)] 101)) 33 (.slice a ls.length c)
 have hB0 : Below n1 w1 ((w1.alloc (.cells #[.int .u8 0, .slice none 0 0, .slice none 0 0, .int .i64 0, .pointer (some ⟨hb, 0, none⟩), .slice none 0 0] 104)).alloc (.cells #[.pointer (some ⟨n1, 0, none⟩)] 101) |>.alloc (.cells #[.slice a ls.length c] 33)) := (((Below.refl _ w1).alloc (by omega) _).alloc (by simp; omega) _).alloc (by simp; omega) _
 have hs0 : ((w1.alloc (.cells #[.int .u8 0, .slice none 0 0, .slice none 0 0, .int .i64 0, .pointer (some ⟨hb, 0, none⟩), .slice none 0 0] 104)).alloc (.cells #[.pointer (some ⟨n1, 0, none⟩)] 101) |>.alloc (.cells #[.slice a ls.length c] 33)).heap.size = n1 + 3 := by simp; omega
 simp only [World.size_alloc] at bX bC
 rw [hn1] at bX bC ⊢
 rw [hhb]
 generalize ((w1.alloc (.cells #[.int .u8 0, .slice none 0 0, .slice none 0 0, .int .i64 0, .pointer (some ⟨hb, 0, none⟩), .slice none 0 0] 104)).alloc (.cells #[.pointer (some ⟨n1, 0, none⟩)] 101) |>.alloc (.cells #[.slice a ls.length c] 33)) = W0 at *
 have hvl : vs.length ≤ maxLen := by rw [hvs.1]; unfold maxLen; omega
 have hall : ∀ u ∈ vs, ∃ a n c, u = .slice a n c := fun u hu => by
  obtain ⟨j, hj, rfl⟩ := List.getElem_of_mem hu
  obtain ⟨a', c', e⟩ := (HV.out.2 j _ _ (List.getElem?_eq_getElem hj) (List.getElem?_eq_getElem (by rw [← HV.out.1]; exact hj))).form
  exact ⟨_, _, _, e⟩
 rw [← hvs.1] at bC
 have hrow1 : vs.length = 0 ∨ ∃ g o, a = some ⟨g, o, none⟩ ∧ g < w1.heap.size ∧ w1.rangeAt g o vs := by
  rcases hvs.2.1 with e | ⟨g, o, e1, e2, e3⟩
  ·exact .inl e
  ·exact .inr ⟨g, o, e1, by omega, range_below e3 e2 hB⟩
 have hB0' : Below w1.heap.size w1 W0 := by rw [hn1]; exact hB0
 have HST := bw_stopsQ (QB vs) 5 (by decide) (n1 + 2) vs a c w1 W0 hB0' bC hvl hall hrow1 (fun x hx => enB_mem hx)
 rw [hn1] at HST
 have HH : Hid (HpAt w1 hb w.heap.size 0 (.map []) [] ∧ Below w.heap.size w w1 ∧ w.heap.size < n1 ∧ hb < n1 ∧ w.heap.size ≤ hb) := ⟨by rw [← hhb]; exact hH, hB, by omega, by omega, by omega⟩
 clear hH hB hvs hM hhs hBs hrow1 hB0' hvl hall
 refine wpIn_rangeFunc_ownH rfl (by decide) (gf := 109) (lb := #[.pointer (some ⟨n1 + 2, 0, none⟩)]) rfl trivial (enters_of Tryz.func109 (by kernel_rfl) rfl)
  HST kpB_t (kpB_b (by omega) (by omega)) (Below.refl _ _) (fun _ => rfl)
  (fun pre W => SbI n1 hb (.slice a vs.length c) ls vs pre W ∧ Below n1 w1 W)
  (fun _ _ _ => False)
  (OwnFrom.and (Own.from (sbI_own n1 hb (.slice a vs.length c) ls vs) _) (ownFrom_below (by omega) (by omega)))
  (fun _ _ _ _ _ hs _ _ => hs)
  ⟨⟨_, bS, bX, ownRow_nil _ _, bC⟩, hB0⟩
  (fun x a' W => a' = { tmps := #[.pointer none, .slice a ls.length c, undef, undef, .pointer none, .pointer (some ⟨hb, 0, none⟩), .pointer (some ⟨n1 + 1, 0, none⟩), undef, x.1.2, .pointer none, .pointer none, .pointer none, .bool true, .pointer (some ⟨hb, 0, none⟩), .pointer (some ⟨hb, 0, none⟩), .agg #[.int .u8 0, .slice none 0 0, .slice none 0 0, .int .i64 0, .pointer (some ⟨hb, 0, none⟩), .slice none 0 0], .pointer (some ⟨n1, 0, none⟩), .slice a ls.length c, .func (.func 109) #[] #[.pointer (some ⟨n1 + 1 + 1, 0, none⟩)], .int .i64 x.1.1, x.1.2, undef, undef, undef, undef, undef, undef, undef, undef, undef, undef, undef, undef], defers := [] })
  (fun x a' _ X Y row hs hg hr => hs)
  ?assign ?body ?done ?stop
 case assign =>
  rintro lp pre x W K ⟨⟨rv, h1, h2, h3, h4⟩, hB1⟩ hK
  gi_wp2
  exact hK _ _ ((KeepsOthers.refl _).from _) ⟨Below.refl _ _, rfl⟩ ⟨⟨rv, h1, h2, h3, h4⟩, hB1⟩ rfl
 case body =>
  rintro lp pre ⟨⟨xi, xv⟩, hxq⟩ a' W hlp ⟨r, hr⟩ ⟨⟨rv, h1, h2, h3, h4⟩, hB1⟩ rfl hlt
  obtain ⟨us, ho, hea, hap⟩ := h3
  have hxl : xi < ls.length := by rw [← HV.out.1]; exact (List.getElem?_eq_some_iff.1 hxq).1
  have hTx : TermAt w xv ls[xi] := HV.out.2 xi xv ls[xi] hxq (List.getElem?_eq_getElem hxl)
  have HLx : Hid (lsAt ls (xi, xv) = ls[xi]) := by
   show lsAt ls (xi, xv) = ls[xi]
   simp [lsAt, hxl]
  obtain ⟨xa, xc, hxv⟩ := hTx.form
  subst hxv
  have HWD : Hid (Below W.heap.size W W.drew) := Below.drew (Below.refl _ _)
  have hsW : n1 + 3 ≤ W.heap.size := by have := h4.lt; omega
  have hnW : Below w.heap.size w W.drew := HH.out.2.1.trans ((hB1.mono (by have := HH.out.2.2.1; omega)).drew)
  have H42 := h22 ls[xi] _ W.drew (hTx.below hnW) (hby _ (List.getElem_mem hxl))
  have hpl : (pre.map fun x => lsAt ls x.1).length = pre.length := List.length_map _
  rw [hpl] at ho
  have hpn : pre.length < ls.length := by rw [← HV.out.1]; exact hlt
  obtain ⟨ra, rc, hrv⟩ : ∃ ra rc, rv = .slice ra pre.length rc := by
   rcases ho.2 with ⟨e1, e2⟩ | ⟨g, cp, cu, e1, _⟩
   ·exact ⟨none, 0, by rw [e1, e2]⟩
   ·exact ⟨_, _, e1⟩
  subst hrv
  have HEND : Hid (∀ (w3 w5 : World) (u v' : Value), Below W.drew.heap.size W.drew w3 → OwnT w3 W.drew.heap.size u ls[xi] → w5.ownsRow n1 24 1 v' (pre.length + 1) (us ++ [u]) → (w3.alloc (.cells #[u] 24)).grownBy w5 (Value.slice ra pre.length rc).ownBlock →
    w5.heap[n1]? = W.heap[n1]? ∧ KeepsFrom W0.heap.size W (w5.setCell ⟨n1, 5, none⟩ v') ∧ KpB n1 (n1 + 2) W (w5.setCell ⟨n1, 5, none⟩ v') ∧ SbI n1 hb (.slice a vs.length c) ls vs (pre ++ [⟨(xi, .slice xa ls[xi].length xc), hxq⟩]) (w5.setCell ⟨n1, 5, none⟩ v') ∧ Below n1 w1 (w5.setCell ⟨n1, 5, none⟩ v')) := fun w3 w5 u v' k1 k2 k3 k4 => by
   have kb : Below W.heap.size W w3 := HWD.out.trans k1
   have k3' : w5.ownsRow n1 24 1 v' ((pre.map fun x => lsAt ls x.1).length + 1) (us ++ [u]) := by rw [hpl]; exact k3
   have ho' : W.ownsRow n1 24 1 (.slice ra pre.length rc) (pre.map fun x => lsAt ls x.1).length us := by rw [hpl]; exact ho
   obtain ⟨m1, m2, m3, m4, m5, m6⟩ := sb_end h1 h2 h4 ho' hea hap kb k2 k3' k4
   refine ⟨?_, m1.from _, m2, ⟨v', m3, m4, ?_, m5⟩, hB1.trans m2.1⟩
   ·have z3 := kb.size
    exact ((k4.block n1 (by simp; omega) (fun e => typed_apart ho h1 (by decide) e.symm)).trans (heap_alloc_old w3 _ (by omega))).trans (kb.block n1 (by omega))
   ·rw [List.map_append]
    show OwnRow _ n1 v' ((pre.map fun x => lsAt ls x.1) ++ [lsAt ls (xi, .slice xa ls[xi].length xc)])
    rw [HLx.out]
    exact m6
  have HS1 : Hid (SvAt W n1 hb (.slice none 0 0) (.slice ra pre.length rc) 0) := h1
  have HOw : Hid (W.ownsRow n1 24 1 (.slice ra pre.length rc) pre.length us) := ho
  have cR : ∀ w3, Hid (Below W.drew.heap.size W.drew w3) → w3.cell? ⟨n1, 5, none⟩ = some (.slice ra pre.length rc) := fun w3 k => by
   have e := (k.out.block n1 (show n1 < W.heap.size by omega)).trans h1
   rw [cell_of_row w3 n1 5 _ 104 (0, 0) e]; rfl
  have cB : ∀ w3, Hid (Below W.drew.heap.size W.drew w3) → w3.cell? ⟨n1 + 1, 0, none⟩ = some (.pointer (some ⟨n1, 0, none⟩)) := fun w3 k => Boxed.cell ((k.out.block (n1 + 1) (show n1 + 1 < W.heap.size by omega)).trans h2)
  have HI : Hid (pre.length + 1 ≤ ls.length ∧ n1 + 3 ≤ W.drew.heap.size) := ⟨hpn, hsW⟩
  have cR0 := cR W.drew (Below.refl _ _)
  have hS0 : W.drew.cell? ⟨n1 + 1, 0, none⟩ = some (.pointer (some ⟨n1, 0, none⟩)) := cB W.drew (Below.refl _ _)
  have HWW : Hid (Below W.heap.size W W.drew) := HWD.out
  clear h1 h2 h4 ho hea hap hTx HWD hpl hr hlp hlt
  generalize hlx : ls[xi].length = lx at *
  gi_wp2
  refine region_in (S := fun u => u.cell? ⟨n1 + 1, 0, none⟩ = some (.pointer (some ⟨n1, 0, none⟩))) (by kernel_rfl) (by kernel_rfl) hS0 (fun hHeld => ?_)
  generalize W.drew = WD at *
  refine wpAnyH_take (i := 0) (v := ?_) (by simp only [List.getElem?_toArray, List.getElem?_cons_zero]; rfl) (by kernel_rfl) (by kernel_rfl) (by kernel_rfl) (fun _ _ _ h => h) (Or.inl ⟨by rfl, ?_⟩) (by assumption) ?_
  rotate_left
  ·(intro w hSw; (try dsimp only at hSw); go_simp <;> with_reducible rfl)
  try simp only [Act.put, List.setIfInBounds_toArray, List.set_cons_zero, List.set_cons_succ]
  refine wpAnyH_take (i := 1) (v := ?_) (by simp only [List.getElem?_toArray, List.getElem?_cons_zero, List.getElem?_cons_succ]; rfl) (by kernel_rfl) (by kernel_rfl) (by kernel_rfl) (fun _ _ _ h => h) (Or.inl ⟨by rfl, ?_⟩) (by assumption) ?_
  rotate_left
  ·(intro w hSw; (try dsimp only at hSw); go_simp <;> with_reducible rfl)
  try simp only [Act.put, List.setIfInBounds_toArray, List.set_cons_zero, List.set_cons_succ]
  refine wpAnyH_take (i := 2) (v := ?_) (by simp only [List.getElem?_toArray, List.getElem?_cons_zero, List.getElem?_cons_succ]; rfl) (by kernel_rfl) (by kernel_rfl) (by kernel_rfl) (fun _ _ _ h => h) (Or.inl ⟨by rfl, ?_⟩) (by assumption) ?_
  rotate_left
  ·(intro w hSw; (try dsimp only at hSw); go_simp <;> with_reducible rfl)
  try simp only [Act.put, List.setIfInBounds_toArray, List.set_cons_zero, List.set_cons_succ]
  refine wpAnyH_take (i := 3) (v := ?_) (by simp only [List.getElem?_toArray, List.getElem?_cons_zero, List.getElem?_cons_succ]; rfl) (by kernel_rfl) (by kernel_rfl) (by kernel_rfl) (fun _ _ _ h => h) (Or.inl ⟨by rfl, ?_⟩) (by assumption) ?_
  rotate_left
  ·(intro w hSw; (try dsimp only at hSw); go_simp <;> with_reducible rfl)
  try simp only [Act.put, List.setIfInBounds_toArray, List.set_cons_zero, List.set_cons_succ]
  refine wpAnyH_take (i := 5) (v := ?_) (by simp only [List.getElem?_toArray, List.getElem?_cons_zero, List.getElem?_cons_succ]; rfl) (by kernel_rfl) (by kernel_rfl) (by kernel_rfl) (fun _ _ _ h => h) (Or.inl ⟨by rfl, ?_⟩) (by assumption) ?_
  rotate_left
  ·(intro w hSw; (try dsimp only at hSw); go_simp <;> with_reducible rfl)
  try simp only [Act.put, List.setIfInBounds_toArray, List.set_cons_zero, List.set_cons_succ]
  refine wpAnyH_ready (rs := [4, 6]) (by kernel_rfl) (by simp) ?_
  refine AllReadyH.cons (by simp only [List.getElem?_toArray, List.getElem?_cons_zero, List.getElem?_cons_succ]; rfl) (fun K hK => ?_) ?_
  ·skip
   have cR4 := cR WD (Below.refl _ _)
   go_simp
   refine hK.out _ _ ?_ (fun hHeld => ?_)
   ·exact hHeld
   clear hK K
   try simp only [Act.put, List.setIfInBounds_toArray, List.set_cons_zero, List.set_cons_succ]
   refine wpAnyH_ready (rs := [6]) (by kernel_rfl) (by simp) ?_
   refine AllReadyH.cons (by simp only [List.getElem?_toArray, List.getElem?_cons_zero, List.getElem?_cons_succ]; rfl) (fun K hK => ?_) AllReadyH.nil
   go_simp
   go_at_call 56
   refine H42.mono ?_
   rintro e w3 ⟨u3, rfl, hT3, hg3, hb3, hO3⟩
   have HB3 : Hid (Below WD.heap.size WD w3) := hb3
   have HO3 : Hid (OwnT w3 WD.heap.size u3 ls[xi]) := hO3
   have hu3 := ownT_form hO3
   rw [hlx] at hu3
   obtain ⟨ua, uc, hu3⟩ := hu3
   subst hu3
   clear hT3 hg3 hb3 hO3
   refine hK.out _ _ ?_ (fun hHeld => ?_)
   ·exact cB w3 HB3
   clear hK K
   try simp only [Act.put, List.setIfInBounds_toArray, List.set_cons_zero, List.set_cons_succ]
   refine wpAnyH_ready (rs := [7]) (by kernel_rfl) (by simp) ?_
   refine AllReadyH.cons (by simp only [List.getElem?_toArray, List.getElem?_cons_zero, List.getElem?_cons_succ]; rfl) (fun K hK => ?_) AllReadyH.nil
   go_simp
   refine hK.out _ _ ?_ (fun hHeld => ?_)
   ·exact cB _ (HB3.out.alloc HB3.out.size _)
   clear hK K
   try simp only [Act.put, List.setIfInBounds_toArray, List.set_cons_zero, List.set_cons_succ]
   refine wpAnyH_ready (rs := [8]) (by kernel_rfl) (by simp) ?_
   refine AllReadyH.cons (by simp only [List.getElem?_toArray, List.getElem?_cons_zero, List.getElem?_cons_succ]; rfl) (fun K hK => ?_) AllReadyH.nil
   have HR3 : Hid ((w3.alloc (.cells #[.slice ua lx uc] 24)).ownsRow n1 24 1 (.slice ra pre.length rc) pre.length us) := World.ownsRow.alloc (owns_low (owns_low HOw.out HWW.out) HB3.out) _
   refine stepH_append (by rfl) _ _ 33 (by rfl) n1 24 i0 (.slice none 0 0) 1 24 Tryz.underlying33 hi hz hsz hbyt rfl (by decide) (.slice ra pre.length rc) pre.length us (by rfl) HR3.out ⟨w3.heap.size, 0, none⟩ 1 1 [.slice ua lx uc] (by rfl) (by rfl) (fun j u hu => by rw [Addr.add_mid]; exact range_new w3 [.slice ua lx uc] 24 j u hu) (fun u hu => by simp at hu; subst hu; rfl) (by have := HI.out.1; unfold maxLen; omega) (by have := HI.out.1; omega) (by have := HI.out.2; have := HB3.out.size; simp; omega) ?_
   intro v' w5 hown5 hgr5 hat5
   obtain ⟨g5, c5x, hv5⟩ := ownsRow_succ hown5
   subst hv5
   obtain ⟨x0, x1, x2, x3, x4⟩ := HEND.out w3 w5 _ _ HB3.out HO3.out hown5 hgr5
   have HX : Hid (KeepsFrom W0.heap.size W (w5.setCell ⟨n1, 5, none⟩ (.slice (some ⟨g5, 0, none⟩) (pre.length + 1) c5x)) ∧ KpB n1 (n1 + 2) W (w5.setCell ⟨n1, 5, none⟩ (.slice (some ⟨g5, 0, none⟩) (pre.length + 1) c5x)) ∧ SbI n1 hb (.slice a vs.length c) ls vs (pre ++ [⟨(xi, .slice xa lx xc), hxq⟩]) (w5.setCell ⟨n1, 5, none⟩ (.slice (some ⟨g5, 0, none⟩) (pre.length + 1) c5x)) ∧ Below n1 w1 (w5.setCell ⟨n1, 5, none⟩ (.slice (some ⟨g5, 0, none⟩) (pre.length + 1) c5x))) := ⟨x1, x2, x3, x4⟩
   have x5 := x0.trans HS1.out
   have c5 : w5.cell? ⟨n1, 5, none⟩ = some (.slice ra pre.length rc) := by rw [cell_of_row w5 n1 5 _ 104 (0, 0) x5]; rfl
   have f5 : w5.frozen? ⟨n1, 5, none⟩ = false := frozen_of_row w5 n1 5 _ 104 x5
   obtain ⟨_, _, x6, _⟩ := x3
   have s5' : (w5.setCell ⟨n1, 5, none⟩ (.slice (some ⟨g5, 0, none⟩) (pre.length + 1) c5x)).cell? ⟨n1 + 1, 0, none⟩ = some (.pointer (some ⟨n1, 0, none⟩)) := x6.cell
   have s5 : w5.cell? ⟨n1 + 1, 0, none⟩ = some (.pointer (some ⟨n1, 0, none⟩)) := Boxed.cell ((heap_setCell_other w5 ⟨n1, 5, none⟩ (n1 + 1) _ (by simp)).symm.trans x6)
   clear x0 x1 x2 x4 x5 x6 hown5 hgr5 hat5
   refine hK.out _ _ ?_ (fun hHeld => ?_)
   ·exact s5
   clear hK K
   try simp only [Act.put, List.setIfInBounds_toArray, List.set_cons_zero, List.set_cons_succ]
   refine wpAnyH_take (i := 9) (v := ?_) (by simp only [List.getElem?_toArray, List.getElem?_cons_zero, List.getElem?_cons_succ]; rfl) (by kernel_rfl) (by kernel_rfl) (by kernel_rfl) (fun _ _ _ h => h) (Or.inl ⟨by rfl, ?_⟩) (by assumption) ?_
   rotate_left
   ·(intro w hSw; (try dsimp only at hSw); go_simp <;> with_reducible rfl)
   try simp only [Act.put, List.setIfInBounds_toArray, List.set_cons_zero, List.set_cons_succ]
   refine wpAnyH_take (i := 10) (v := ?_) (by simp only [List.getElem?_toArray, List.getElem?_cons_zero, List.getElem?_cons_succ]; rfl) (by kernel_rfl) (by kernel_rfl) (by kernel_rfl) (fun _ _ _ h => h) (Or.inl ⟨by rfl, ?_⟩) (by assumption) ?_
   rotate_left
   ·(intro w hSw; (try dsimp only at hSw); go_simp <;> with_reducible rfl)
   try simp only [Act.put, List.setIfInBounds_toArray, List.set_cons_zero, List.set_cons_succ]
   refine wpAnyH_ready (rs := [11]) (by kernel_rfl) (by simp) ?_
   refine AllReadyH.cons (by simp only [List.getElem?_toArray, List.getElem?_cons_zero, List.getElem?_cons_succ]; rfl) (fun K hK => ?_) AllReadyH.nil
   go_simp
   refine hK.out _ _ ?_ (fun hHeld => ?_)
   ·exact s5'
   clear hK K
   try simp only [Act.put, List.setIfInBounds_toArray, List.set_cons_zero, List.set_cons_succ]
   refine wpAnyH_done (by kernel_rfl) ?_ _
   simp only [OnlyN]
   gi_wp2
   exact ⟨HX.out.1, HX.out.2.1, HX.out.2.2.1, HX.out.2.2.2⟩
  refine AllReadyH.cons (by simp only [List.getElem?_toArray, List.getElem?_cons_zero, List.getElem?_cons_succ]; rfl) (fun K hK => ?_) AllReadyH.nil
  go_simp
  go_at_call 56
  refine H42.mono ?_
  rintro e w3 ⟨u3, rfl, hT3, hg3, hb3, hO3⟩
  have HB3 : Hid (Below WD.heap.size WD w3) := hb3
  have HO3 : Hid (OwnT w3 WD.heap.size u3 ls[xi]) := hO3
  have hu3 := ownT_form hO3
  rw [hlx] at hu3
  obtain ⟨ua, uc, hu3⟩ := hu3
  subst hu3
  clear hT3 hg3 hb3 hO3
  refine hK.out _ _ ?_ (fun hHeld => ?_)
  ·exact cB w3 HB3
  clear hK K
  try simp only [Act.put, List.setIfInBounds_toArray, List.set_cons_zero, List.set_cons_succ]
  refine wpAnyH_ready (rs := [4, 7]) (by kernel_rfl) (by simp) ?_
  refine AllReadyH.cons (by simp only [List.getElem?_toArray, List.getElem?_cons_zero, List.getElem?_cons_succ]; rfl) (fun K hK => ?_) ?_
  ·skip
   have cR4 := cR w3 HB3
   go_simp
   refine hK.out _ _ ?_ (fun hHeld => ?_)
   ·exact hHeld
   clear hK K
   try simp only [Act.put, List.setIfInBounds_toArray, List.set_cons_zero, List.set_cons_succ]
   refine wpAnyH_ready (rs := [7]) (by kernel_rfl) (by simp) ?_
   refine AllReadyH.cons (by simp only [List.getElem?_toArray, List.getElem?_cons_zero, List.getElem?_cons_succ]; rfl) (fun K hK => ?_) AllReadyH.nil
   go_simp
   refine hK.out _ _ ?_ (fun hHeld => ?_)
   ·exact cB _ (HB3.out.alloc HB3.out.size _)
   clear hK K
   try simp only [Act.put, List.setIfInBounds_toArray, List.set_cons_zero, List.set_cons_succ]
   refine wpAnyH_ready (rs := [8]) (by kernel_rfl) (by simp) ?_
   refine AllReadyH.cons (by simp only [List.getElem?_toArray, List.getElem?_cons_zero, List.getElem?_cons_succ]; rfl) (fun K hK => ?_) AllReadyH.nil
   have HR3 : Hid ((w3.alloc (.cells #[.slice ua lx uc] 24)).ownsRow n1 24 1 (.slice ra pre.length rc) pre.length us) := World.ownsRow.alloc (owns_low (owns_low HOw.out HWW.out) HB3.out) _
   refine stepH_append (by rfl) _ _ 33 (by rfl) n1 24 i0 (.slice none 0 0) 1 24 Tryz.underlying33 hi hz hsz hbyt rfl (by decide) (.slice ra pre.length rc) pre.length us (by rfl) HR3.out ⟨w3.heap.size, 0, none⟩ 1 1 [.slice ua lx uc] (by rfl) (by rfl) (fun j u hu => by rw [Addr.add_mid]; exact range_new w3 [.slice ua lx uc] 24 j u hu) (fun u hu => by simp at hu; subst hu; rfl) (by have := HI.out.1; unfold maxLen; omega) (by have := HI.out.1; omega) (by have := HI.out.2; have := HB3.out.size; simp; omega) ?_
   intro v' w5 hown5 hgr5 hat5
   obtain ⟨g5, c5x, hv5⟩ := ownsRow_succ hown5
   subst hv5
   obtain ⟨x0, x1, x2, x3, x4⟩ := HEND.out w3 w5 _ _ HB3.out HO3.out hown5 hgr5
   have HX : Hid (KeepsFrom W0.heap.size W (w5.setCell ⟨n1, 5, none⟩ (.slice (some ⟨g5, 0, none⟩) (pre.length + 1) c5x)) ∧ KpB n1 (n1 + 2) W (w5.setCell ⟨n1, 5, none⟩ (.slice (some ⟨g5, 0, none⟩) (pre.length + 1) c5x)) ∧ SbI n1 hb (.slice a vs.length c) ls vs (pre ++ [⟨(xi, .slice xa lx xc), hxq⟩]) (w5.setCell ⟨n1, 5, none⟩ (.slice (some ⟨g5, 0, none⟩) (pre.length + 1) c5x)) ∧ Below n1 w1 (w5.setCell ⟨n1, 5, none⟩ (.slice (some ⟨g5, 0, none⟩) (pre.length + 1) c5x))) := ⟨x1, x2, x3, x4⟩
   have x5 := x0.trans HS1.out
   have c5 : w5.cell? ⟨n1, 5, none⟩ = some (.slice ra pre.length rc) := by rw [cell_of_row w5 n1 5 _ 104 (0, 0) x5]; rfl
   have f5 : w5.frozen? ⟨n1, 5, none⟩ = false := frozen_of_row w5 n1 5 _ 104 x5
   obtain ⟨_, _, x6, _⟩ := x3
   have s5' : (w5.setCell ⟨n1, 5, none⟩ (.slice (some ⟨g5, 0, none⟩) (pre.length + 1) c5x)).cell? ⟨n1 + 1, 0, none⟩ = some (.pointer (some ⟨n1, 0, none⟩)) := x6.cell
   have s5 : w5.cell? ⟨n1 + 1, 0, none⟩ = some (.pointer (some ⟨n1, 0, none⟩)) := Boxed.cell ((heap_setCell_other w5 ⟨n1, 5, none⟩ (n1 + 1) _ (by simp)).symm.trans x6)
   clear x0 x1 x2 x4 x5 x6 hown5 hgr5 hat5
   refine hK.out _ _ ?_ (fun hHeld => ?_)
   ·exact s5
   clear hK K
   try simp only [Act.put, List.setIfInBounds_toArray, List.set_cons_zero, List.set_cons_succ]
   refine wpAnyH_take (i := 9) (v := ?_) (by simp only [List.getElem?_toArray, List.getElem?_cons_zero, List.getElem?_cons_succ]; rfl) (by kernel_rfl) (by kernel_rfl) (by kernel_rfl) (fun _ _ _ h => h) (Or.inl ⟨by rfl, ?_⟩) (by assumption) ?_
   rotate_left
   ·(intro w hSw; (try dsimp only at hSw); go_simp <;> with_reducible rfl)
   try simp only [Act.put, List.setIfInBounds_toArray, List.set_cons_zero, List.set_cons_succ]
   refine wpAnyH_take (i := 10) (v := ?_) (by simp only [List.getElem?_toArray, List.getElem?_cons_zero, List.getElem?_cons_succ]; rfl) (by kernel_rfl) (by kernel_rfl) (by kernel_rfl) (fun _ _ _ h => h) (Or.inl ⟨by rfl, ?_⟩) (by assumption) ?_
   rotate_left
   ·(intro w hSw; (try dsimp only at hSw); go_simp <;> with_reducible rfl)
   try simp only [Act.put, List.setIfInBounds_toArray, List.set_cons_zero, List.set_cons_succ]
   refine wpAnyH_ready (rs := [11]) (by kernel_rfl) (by simp) ?_
   refine AllReadyH.cons (by simp only [List.getElem?_toArray, List.getElem?_cons_zero, List.getElem?_cons_succ]; rfl) (fun K hK => ?_) AllReadyH.nil
   go_simp
   refine hK.out _ _ ?_ (fun hHeld => ?_)
   ·exact s5'
   clear hK K
   try simp only [Act.put, List.setIfInBounds_toArray, List.set_cons_zero, List.set_cons_succ]
   refine wpAnyH_done (by kernel_rfl) ?_ _
   simp only [OnlyN]
   gi_wp2
   exact ⟨HX.out.1, HX.out.2.1, HX.out.2.2.1, HX.out.2.2.2⟩
  refine AllReadyH.cons (by simp only [List.getElem?_toArray, List.getElem?_cons_zero, List.getElem?_cons_succ]; rfl) (fun K hK => ?_) AllReadyH.nil
  go_simp
  refine hK.out _ _ ?_ (fun hHeld => ?_)
  ·exact cB _ (HB3.out.alloc HB3.out.size _)
  clear hK K
  try simp only [Act.put, List.setIfInBounds_toArray, List.set_cons_zero, List.set_cons_succ]
  refine wpAnyH_ready (rs := [4]) (by kernel_rfl) (by simp) ?_
  refine AllReadyH.cons (by simp only [List.getElem?_toArray, List.getElem?_cons_zero, List.getElem?_cons_succ]; rfl) (fun K hK => ?_) AllReadyH.nil
  have cR4 := cR _ (HB3.out.alloc HB3.out.size _ : Hid (Below WD.heap.size WD (w3.alloc (.cells #[.slice ua lx uc] 24))))
  go_simp
  refine hK.out _ _ ?_ (fun hHeld => ?_)
  ·exact hHeld
  clear hK K
  try simp only [Act.put, List.setIfInBounds_toArray, List.set_cons_zero, List.set_cons_succ]
  refine wpAnyH_ready (rs := [8]) (by kernel_rfl) (by simp) ?_
  refine AllReadyH.cons (by simp only [List.getElem?_toArray, List.getElem?_cons_zero, List.getElem?_cons_succ]; rfl) (fun K hK => ?_) AllReadyH.nil
  have HR3 : Hid ((w3.alloc (.cells #[.slice ua lx uc] 24)).ownsRow n1 24 1 (.slice ra pre.length rc) pre.length us) := World.ownsRow.alloc (owns_low (owns_low HOw.out HWW.out) HB3.out) _
  refine stepH_append (by rfl) _ _ 33 (by rfl) n1 24 i0 (.slice none 0 0) 1 24 Tryz.underlying33 hi hz hsz hbyt rfl (by decide) (.slice ra pre.length rc) pre.length us (by rfl) HR3.out ⟨w3.heap.size, 0, none⟩ 1 1 [.slice ua lx uc] (by rfl) (by rfl) (fun j u hu => by rw [Addr.add_mid]; exact range_new w3 [.slice ua lx uc] 24 j u hu) (fun u hu => by simp at hu; subst hu; rfl) (by have := HI.out.1; unfold maxLen; omega) (by have := HI.out.1; omega) (by have := HI.out.2; have := HB3.out.size; simp; omega) ?_
  intro v' w5 hown5 hgr5 hat5
  obtain ⟨g5, c5x, hv5⟩ := ownsRow_succ hown5
  subst hv5
  obtain ⟨x0, x1, x2, x3, x4⟩ := HEND.out w3 w5 _ _ HB3.out HO3.out hown5 hgr5
  have HX : Hid (KeepsFrom W0.heap.size W (w5.setCell ⟨n1, 5, none⟩ (.slice (some ⟨g5, 0, none⟩) (pre.length + 1) c5x)) ∧ KpB n1 (n1 + 2) W (w5.setCell ⟨n1, 5, none⟩ (.slice (some ⟨g5, 0, none⟩) (pre.length + 1) c5x)) ∧ SbI n1 hb (.slice a vs.length c) ls vs (pre ++ [⟨(xi, .slice xa lx xc), hxq⟩]) (w5.setCell ⟨n1, 5, none⟩ (.slice (some ⟨g5, 0, none⟩) (pre.length + 1) c5x)) ∧ Below n1 w1 (w5.setCell ⟨n1, 5, none⟩ (.slice (some ⟨g5, 0, none⟩) (pre.length + 1) c5x))) := ⟨x1, x2, x3, x4⟩
  have x5 := x0.trans HS1.out
  have c5 : w5.cell? ⟨n1, 5, none⟩ = some (.slice ra pre.length rc) := by rw [cell_of_row w5 n1 5 _ 104 (0, 0) x5]; rfl
  have f5 : w5.frozen? ⟨n1, 5, none⟩ = false := frozen_of_row w5 n1 5 _ 104 x5
  obtain ⟨_, _, x6, _⟩ := x3
  have s5' : (w5.setCell ⟨n1, 5, none⟩ (.slice (some ⟨g5, 0, none⟩) (pre.length + 1) c5x)).cell? ⟨n1 + 1, 0, none⟩ = some (.pointer (some ⟨n1, 0, none⟩)) := x6.cell
  have s5 : w5.cell? ⟨n1 + 1, 0, none⟩ = some (.pointer (some ⟨n1, 0, none⟩)) := Boxed.cell ((heap_setCell_other w5 ⟨n1, 5, none⟩ (n1 + 1) _ (by simp)).symm.trans x6)
  clear x0 x1 x2 x4 x5 x6 hown5 hgr5 hat5
  refine hK.out _ _ ?_ (fun hHeld => ?_)
  ·exact s5
  clear hK K
  try simp only [Act.put, List.setIfInBounds_toArray, List.set_cons_zero, List.set_cons_succ]
  refine wpAnyH_take (i := 9) (v := ?_) (by simp only [List.getElem?_toArray, List.getElem?_cons_zero, List.getElem?_cons_succ]; rfl) (by kernel_rfl) (by kernel_rfl) (by kernel_rfl) (fun _ _ _ h => h) (Or.inl ⟨by rfl, ?_⟩) (by assumption) ?_
  rotate_left
  ·(intro w hSw; (try dsimp only at hSw); go_simp <;> with_reducible rfl)
  try simp only [Act.put, List.setIfInBounds_toArray, List.set_cons_zero, List.set_cons_succ]
  refine wpAnyH_take (i := 10) (v := ?_) (by simp only [List.getElem?_toArray, List.getElem?_cons_zero, List.getElem?_cons_succ]; rfl) (by kernel_rfl) (by kernel_rfl) (by kernel_rfl) (fun _ _ _ h => h) (Or.inl ⟨by rfl, ?_⟩) (by assumption) ?_
  rotate_left
  ·(intro w hSw; (try dsimp only at hSw); go_simp <;> with_reducible rfl)
  try simp only [Act.put, List.setIfInBounds_toArray, List.set_cons_zero, List.set_cons_succ]
  refine wpAnyH_ready (rs := [11]) (by kernel_rfl) (by simp) ?_
  refine AllReadyH.cons (by simp only [List.getElem?_toArray, List.getElem?_cons_zero, List.getElem?_cons_succ]; rfl) (fun K hK => ?_) AllReadyH.nil
  go_simp
  refine hK.out _ _ ?_ (fun hHeld => ?_)
  ·exact s5'
  clear hK K
  try simp only [Act.put, List.setIfInBounds_toArray, List.set_cons_zero, List.set_cons_succ]
  refine wpAnyH_done (by kernel_rfl) ?_ _
  simp only [OnlyN]
  gi_wp2
  exact ⟨HX.out.1, HX.out.2.1, HX.out.2.2.1, HX.out.2.2.2⟩
 case done =>
  rintro D zs W hD hzs ⟨⟨rv, h1, h2, h3, h4⟩, hB1⟩ hK
  have hg := grownBy_putObj' W D (.deferred none)
  have hr : ∀ r, some D = some r → ∃ o : Obj, W.heap[r]? = some o ∧ o.isCells = false := fun r e => by cases e; exact ⟨_, hK, rfl⟩
  have HS : Hid (SvAt (W.putObj D (.deferred none)) n1 hb (.slice none 0 0) rv 0) := cells_kept hg hr h1
  have HO : Hid (OwnRow (W.putObj D (.deferred none)) n1 rv ls.reverse) := by
   have h5 : (zs.map fun x => lsAt ls x.1) = ls.reverse := by
    have h6 := enB_ls vs ls HV.out.1
    rw [← hzs, List.map_map] at h6
    exact h6
   show OwnRow _ n1 rv ls.reverse
   rw [h5] at h3
   exact ownRow_cells hg hr h3
  have HBW : Hid (Below n1 w1 (W.putObj D (.deferred none))) := hB1.trans (belowK_b (w := W0) (by omega) W D _ _ hD hK rfl rfl)
  have cX := h2.cell
  clear h1 h2 h3 h4 hg hr hzs
  gi_wp2
  refine ⟨by simp, .inl ⟨_, _, rfl, run_takeDeferred hK, ?_⟩⟩
  refine ⟨.pointer (some ⟨n1, 0, none⟩), ?_, ?_⟩
  ·simp [results, Tryz.f59, go_sem]
  ·obtain ⟨k1, k2, k3, k4, k5⟩ := HH.out
   refine ⟨n1, hb, w.heap.size, rv, rfl, HS.out, ?_, ownRow_base HO.out (by omega), k2.trans (HBW.out.mono (by omega)), by omega, k5, Nat.le_refl _⟩
   have e := HBW.out
   rw [← hn1] at e
   exact k1.below e
 case stop =>
  rintro D c pre W hD hpre hF
  exact hF.elim
end Go.Proofs.YtljggjllijacjaaGreatDoor
