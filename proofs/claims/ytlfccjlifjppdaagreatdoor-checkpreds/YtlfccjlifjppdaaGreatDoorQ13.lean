/-  isLocal and Global: a range over the iterator. rightLocals and lacks. Contract of Put: for every term and row of locals it returns the term with them put in, or its error. Rows of names in memory; the reference HasName, SameNames. The reference Vars, VarsOf, Global. Contract of Vars: each name once, in the order in which they first come. Predicates: of a term; as keys of a map; rows of them in memory. -/
import Derived.Test.YtlfccjlifjppdaaGreatDoorQ9
import Derived.RangeFuncNested
import Derived.RangeFuncBound
import Derived.RangeFuncCalls
import Derived.RangeFuncLeaves
import Derived.Shelf.Abstract
import Derived.Shelf.RegionOpen
import Derived.OwnWalkIn
import Derived.TacticsInMore
import Derived.LoopNIn
import Derived.LoopIn
import Derived.Sort.EveryDepth
import Derived.Test.YtlfccjlifjppdaaGreatDoorQ11
import Derived.Maps.OwnIn
import Derived.Maps.Views
import Derived.DeepKeys4
import Derived.Test.YtlfccjlifjppdaaGreatDoorQ12
namespace Go.Proofs.YtlfccjlifjppdaaGreatDoor
open Go.RowKit Go.Shelf
attribute [local go_sem] Oper.semAt_some
def varsOf (l : List C) : List (Int × Int) := (l.filter fun c => c.k == 4).map fun c => (c.vn, c.vk)
def varsAll (ls : List (List C)) : List (Int × Int) := ls.flatMap varsOf
theorem varsOf_snoc_yes (l : List C) (j : Nat) (hj : j < l.length) (hk : (l[j].k == 4) = true) : varsOf (l.take (j + 1)) = varsOf (l.take j) ++ [(l[j].vn, l[j].vk)] := by
  unfold varsOf
  rw [List.take_succ_eq_append_getElem hj, List.filter_append]; simp [hk]
theorem varsOf_snoc_no (l : List C) (j : Nat) (hj : j < l.length) (hk : (l[j].k == 4) = false) : varsOf (l.take (j + 1)) = varsOf (l.take j) := by
  unfold varsOf
  rw [List.take_succ_eq_append_getElem hj, List.filter_append]; simp [hk]
theorem varsAll_snoc (ls : List (List C)) (k : Nat) (hk : k < ls.length) : varsAll (ls.take (k + 1)) = varsAll (ls.take k) ++ varsOf ls[k] := by
  unfold varsAll
  rw [List.take_succ_eq_append_getElem hk, List.flatMap_append]; simp
theorem varsOf_prefix (l : List C) (j : Nat) : varsOf (l.take j) <+: varsOf l := by
  have h : varsOf l = varsOf (l.take j) ++ varsOf (l.drop j) := by
    unfold varsOf
    rw [← List.map_append, ← List.filter_append, List.take_append_drop]
  rw [h]; exact List.prefix_append _ _
theorem varsAll_prefix (ls : List (List C)) (k : Nat) : varsAll (ls.take k) <+: varsAll ls := by
  have h : varsAll ls = varsAll (ls.take k) ++ varsAll (ls.drop k) := by
    unfold varsAll
    rw [← List.flatMap_append, List.take_append_drop]
  rw [h]; exact List.prefix_append _ _
theorem vars_at_prefix (ls : List (List C)) (k j : Nat) (hk : k < ls.length) : varsAll (ls.take k) ++ varsOf (ls[k].take j) <+: varsAll ls := by
  have h1 := varsAll_prefix ls (k + 1)
  rw [varsAll_snoc ls k hk] at h1
  exact ((List.prefix_append_right_inj _).2 (varsOf_prefix _ _)).trans h1
theorem abides_alloc {β : Type} {B : Nat} {J : β → World → Prop} (h : AbidesFrom B J) {s : β} {W : World} (o : Obj) (hs : J s W) : J s (W.alloc o) :=
  h s W _ none hs (World.grownBy_alloc W o none) (fun r e => by cases e)
set_option maxRecDepth 100000 in
set_option maxHeartbeats 4000000 in
theorem vars_in (F : Fence) (n : Nat) (h65 : F.fn 121) (hro : F.round = none) (hn : 1 ≤ n) (l Bs : Nat) (w0 : World) (B0 : Nat) (J Jx : List (Int × Int) → World → Prop) (hJ : AbidesFrom B0 J)
    (ls : List (List C)) (b o cap : Nat) (vs : List Value) (hb : b < w0.heap.size) (hc : ls.length ≤ maxLen) (hvl : vs.length = ls.length) (hr : w0.rangeAt b o vs) (ht : ∀ (i : Nat) (u : Value) (x : List C), vs[i]? = some u → ls[i]? = some x → TermAt w0 u x)
    (hY : ∀ pre x W, J pre W → pre ++ [x] <+: varsAll ls → YieldAt F (n - 1) Tryz.prog l #[.agg #[.int .i64 x.1, .int .i64 x.2]] W fun e W' =>
      (e = .returned (.bool true) ∧ J (pre ++ [x]) W' ∧ Below w0.heap.size W W') ∨ (e = .returned (.bool false) ∧ Jx (pre ++ [x]) W'))
    (W : World) (hBs : W.cell? ⟨Bs, 0, none⟩ = some (.slice (some ⟨b, o, none⟩) ls.length cap)) (hW : Below w0.heap.size w0 W) (h0 : J [] W) :
    CallsIn F n Tryz.prog 121 #[.func (.yield l) #[] #[], .pointer (some ⟨Bs, 0, none⟩)] W fun e W' => (∃ v, e = .returned v) ∧
      ((∃ ys, ys = varsAll ls ∧ J ys W') ∨ (∃ pre, pre <+: varsAll ls ∧ Jx pre W')) := by
  unfold maxLen at hc
  have HR : Hid (w0.rangeAt b o vs) := hr
  have HT : Hid (∀ (i : Nat) (u : Value) (x : List C), vs[i]? = some u → ls[i]? = some x → TermAt w0 u x) := ht
  have HV : Hid (vs.length = ls.length) := hvl
  have HY : Hid (∀ pre x W, J pre W → pre ++ [x] <+: varsAll ls → YieldAt F (n - 1) Tryz.prog l #[.agg #[.int .i64 x.1, .int .i64 x.2]] W fun e W' =>
      (e = .returned (.bool true) ∧ J (pre ++ [x]) W' ∧ Below w0.heap.size W W') ∨ (e = .returned (.bool false) ∧ Jx (pre ++ [x]) W')) := hY
  have HJ : Hid (AbidesFrom B0 J) := hJ
  clear hr ht hvl hY hJ
  refine callsIn_of_wp Tryz.func121 rfl h65 ?_ hro
  simp only [Tryz.ntmps121, List.size_toArray, List.length_cons, List.length_nil, Nat.reduceAdd, Nat.reduceSub, Array.replicate_succ, Array.replicate_zero, List.push_toArray, List.append_toArray, List.nil_append, List.cons_append]
  gi_wp2
  gi_loopw [9] (fun i wr => ∃ k : Nat, k ≤ ls.length ∧ i = .int .i64 k ∧ Hid (J (varsAll (ls.take k)) wr) ∧ Below w0.heap.size w0 wr) (fun i _ => ls.length - (intOf i).toNat)
  case atStart => exact ⟨0, Nat.zero_le _, rfl, h0, hW⟩
  case round =>
    obtain ⟨k, hk, rfl, hJs, hbr⟩ := hrel
    by_cases hlt : k < ls.length
    · have hlt' : (k : Int) < (ls.length : Int) := by omega
      have hkv : k < vs.length := by rw [HV.out]; exact hlt
      have p0 := row_cell (range_below HR.out hb hbr) k hkv
      have hta := HT.out k _ _ (List.getElem?_eq_getElem hkv) (List.getElem?_eq_getElem hlt)
      obtain ⟨ak, ck, hfk⟩ := hta.form
      have HTA : Hid (TermAt w0 vs[k] ls[k]) := hta
      have hlen63 : ls[k].length ≤ 2 ^ 63 - 1 := hta.1.1
      rw [hfk] at p0
      rw [hfk] at HTA
      clear hta hfk
      gi_wp2
      gi_loopw [15] (fun i wr => ∃ j : Nat, j ≤ ls[k].length ∧ i = .int .i64 j ∧ Hid (J (varsAll (ls.take k) ++ varsOf (ls[k].take j)) wr) ∧ Below w0.heap.size w0 wr) (fun i _ => ls[k].length - (intOf i).toNat)
      case atStart => exact ⟨0, Nat.zero_le _, rfl, by
        show J (varsAll (ls.take k) ++ varsOf (ls[k].take 0)) _
        simpa [varsOf] using hJs.out, hbr⟩
      case round =>
        obtain ⟨j, hj, rfl, hJ2, hbr2⟩ := hrel
        by_cases hltj : j < ls[k].length
        · have hltj' : (j : Int) < (ls[k].length : Int) := by omega
          obtain ⟨_, hta2⟩ := HTA.out
          rcases hta2 with ⟨hnil, _⟩ | ⟨bk, ok, ck2, hf, _, _, hrk, hbk⟩
          · rw [hnil] at hltj; simp at hltj
          simp only [Value.slice.injEq, true_and] at hf
          obtain ⟨hf1, hf2⟩ := hf
          subst hf1 hf2
          obtain ⟨q0, q1, q2, q3, q4⟩ := term_cells (range_below hrk hbk hbr2) j hltj
          have hpre := vars_at_prefix ls k (j + 1) hlt
          have hB3 : ∀ ob : Obj, Hid (Below w0.heap.size w0 (wr.alloc ob)) := fun ob => hbr2.alloc hbr2.size ob
          clear hrk
          cases h4 : (ls[k][j].k == 4)
          · have hv := varsOf_snoc_no ls[k] j hltj h4
            have hJ3 : ∀ ob : Obj, Hid (J (varsAll (ls.take k) ++ varsOf (ls[k].take (j + 1))) (wr.alloc ob)) := fun ob => by
              show J (varsAll (ls.take k) ++ varsOf (ls[k].take (j + 1))) (wr.alloc ob)
              rw [hv]; exact abides_alloc HJ.out ob hJ2.out
            clear hv hpre
            gi_wp2
            refine ⟨fun _ h => (by cases h), ?_⟩
            gi_wp2
            go_roundw
            case rel => exact ⟨j + 1, by omega, by go_num, hJ3 _, (hB3 _).out⟩
            case measure => simp [intOf]; omega
          · have hv := varsOf_snoc_yes ls[k] j hltj h4
            have HP : Hid (varsAll (ls.take k) ++ varsOf (ls[k].take (j + 1)) <+: varsAll ls) := hpre
            have HV2 : Hid (varsAll (ls.take k) ++ varsOf (ls[k].take j) ++ [(ls[k][j].vn, ls[k][j].vk)] = varsAll (ls.take k) ++ varsOf (ls[k].take (j + 1))) := by
              show varsAll (ls.take k) ++ varsOf (ls[k].take j) ++ [(ls[k][j].vn, ls[k][j].vk)] = varsAll (ls.take k) ++ varsOf (ls[k].take (j + 1))
              rw [hv, List.append_assoc]
            obtain ⟨fn, tmps, assign, body, hy, hR⟩ := HY.out (varsAll (ls.take k) ++ varsOf (ls[k].take j)) (ls[k][j].vn, ls[k][j].vk) (wr.alloc (.cells #[.int .u8 ls[k][j].k, .string ls[k][j].t, .int .i64 ls[k][j].n, .int .i64 ls[k][j].vn, .int .i64 ls[k][j].vk] 82)) (abides_alloc HJ.out _ hJ2.out) (by rw [HV2.out]; exact HP.out)
            dsimp only at hy
            clear hv hpre
            gi_wp2
            refine hR.mono ?_
            rintro e W3 (⟨rfl, hJ3, hk3⟩ | ⟨rfl, hJx3⟩)
            · have HB4 : Hid (Below w0.heap.size w0 W3) := (hB3 _).out.trans hk3
              gi_wp2
              go_roundw
              case rel => exact ⟨j + 1, by omega, by go_num, by
                show J (varsAll (ls.take k) ++ varsOf (ls[k].take (j + 1))) _
                rw [← HV2.out]; exact hJ3, HB4.out⟩
              case measure => simp [intOf]; omega
            · gi_wp2
              refine bodyPost_ret (results_none rfl _ _ _) rfl ?_
              exact ⟨⟨_, rfl⟩, .inr ⟨_, by rw [HV2.out]; exact HP.out, hJx3⟩⟩
        · obtain rfl : j = ls[k].length := by omega
          have HJ4 : Hid (J (varsAll (ls.take (k + 1))) wr) := by
            show J (varsAll (ls.take (k + 1))) wr
            rw [varsAll_snoc ls k hlt]
            simpa using hJ2.out
          gi_wp2
          go_roundw
          case rel => exact ⟨k + 1, by omega, by go_num, HJ4, hbr2⟩
          case measure => simp [intOf]; omega
    · obtain rfl : k = ls.length := by omega
      gi_wp2
      go_end0
      exact ⟨⟨_, rfl⟩, .inl ⟨varsAll ls, rfl, by simpa using hJs.out⟩⟩
set_option maxRecDepth 100000 in
set_option maxHeartbeats 4000000 in
theorem vars_nil (F : Fence) (n : Nat) (h65 : F.fn 121) (hro : F.round = none) (l Bs : Nat) (J Jx : List (Int × Int) → World → Prop) (ad : Option Addr) (W : World) (hBs : W.cell? ⟨Bs, 0, none⟩ = some (.slice ad 0 0)) (h0 : J [] W) :
    CallsIn F n Tryz.prog 121 #[.func (.yield l) #[] #[], .pointer (some ⟨Bs, 0, none⟩)] W fun e W' => (∃ v, e = .returned v) ∧
      ((∃ ys, ys = varsAll [] ∧ J ys W') ∨ (∃ pre, pre <+: varsAll [] ∧ Jx pre W')) := by
  have H0 : Hid (J [] W) := h0
  clear h0
  refine callsIn_of_wp Tryz.func121 rfl h65 ?_ hro
  simp only [Tryz.ntmps121, List.size_toArray, List.length_cons, List.length_nil, Nat.reduceAdd, Nat.reduceSub, Array.replicate_succ, Array.replicate_zero, List.push_toArray, List.append_toArray, List.nil_append, List.cons_append]
  gi_wp2
  gi_loopw [9] (fun i wr => i = .int .i64 0 ∧ wr = W) (fun _ _ => 0)
  case atStart => exact ⟨rfl, rfl⟩
  case round =>
    obtain ⟨rfl, rfl⟩ := hrel
    gi_wp2
    go_end0
    exact ⟨⟨_, rfl⟩, .inl ⟨[], rfl, H0.out⟩⟩
set_option maxHeartbeats 1000000 in
theorem variables_in (F : Fence) (n : Nat) (h57 : F.fn 112) (hro : F.round = none) (v : Value) (w : World) (hv : ∃ ad len cap, v = .slice ad len cap) :
    CallsIn F n Tryz.prog 112 #[v] w fun e w' => e = .returned (.func (.func 121) #[] #[.pointer (some ⟨w.heap.size, 0, none⟩)]) ∧ w' = w.alloc (.cells #[v] 32) := by
  obtain ⟨ad, len, cap, rfl⟩ := hv
  refine callsIn_of_wp Tryz.func112 rfl h57 ?_ hro
  simp only [Tryz.ntmps112, List.size_toArray, List.length_cons, List.length_nil, Nat.reduceAdd, Nat.reduceSub, Array.replicate_succ, Array.replicate_zero, List.push_toArray, List.append_toArray, List.nil_append, List.cons_append]
  gi_wp2
  go_ret
  exact ⟨rfl, rfl⟩
/-- The iterator's word: names of which Q is known. -/
theorem vars_stops (F : Fence) (n : Nat) (h65 : F.fn 121) (hro : F.round = none) (hn : 1 ≤ n) (Q : Int × Int → Prop) (Bs : Nat) (ls : List (List C)) (v : Value) (w0 w : World) (hBs : Bs < w.heap.size) (hw : Below w0.heap.size w0 w)
    (hc : w.cell? ⟨Bs, 0, none⟩ = some v) (hR : RowAt w0 v ls) (hQ : ∀ x ∈ varsAll ls, Q x) :
    SeqStopsK F n Tryz.prog 121 #[.pointer (some ⟨Bs, 0, none⟩)] (fun x : { x : Int × Int // Q x } => #[Value.agg #[.int .i64 x.1.1, .int .i64 x.1.2]]) (Below w0.heap.size) (fun ys => ys.map (·.1) = varsAll ls) (fun pre => pre.map (·.1) <+: varsAll ls) (varsAll ls).length w := by
  intro l J Jx W hW hJ hJx hY h0
  have hcW : W.cell? ⟨Bs, 0, none⟩ = some v := (hW.cell (p := ⟨Bs, 0, none⟩) hBs).trans hc
  let J' : List (Int × Int) → World → Prop := fun pre W => ∃ q : List { x : Int × Int // Q x }, q.map (·.1) = pre ∧ J q W
  let Jx' : List (Int × Int) → World → Prop := fun pre W => ∃ q : List { x : Int × Int // Q x }, q.map (·.1) = pre ∧ Jx q W
  have key : CallsIn F n Tryz.prog 121 #[.func (.yield l) #[] #[], .pointer (some ⟨Bs, 0, none⟩)] W fun e W' => (∃ v, e = .returned v) ∧
      ((∃ ys, ys = varsAll ls ∧ J' ys W') ∨ (∃ pre, pre <+: varsAll ls ∧ Jx' pre W')) := by
    rcases hR.2 with ⟨rfl, ad, rfl⟩ | ⟨b, o, cap, vs, rfl, _, _, hb, hvl, hr, ht⟩
    · exact vars_nil F n h65 hro l Bs J' Jx' ad W hcW ⟨[], rfl, h0⟩
    · refine vars_in F n h65 hro hn l Bs w0 W.heap.size J' Jx' ?_ ls b o cap vs hb hR.1 hvl hr ht ?_ W hcW (hw.trans (hW.mono hw.size)) ⟨[], rfl, h0⟩
      · rintro s A B row ⟨q, rfl, hq⟩ hg hr
        exact ⟨q, rfl, hJ _ _ _ _ hq hg hr⟩
      · rintro pre x W1 ⟨q, rfl, hq⟩ hp
        have hx : Q x := hQ x (hp.subset (by simp))
        have hl : q.length < (varsAll ls).length := by
          have := hp.length_le; simp at this; omega
        refine (hY q ⟨x, hx⟩ W1 hq hl).mono ?_
        rintro e W2 (⟨rfl, h1, h2⟩ | ⟨rfl, h1⟩)
        · exact .inl ⟨rfl, ⟨_, by simp, h1⟩, h2⟩
        · exact .inr ⟨rfl, ⟨_, by simp, h1⟩⟩
  refine key.mono ?_
  rintro e W' ⟨hv, ⟨ys, h1, q, h2, h3⟩ | ⟨pre, h1, q, h2, h3⟩⟩
  · exact ⟨hv, .inl ⟨q, h2.trans h1, h3⟩⟩
  · exact ⟨hv, .inr ⟨q, show q.map (·.1) <+: varsAll ls from h2 ▸ h1, h3⟩⟩
end Go.Proofs.YtlfccjlifjppdaaGreatDoor
namespace Go.Proofs.YtlfccjlifjppdaaGreatDoor
open Go.RowKit Go.Shelf
attribute [local go_sem] Oper.semAt_some
/-- A pair that lies in a block of its own. -/
def Pair (W : World) (B : Nat) (t : TypeId) (a b : Int) : Prop := W.heap[B]? = some (.cells #[.int .i64 a, .int .i64 b] t (0, 0))
theorem Pair.cell0 {W : World} {B : Nat} {t : TypeId} {a b : Int} (h : Pair W B t a b) : W.cell? ⟨B, 0, none⟩ = some (.int .i64 a) := by simp [World.cell?, show W.heap[B]? = _ from h]
theorem Pair.cell1 {W : World} {B : Nat} {t : TypeId} {a b : Int} (h : Pair W B t a b) : W.cell? ⟨B, 1, none⟩ = some (.int .i64 b) := by simp [World.cell?, show W.heap[B]? = _ from h]
theorem Pair.lt {W : World} {B : Nat} {t : TypeId} {a b : Int} (h : Pair W B t a b) : B < W.heap.size := (Array.getElem?_eq_some_iff.1 h).1
theorem Pair.new (W : World) (t : TypeId) (a b : Int) : Pair (W.alloc (.cells #[.int .i64 a, .int .i64 b] t)) W.heap.size t a b := World.alloc_heap_new W _
theorem Pair.kept {W W' : World} {row : Option Nat} {B : Nat} {t : TypeId} {a b : Int} (h : Pair W B t a b) (hg : W.grownBy W' row) (hr : ∀ r, row = some r → ∃ o : Obj, W.heap[r]? = some o ∧ o.isCells = false) : Pair W' B t a b :=
  (hg.block B h.lt (fun e => by
    obtain ⟨o, h1, h2⟩ := hr B e.symm
    rw [show W.heap[B]? = _ from h] at h1
    cases h1
    cases h2)).trans h
def globalB (l : List C) : Bool := (varsOf l).all (fun x => !(x.1 == -1)) && rightB l
end Go.Proofs.YtlfccjlifjppdaaGreatDoor
namespace Go.Proofs.YtlfccjlifjppdaaGreatDoor
open Go.RowKit Go.Shelf
attribute [local go_sem] Oper.semAt_some
/-- A term may lie in the place of a local: it is empty, or right. -/
def emptyOrRight (l : List C) : Bool := decide ((l.length : Int) ≤ 0) || rightB l
def localsB (ls : List (List C)) : Bool := ls.all emptyOrRight
theorem locals_snoc (l : List (List C)) (k : Nat) (hk : k < l.length) (h : (l.take k).all emptyOrRight = true) (hi : emptyOrRight l[k] = true) : (l.take (k + 1)).all emptyOrRight = true := by
  rw [List.take_succ_eq_append_getElem hk, List.all_append, h]; simp [hi]
theorem locals_false (l : List (List C)) (k : Nat) (hk : k < l.length) (hi : emptyOrRight l[k] = false) : localsB l = false := by
  unfold localsB; rw [List.all_eq_false]; exact ⟨l[k], List.getElem_mem _, by simp [hi]⟩
/-- The variables of a right term. -/
theorem right_vars {l : List C} (h : rightB l = true) : ∀ x ∈ varsOf l, 0 ≤ x.2 ∧ -1 ≤ x.1 := by
  intro x hx
  unfold varsOf at hx
  obtain ⟨c, hc, rfl⟩ := List.mem_map.1 hx
  rw [List.mem_filter] at hc
  unfold rightB at h
  simp only [Bool.and_eq_true] at h
  have h1 := h.1.2
  unfold cellsB at h1
  have h2 := List.all_eq_true.1 h1 c hc.1
  have h3 : c.k = 4 := by simpa using hc.2
  unfold C.ok cellB at h2
  rw [h3] at h2
  simp [between] at h2
  simp; omega
/-- Is there no term in a place? -/
def lackB (ls : List (List C)) (n : Int) : Bool := decide ((ls.length : Int) ≤ n) || ((ls[n.toNat]?.getD []).length == 0)
def lacksB (l : List C) (ls : List (List C)) : Bool := (varsOf l).any fun x => x.1 == -1 && lackB ls x.2
end Go.Proofs.YtlfccjlifjppdaaGreatDoor
namespace Go.Proofs.YtlfccjlifjppdaaGreatDoor
open Go.RowKit Go.Shelf
def isLoc (c : C) : Bool := c.k == 4 && c.vn == -1
def putC (ls : List (List C)) (c : C) : List C := if isLoc c then ls[c.vk.toNat]?.getD [] else [c]
def putL (ls : List (List C)) (l : List C) : List C := l.flatMap (putC ls)
def putE (l : List C) (ls : List (List C)) : Int := if rightB l && localsB ls then (if lacksB l ls then 4 else if (256 : Int) < ((putL ls l).length : Int) then 5 else 0) else 6
def putT (l : List C) (ls : List (List C)) : List C := if putE l ls = 0 then putL ls l else []
theorem put_snoc (ls : List (List C)) (l : List C) (k : Nat) (hk : k < l.length) : putL ls (l.take (k + 1)) = putL ls (l.take k) ++ putC ls l[k] := by
  unfold putL
  rw [List.take_succ_eq_append_getElem hk, List.flatMap_append]; simp
theorem locals_len {ls : List (List C)} (h : localsB ls = true) : ∀ x ∈ ls, x.length ≤ 256 := by
  intro x hx
  unfold localsB at h
  have h1 := List.all_eq_true.1 h x hx
  unfold emptyOrRight at h1
  simp only [Bool.or_eq_true, decide_eq_true_eq] at h1
  rcases h1 with h1 | h1
  · omega
  · exact (right_len h1).2
theorem putC_len {ls : List (List C)} (h : localsB ls = true) (c : C) : (putC ls c).length ≤ 256 := by
  unfold putC
  split
  · cases hq : ls[c.vk.toNat]? with
    | none => simp
    | some x => simp; exact locals_len h x (List.mem_of_getElem? hq)
  · simp
theorem put_len {ls : List (List C)} (h : localsB ls = true) (l : List C) : (putL ls l).length ≤ 256 * l.length := by
  induction l with
  | nil => simp [putL]
  | cons a r ih =>
    have := putC_len h a
    simp [putL] at *; omega
/-- Nothing is lacking: each place has a term. -/
theorem not_lack {l : List C} {ls : List (List C)} (hr : rightB l = true) (h : lacksB l ls = false) (k : Nat) (hk : k < l.length) (h4 : (l[k].k == 4) = true) (h1 : (l[k].vn == -1) = true) : ∃ m : Nat, l[k].vk = m ∧ ∃ hm : m < ls.length, 1 ≤ ls[m].length := by
  have hx : (l[k].vn, l[k].vk) ∈ varsOf l := by
    unfold varsOf
    exact List.mem_map.2 ⟨l[k], List.mem_filter.2 ⟨List.getElem_mem _, h4⟩, rfl⟩
  have h0 := (right_vars hr _ hx).1
  unfold lacksB at h
  rw [List.any_eq_false] at h
  have h2 := h _ hx
  simp only [h1, Bool.true_and, lackB, Bool.or_eq_true, decide_eq_true_eq, beq_iff_eq, not_or] at h2
  refine ⟨l[k].vk.toNat, by simp at h0; omega, by omega, ?_⟩
  have h3 := h2.2
  rw [List.getElem?_eq_getElem (by omega)] at h3
  simp at h3
  cases hq : ls[l[k].vk.toNat] with
  | nil => exact absurd hq h3
  | cons a r => simp
theorem owns_form {w : World} {base : Nat} {e : TypeId} {s : Nat} {v : Value} {n : Nat} {xs : List Value} (h : w.ownsRow base e s v n xs) : ∃ ad cap, v = .slice ad n cap := by
  rcases h.2 with ⟨h1, h2⟩ | ⟨g, cap, cur, h1, _⟩
  · exact ⟨none, 0, by rw [h1, h2]⟩
  · exact ⟨_, _, h1⟩
theorem news_new (W : World) (c : C) : ∀ j u, (flat [c])[j]? = some u → (W.alloc (.cells #[.int .u8 c.k, .string c.t, .int .i64 c.n, .int .i64 c.vn, .int .i64 c.vk] 82)).cell? ((⟨W.heap.size, 0, none⟩ : Addr).add j) = some u := by
  intro j u hu
  rw [Addr.add_mid]
  exact range_new W (flat [c]) 82 j u hu
end Go.Proofs.YtlfccjlifjppdaaGreatDoor
namespace Go.Proofs.YtlfccjlifjppdaaGreatDoor
open Go.RowKit
attribute [local go_sem ↓] Go.wp_at_zero Go.wp_at_succ
abbrev Nm := Int × Int
def nmV (x : Nm) : List Value := [.int .i64 x.1, .int .i64 x.2]
def flatN (l : List Nm) : List Value := l.flatMap nmV
theorem flatN_append (a b : List Nm) : flatN (a ++ b) = flatN a ++ flatN b := by simp [flatN]
theorem flatN_length (l : List Nm) : (flatN l).length = l.length * 2 := by
  induction l with
  | nil => rfl
  | cons a r ih => simp [flatN, nmV] at *; omega
theorem flatN_get (l : List Nm) (i j : Nat) (hi : i < l.length) (hj : j < 2) : (flatN l)[2 * i + j]? = (nmV l[i])[j]? := by
  induction l generalizing i with
  | nil => simp at hi
  | cons a r ih =>
    cases i with
    | zero =>
      simp only [flatN, List.flatMap_cons]
      rw [List.getElem?_append_left (by simp [nmV]; omega)]
      simp
    | succ i =>
      simp only [flatN, List.flatMap_cons]
      rw [List.getElem?_append_right (by simp [nmV]; omega)]
      have e : 2 * (i + 1) + j - (nmV a).length = 2 * i + j := by simp [nmV]; omega
      rw [e]
      exact ih i (by simpa using hi)
theorem flatN_one (l : List Nm) : ∀ u ∈ flatN l, u.oneCell' = true := by
  intro u hu
  simp only [flatN, List.mem_flatMap] at hu
  obtain ⟨c, _, hc⟩ := hu
  simp only [nmV, List.mem_cons, List.not_mem_nil, or_false] at hc
  rcases hc with rfl | rfl <;> rfl
theorem name_cells {w : World} {b o : Nat} {l : List Nm} (h : w.rangeAt b o (flatN l)) (i : Nat) (hi : i < l.length) :
    w.cell? ⟨b, o + i * 2, none⟩ = some (.int .i64 l[i].1) ∧ w.cell? ⟨b, o + i * 2 + 1, none⟩ = some (.int .i64 l[i].2) := by
  have g : ∀ j v, j < 2 → (nmV l[i])[j]? = some v → w.cell? ⟨b, o + i * 2 + j, none⟩ = some v := by
    intro j v hj hv
    have := h (2 * i + j) v (by rw [flatN_get l i j hi hj]; exact hv)
    rw [show o + (2 * i + j) = o + i * 2 + j by omega] at this
    exact this
  exact ⟨g 0 _ (by omega) rfl, g 1 _ (by omega) rfl⟩
/-- A row of names in memory. -/
def NamesAt (w : World) (v : Value) (l : List Nm) : Prop :=
  l.length ≤ maxLen ∧ ((l = [] ∧ ∃ ad : Option Addr, v = .slice ad 0 0) ∨ ∃ b o cap : Nat, v = .slice (some ⟨b, o, none⟩) l.length cap ∧ w.rangeAt b o (flatN l) ∧ b < w.heap.size)
theorem NamesAt.below {w w' : World} {v : Value} {l : List Nm} (h : NamesAt w v l) (hb : Below w.heap.size w w') : NamesAt w' v l := by
  obtain ⟨h0, h⟩ := h
  refine ⟨h0, ?_⟩
  rcases h with h | ⟨b, o, cap, h1, h3, h4⟩
  · exact Or.inl h
  · exact Or.inr ⟨b, o, cap, h1, range_below h3 h4 hb, Nat.lt_of_lt_of_le h4 hb.size⟩
theorem NamesAt.form {w : World} {v : Value} {l : List Nm} (h : NamesAt w v l) : ∃ (ad : Option Addr) (cap : Nat), v = .slice ad l.length cap := by
  rcases h.2 with ⟨rfl, ad, rfl⟩ | ⟨b, o, cap, rfl, _⟩
  · exact ⟨ad, 0, rfl⟩
  · exact ⟨_, _, rfl⟩
def OwnN (w : World) (base : Nat) (u : Value) (l : List Nm) : Prop := w.ownsRow base 80 2 u l.length (flatN l)
theorem range_of_owns {w : World} {g : Nat} {cur : Array Value} {e : TypeId} {m : Nat} {xs : List Value} (h3 : w.heap[g]? = some (.cells cur e (0, 0))) (h7 : cur.toList.take m = xs) : w.rangeAt g 0 xs := by
  intro j u hu
  rw [cell_of_row _ _ _ _ _ _ h3]
  rw [← h7] at hu
  rw [List.getElem?_take] at hu
  split at hu
  · simpa using hu
  · cases hu
theorem namesAt_of_owns {w : World} {base : Nat} {v : Value} {l : List Nm} (h : OwnN w base v l) (hl : l.length ≤ maxLen) : NamesAt w v l := by
  refine ⟨hl, ?_⟩
  rcases h.2 with ⟨h1, h2⟩ | ⟨g, cap, cur, h1, h2, h3, h4, h5, h6, h7⟩
  · exact Or.inl ⟨List.eq_nil_of_length_eq_zero h2, none, h1⟩
  · exact Or.inr ⟨g, 0, cap, h1, range_of_owns h3 h7, (Array.getElem?_eq_some_iff.1 h3).1⟩
theorem owns_below {w w' : World} {base : Nat} {e : TypeId} {s n : Nat} {u : Value} {xs : List Value} (h : w.ownsRow base e s u n xs) (hb : Below w.heap.size w w') : w'.ownsRow base e s u n xs := by
  refine ⟨h.1, ?_⟩
  rcases h.2 with hn | ⟨g, cap, cur, h1, h2, h3, h4⟩
  · exact Or.inl hn
  · exact Or.inr ⟨g, cap, cur, h1, h2, (hb.block g (Array.getElem?_eq_some_iff.1 h3).1).trans h3, h4⟩
theorem eql23b (a b c d : Int) (w : World) :
    (binOp .eql 80 (.agg #[.int .i64 a, .int .i64 b]) (.agg #[.int .i64 c, .int .i64 d])).run Tryz.prog w = .ok (.bool (a == c && b == d)) w := by
  cases h1 : (a == c) <;> cases h2 : (b == d) <;> go_simp
theorem neq23 (a b c d : Int) (w : World) :
    (binOp .neq 80 (.agg #[.int .i64 a, .int .i64 b]) (.agg #[.int .i64 c, .int .i64 d])).run Tryz.prog w = .ok (.bool (!(a == c && b == d))) w := by
  cases h1 : (a == c) <;> cases h2 : (b == d) <;> go_simp
def eqN (x y : Nm) : Bool := x.1 == y.1 && x.2 == y.2
theorem eqN_iff (x y : Nm) : eqN x y = true ↔ x = y := by
  unfold eqN
  simp [Prod.ext_iff]
def hasN (l : List Nm) (x : Nm) : Bool := l.any fun y => eqN y x
theorem hasN_iff (l : List Nm) (x : Nm) : hasN l x = true ↔ x ∈ l := by
  unfold hasN
  simp only [List.any_eq_true, eqN_iff]
  exact ⟨fun ⟨y, h1, h2⟩ => h2 ▸ h1, fun h => ⟨x, h, rfl⟩⟩
def eqNUpto (l m : List Nm) (k : Nat) : Prop := ∀ j, j < k → ∀ (h1 : j < l.length) (h2 : j < m.length), eqN l[j] m[j] = true
def eqNs (l m : List Nm) : Bool := decide (l = m)
theorem eqNs_true {l m : List Nm} (h : l.length = m.length) (hu : eqNUpto l m l.length) : eqNs l m = true := by
  unfold eqNs
  rw [decide_eq_true_eq]
  refine List.ext_getElem h fun j h1 h2 => ?_
  exact (eqN_iff _ _).1 (hu j h1 h1 h2)
theorem eqNs_false {l m : List Nm} (j : Nat) (h1 : j < l.length) (h2 : j < m.length) (h : eqN l[j] m[j] = false) : eqNs l m = false := by
  unfold eqNs
  rw [decide_eq_false_iff_not]
  intro e
  subst e
  have := (eqN_iff l[j] l[j]).2 rfl
  rw [h] at this; cases this
end Go.Proofs.YtlfccjlifjppdaaGreatDoor
namespace Go.Proofs.YtlfccjlifjppdaaGreatDoor
open Go.RowKit
def addN (acc : List Nm) (x : Nm) : List Nm := if hasN acc x then acc else acc ++ [x]
/-- Each once, in the order in which they first come. -/
def nubN (xs : List Nm) : List Nm := xs.foldl addN []
theorem nubN_snoc (xs : List Nm) (x : Nm) : nubN (xs ++ [x]) = addN (nubN xs) x := by simp [nubN]
theorem addN_len (acc : List Nm) (x : Nm) : (addN acc x).length ≤ acc.length + 1 := by unfold addN; split <;> simp
theorem foldN_len (xs acc : List Nm) : (xs.foldl addN acc).length ≤ acc.length + xs.length := by
  induction xs generalizing acc with
  | nil => simp
  | cons a r ih =>
    have h1 := ih (addN acc a)
    have h2 := addN_len acc a
    simp; omega
theorem nubN_len (xs : List Nm) : (nubN xs).length ≤ xs.length := by
  have := foldN_len xs []; simp at this; exact this
theorem info23 : ∃ i, Tryz.prog.info? 80 = some i ∧ i.zero = some (.agg #[.int .i64 0, .int .i64 0]) ∧ i.size = 2 ∧ i.bytes = 16 := by
  have h : (Tryz.prog.info? 80).map (fun i => (i.zero, i.size, i.bytes)) = some (some (.agg #[.int .i64 0, .int .i64 0]), 2, 16) := by kernel_rfl
  cases hq : Tryz.prog.info? 80 with
  | none => rw [hq] at h; cases h
  | some i =>
    rw [hq] at h
    simp only [Option.map_some, Option.some.injEq, Prod.mk.injEq] at h
    exact ⟨i, rfl, h.1, h.2.1, h.2.2⟩
theorem newsN_new (W : World) (x : Nm) : ∀ j u, (flatN [x])[j]? = some u → (W.alloc (.cells #[.int .i64 x.1, .int .i64 x.2] 80)).cell? ((⟨W.heap.size, 0, none⟩ : Addr).add j) = some u := by
  intro j u hu
  rw [Addr.add_mid]
  exact range_new W (flatN [x]) 80 j u hu
/-- What has come of the first k terms and j cells of the next. -/
def metN (ls : List (List C)) (k j : Nat) : List Nm := nubN (varsAll (ls.take k) ++ varsOf ((ls[k]?.getD []).take j))
theorem metN_len (ls : List (List C)) (k j : Nat) (hk : k < ls.length) : (metN ls k j).length ≤ (varsAll ls).length := by
  unfold metN
  have h := (vars_at_prefix ls k j hk).length_le
  have h2 := nubN_len (varsAll (ls.take k) ++ varsOf (ls[k].take j))
  simp only [List.getElem?_eq_getElem hk, Option.getD_some]
  omega
theorem metN_zero (ls : List (List C)) (k : Nat) : metN ls k 0 = nubN (varsAll (ls.take k)) := by simp [metN, varsOf]
theorem metN_end (ls : List (List C)) (k j : Nat) (hk : k < ls.length) (hj : ls[k].length ≤ j) : metN ls k j = nubN (varsAll (ls.take (k + 1))) := by
  unfold metN
  rw [varsAll_snoc ls k hk]
  simp [List.getElem?_eq_getElem hk, List.take_of_length_le hj]
theorem metN_no (ls : List (List C)) (k j : Nat) (hk : k < ls.length) (hj : j < ls[k].length) (h : (ls[k][j].k == 4) = false) : metN ls k (j + 1) = metN ls k j := by
  unfold metN
  simp only [List.getElem?_eq_getElem hk, Option.getD_some]
  rw [varsOf_snoc_no ls[k] j hj h]
theorem metN_yes (ls : List (List C)) (k j : Nat) (hk : k < ls.length) (hj : j < ls[k].length) (h : (ls[k][j].k == 4) = true) : metN ls k (j + 1) = addN (metN ls k j) (ls[k][j].vn, ls[k][j].vk) := by
  unfold metN
  simp only [List.getElem?_eq_getElem hk, Option.getD_some]
  rw [varsOf_snoc_yes ls[k] j hj h, ← List.append_assoc, nubN_snoc]
theorem row_one (w : World) (v : Value) (l : List C) (h : TermAt w v l) : RowAt (w.alloc (.cells #[v] 64)) (.slice (some ⟨w.heap.size, 0, none⟩) 1 1) [l] := by
  refine ⟨by simp [maxLen], .inr ⟨w.heap.size, 0, 1, [v], rfl, by simp, by simp [maxLen], by simp, rfl, range_new w [v] 64, ?_⟩⟩
  intro i u x hu hx
  match i, hu, hx with
  | 0, hu, hx => simp at hu hx; subst hu hx; exact h.below (below_alloc _ _)
def refGlobalB (l : List C) : Bool := rightB l && (varsOf l).all (fun x => !decide (x.1 < 0))
end Go.Proofs.YtlfccjlifjppdaaGreatDoor
namespace Go.Proofs.YtlfccjlifjppdaaGreatDoor
open Go.RowKit Go.Shelf
attribute [local go_sem] Oper.semAt_some
def wfN (x : Nm) : Prop := (Lit.int .i64 x.1).wf = true ∧ (Lit.int .i64 x.2).wf = true
def kLit (x : Nm) : Lit := .string (keyBytes [.int .i64 x.1, .int .i64 x.2])
theorem law23 : WideMaps.KeyLaw Tryz.prog 80 := deep_law_laid (by kernel_rfl) (m := 2) (by omega) (of_decide_eq_true (by kernel_rfl)) (by kernel_rfl) (by rw [Tryz.underlying80])
theorem keyed23 : Maps.Keyed Tryz.prog 80 := Maps.Keyed.of_law law23
theorem key23 (x : Nm) (h : wfN x) : keyOf Tryz.prog 80 (.agg #[.int .i64 x.1, .int .i64 x.2]) = some (kLit x) := by
  obtain ⟨h1, h2⟩ := h
  have hk : Tryz.prog.keyType 80 = true := by kernel_rfl
  have hc : Tryz.prog.cellsOf 80 = 2 := by kernel_rfl
  have hc3 : Tryz.prog.cellsOf 3 = 1 := by kernel_rfl
  have hs : ∃ n, Tryz.prog.types.size = n + 1 := ⟨Tryz.prog.types.size - 1, by have : 0 < Tryz.prog.types.size := of_decide_eq_true (by kernel_rfl); omega⟩
  obtain ⟨n, hs⟩ := hs
  have hf : (Value.agg #[.int .i64 x.1, .int .i64 x.2]).formed Tryz.prog 80 = true := by simp [Value.formed, Tryz.underlying80, hc]
  unfold keyOf
  rw [Tryz.underlying80]
  simp only [hk, hf, Bool.and_self, if_true, hs]
  simp [Program.keyLits, Tryz.underlying80, Tryz.underlying3, hc, hc3, Value.cells, h1, h2, kLit]
theorem kLit_inj {x y : Nm} (hx : wfN x) (hy : wfN y) (h : kLit x = kLit y) : x = y := by
  have h1 := key23 x hx
  have h2 := key23 y hy
  rw [← h] at h2
  have h3 := law23.inj h1 h2
  simp at h3
  exact Prod.ext h3.1 h3.2
def setD (l : List Nm) : DataW Unit := Maps.setOf (.agg []) (l.map kLit)
theorem has_setD (l : List Nm) (x : Nm) (hl : ∀ y ∈ l, wfN y) (hx : wfN x) : Maps.has (setD l) (kLit x) = hasN l x := by
  unfold setD
  rw [Maps.has_setOf _ _ _ (fun y hy => by obtain ⟨z, hz, rfl⟩ := List.mem_map.1 hy; exact keyed23.key (key23 z (hl z hz)))]
  rw [Bool.eq_iff_iff, hasN_iff, List.any_eq_true]
  constructor
  · rintro ⟨y, hy, h⟩
    obtain ⟨z, hz, rfl⟩ := List.mem_map.1 hy
    have := kLit_inj (hl z hz) hx (WideAt.sameKey_eq h)
    subst this; exact hz
  · intro h
    exact ⟨kLit x, List.mem_map.2 ⟨x, h, rfl⟩, WideAt.sameKey_self (keyed23.key (key23 x hx))⟩
theorem setD_snoc (l : List Nm) (x : Nm) : setD (l ++ [x]) = (setD l).put (kLit x) (.agg []) := by
  unfold setD; rw [List.map_append, List.map_singleton, Maps.setOf_snoc]
theorem addN_mem (acc : List Nm) (x y : Nm) (h : y ∈ addN acc x) : y ∈ acc ∨ y = x := by
  unfold addN at h
  split at h
  · exact .inl h
  · rcases List.mem_append.1 h with h | h
    · exact .inl h
    · exact .inr (by simpa using h)
theorem foldN_mem (xs acc : List Nm) (y : Nm) (h : y ∈ xs.foldl addN acc) : y ∈ acc ∨ y ∈ xs := by
  induction xs generalizing acc with
  | nil => exact .inl h
  | cons a r ih =>
    rcases ih (addN acc a) h with h | h
    · rcases addN_mem _ _ _ h with h | h
      · exact .inl h
      · exact .inr (by simp [h])
    · exact .inr (by simp [h])
theorem nubN_mem (xs : List Nm) (y : Nm) (h : y ∈ nubN xs) : y ∈ xs := by
  rcases foldN_mem xs [] y h with h | h
  · simp at h
  · exact h
theorem zero74 (w : World) : (zeroValue 112).run Tryz.prog w = .ok (.agg #[]) w := by kernel_rfl
abbrev WN := { x : Nm // wfN x }
def nubP (pre : List WN) : List Nm := nubN (pre.map (·.1))
theorem nubP_snoc (pre : List WN) (x : WN) : nubP (pre ++ [x]) = addN (nubP pre) x.1 := by
  unfold nubP; rw [List.map_append, List.map_singleton, nubN_snoc]
theorem nubP_wf (pre : List WN) : ∀ y ∈ nubP pre, wfN y := by
  intro y hy
  obtain ⟨z, hz, rfl⟩ := List.mem_map.1 (nubN_mem _ _ hy)
  exact z.2
theorem row_not_map {w : World} {base : Nat} {e : TypeId} {s n m b : Nat} {v : Value} {xs : List Value} {P : Program} {k : TypeId} {D : DataW Unit} (h : w.ownsRow base e s v n xs) (hm : w.ownsMap P k unitElem b m D) : v.ownBlock ≠ some b := by
  obtain ⟨es, ck, hh, _⟩ := hm
  rcases h.2 with ⟨rfl, _⟩ | ⟨g, cap, cur, rfl, _, hg, _⟩
  · simp [Value.ownBlock]
  · intro e1
    simp [Value.ownBlock] at e1
    subst e1
    rw [hh] at hg; cases hg
theorem map_keeps {w w' : World} {m b : Nat} {P : Program} {k : TypeId} {D : DataW Unit} (hm : w.ownsMap P k unitElem b m D) (hk : KeepsOthers w w') : w'.ownsMap P k unitElem b m D := by
  obtain ⟨es, ck, hh, h⟩ := hm
  exact ⟨es, ck, hk.same _ _ hh rfl, h⟩
set_option maxRecDepth 100000 in
set_option maxHeartbeats 4000000 in
theorem c34 (ls : List (List C)) (v : Value) (w : World) (hR : RowAt w v ls) (hT : (varsAll ls).length ≤ 1000000000000) (hW : ∀ x ∈ varsAll ls, wfN x) :
    Calls Tryz.prog 89 #[v] w fun e w' => ∃ u, e = .returned u ∧ OwnN w' w.heap.size u (nubN (varsAll ls)) ∧ Below w.heap.size w w' := by
  refine (callsIn_wide (n := 6)).1 ?_
  have HRow : Hid (RowAt w v ls) := hR
  obtain ⟨ad, cap, hv⟩ := hR.form
  subst hv
  obtain ⟨i0, hi, hz, hs, hby⟩ := info23
  have hmm := @run_makeMap Tryz.prog
  clear hR
  refine callsIn_of_wp_marks Tryz.func89 rfl trivial ?_ rfl
  simp only [Tryz.ntmps89, List.size_toArray, List.length_cons, List.length_nil, Nat.reduceAdd, Nat.reduceSub, Array.replicate_succ, Array.replicate_zero, List.push_toArray, List.append_toArray, List.nil_append, List.cons_append]
  gi_wp2_with (refine ⟨trivial, ?_⟩; gi_at_call 112; refine (variables_in Fence.wide _ trivial rfl _ _ ⟨_, _, _, rfl⟩).mono ?_; rintro e w' ⟨rfl, rfl⟩)
  have bN := (((Boxed.new w 105 (.slice none 0 0)).alloc (.map #[] 0)).alloc (.cells #[.map (some (w.heap.size + 1))] 134)).alloc (.cells #[.slice ad ls.length cap] 32)
  have mM := ((World.ownsMap_made (w.alloc (.cells #[.slice none 0 0] 105)) Tryz.prog 80 (unitElem (H := Unit))).alloc (.cells #[.map (some (w.heap.size + 1))] 134)).alloc (.cells #[.slice ad ls.length cap] 32)
  have bM := (Boxed.new ((w.alloc (.cells #[.slice none 0 0] 105)).alloc (.map #[] 0)) 134 (.map (some (w.heap.size + 1)))).alloc (.cells #[.slice ad ls.length cap] 32)
  have bL := Boxed.new (((w.alloc (.cells #[.slice none 0 0] 105)).alloc (.map #[] 0)).alloc (.cells #[.map (some (w.heap.size + 1))] 134)) 32 (.slice ad ls.length cap)
  simp only [World.size_alloc] at mM bM bL
  have hB0 : Below w.heap.size w ((((w.alloc (.cells #[.slice none 0 0] 105)).alloc (.map #[] 0)).alloc (.cells #[.map (some (w.heap.size + 1))] 134)).alloc (.cells #[.slice ad ls.length cap] 32)) := ((((Below.refl _ w).alloc (Nat.le_refl _) _).alloc (by simp) _).alloc (by simp; omega) _).alloc (by simp; omega) _
  have hsz : ((((w.alloc (.cells #[.slice none 0 0] 105)).alloc (.map #[] 0)).alloc (.cells #[.map (some (w.heap.size + 1))] 134)).alloc (.cells #[.slice ad ls.length cap] 32)).heap.size = w.heap.size + 4 := by simp
  obtain ⟨W0, hW0⟩ : ∃ W0, ((((w.alloc (.cells #[.slice none 0 0] 105)).alloc (.map #[] 0)).alloc (.cells #[.map (some (w.heap.size + 1))] 134)).alloc (.cells #[.slice ad ls.length cap] 32)) = W0 := ⟨_, rfl⟩
  rw [hW0] at bN mM bM bL hB0 hsz ⊢
  clear hW0 hmm
  refine wpIn_rangeFunc_ownH rfl (by decide) (gf := 121) (lb := #[.pointer (some ⟨w.heap.size + 1 + 1 + 1, 0, none⟩)]) rfl trivial (enters_of Tryz.func121 (by kernel_rfl) rfl)
    (vars_stops Fence.wide 5 trivial rfl (by decide) wfN (w.heap.size + 1 + 1 + 1) ls _ w W0 (by omega) hB0 bL.cell HRow.out hW) belowK_t (belowK_b (by omega)) (Below.refl _ _) (fun _ => rfl)
    (fun pre W => ((∃ v, Boxed W w.heap.size 105 v ∧ W.ownsRow w.heap.size 80 2 v (nubP pre).length (flatN (nubP pre)) ∧ True) ∧ (Boxed W (w.heap.size + 1 + 1) 134 (.map (some (w.heap.size + 1))) ∧ W.ownsMap Tryz.prog 80 (unitElem (H := Unit)) (w.heap.size + 1) pre.length (setD (nubP pre)))) ∧ Below w.heap.size w W)
    (fun _ _ _ => False)
    (OwnFrom.and (OwnFrom.and (Own.from (holdsRow_own w.heap.size w.heap.size 105 80 2 (fun pre => (nubP pre).length) (fun pre => flatN (nubP pre)) (fun _ _ => True)) _) (fun s A B row hs hg hr => ⟨boxed_own (w.heap.size + 1 + 1) 134 (fun (_ : Unit) => Value.map (some (w.heap.size + 1))) () A B row hs.1 hg (fun r e => (hr r e).2), hs.2.kept hg (fun e => by have := (hr _ e.symm).1; omega)⟩)) (ownFrom_below (Nat.le_refl _) (by omega)))
    (fun _ _ _ _ _ hs _ _ => hs)
    ⟨⟨⟨_, bN, World.ownsRow_nil _ _ _ _, trivial⟩, bM, mM⟩, hB0⟩
    (fun x a' W => ∃ Bx, Pair W Bx 80 x.1.1 x.1.2 ∧ a' = { tmps := #[.slice ad ls.length cap, undef, .slice none 0 0, .pointer (some ⟨w.heap.size, 0, none⟩), .pointer (some ⟨w.heap.size + 1 + 1, 0, none⟩), .pointer (some ⟨Bx, 0, none⟩), undef, undef, .map (some (w.heap.size + 1)), .slice ad ls.length cap, .func (.func 121) #[] #[.pointer (some ⟨w.heap.size + 1 + 1 + 1, 0, none⟩)], .agg #[.int .i64 x.1.1, .int .i64 x.1.2], undef, undef, undef, undef, undef, undef, undef, undef, undef, undef, undef, undef, undef, undef, undef, undef], defers := [] })
    (fun x a' _ X Y row hs hg hr => by obtain ⟨Bx, h2, h3⟩ := hs; exact ⟨Bx, h2.kept hg (fun r e => (hr r e).2), h3⟩)
    ?assign ?body ?done ?stop
  case assign =>
    rintro lp pre x W K ⟨⟨⟨v1, b1, r1, _⟩, b2, m2⟩, hB1⟩ hK
    gi_wp2
    exact hK _ _ ((KeepsOthers.alloc _ _).from _) ((Below.refl _ W).alloc hB1.size _) ⟨⟨⟨v1, b1.alloc _, r1.alloc _, trivial⟩, b2.alloc _, m2.alloc _⟩, hB1.alloc hB1.size _⟩ ⟨W.heap.size, Pair.new W 80 _ _, rfl⟩
  case body =>
    rintro lp pre x a' W hl ⟨r, hr⟩ ⟨⟨⟨v1, b1, r1, _⟩, b2, m2⟩, hB1⟩ ⟨Bx, bX, rfl⟩ hlt
    have hlen : (nubP pre).length ≤ pre.length := by
      have := nubN_len (pre.map (·.1)); simpa [nubP] using this
    have hhas := has_setD (nubP pre) x.1 (nubP_wf pre) x.2
    have hkey := key23 x.1 x.2
    have hsn := nubP_snoc pre x
    have bX1 : Pair (W.alloc (.cells #[] 112)) Bx 80 x.1.1 x.1.2 := bX.kept (World.grownBy_alloc W _ none) (fun r e => by cases e)
    have b1a := b1.alloc (.cells #[] 112)
    have b2a := b2.alloc (.cells #[] 112)
    have r1a := r1.alloc (.cells #[] 112)
    have m2a := m2.alloc (.cells #[] 112)
    have cM := b2.cell
    have cX0 := bX.cell0
    have cX1 := bX.cell1
    have dM := b2a.cell
    have dX0 := bX1.cell0
    have dX1 := bX1.cell1
    have hBa : Below w.heap.size W (W.alloc (.cells #[] 112)) := (Below.refl _ W).alloc hB1.size _
    have hKa : KeepsFrom W0.heap.size W (W.alloc (.cells #[] 112)) := (KeepsOthers.alloc _ _).from _
    have hp63 : pre.length ≤ 1000000000000 := by omega
    clear hr
    cases hh : hasN (nubP pre) x.1
    · rw [hh] at hhas
      have hE : nubP (pre ++ [x]) = nubP pre ++ [x.1] := by rw [hsn]; unfold addN; rw [hh]; rfl
      have HE : Hid (nubP (pre ++ [x]) = nubP pre ++ [x.1]) := hE
      clear hE hsn hh
      gi_wp2_with (first
        | (gi_at_lookup; refine wpListIn_lookup_own_unit _ rfl _ _ 134 rfl 80 112 keyed23 Tryz.underlying134 (zero74 _) (w.heap.size + 1) pre.length _ rfl m2 _ _ rfl hkey ?_; rw [hhas])
        | (gi_at_mapUpdate; refine wpListIn_mapUpdate_own _ rfl _ _ _ 134 rfl 80 112 keyed23 Tryz.underlying134 _ (w.heap.size + 1) pre.length _ rfl m2a (by unfold maxLen; omega) _ _ _ rfl rfl hkey (.agg []) [] unitElem_mk ?_; intro w1 hown1 hgrow1
           have b1b := b1a.kept hgrow1 (by simp)
           have b2b := b2a.kept hgrow1 (by simp)
           have hmb : ∃ o : Obj, (W.alloc (.cells #[] 112)).heap[w.heap.size + 1]? = some o ∧ o.isCells = false := (by obtain ⟨es, ck, hh, _⟩ := m2a; exact ⟨_, hh, rfl⟩)
           have bXb := bX1.kept hgrow1 (fun r e => by cases e; exact hmb)
           have r1b := r1a.kept hgrow1 (.inr (row_not_map r1a m2a))
           have hBb := hBa.grown hgrow1 (by have := hB1.size; simp; omega) (fun k e => by cases e; exact Nat.le_succ _)
           have hKb := hKa.trans (KeepsFrom.of_grownBy hgrow1 (fun j e => by cases e; omega))
           have eN := b1b.cell
           have eX0 := bXb.cell0
           have eX1 := bXb.cell1
           have hszb := hBb.size
           have hszc : w.heap.size ≤ w1.heap.size := Nat.le_trans hB1.size hszb)
        | (gi_at_builtin; refine wpListIn_append_own _ rfl _ _ 105 rfl w.heap.size 80 i0 (.agg #[.int .i64 0, .int .i64 0]) 2 16 Tryz.underlying105 hi hz hs hby rfl (by decide) _ _ _ rfl (r1b.alloc _) ⟨w1.heap.size, 0, none⟩ 1 1 (flatN [x.1]) rfl rfl (newsN_new w1 x.1) (flatN_one _) (by unfold maxLen; omega) (by omega) (by simp; omega) ?_; intro v' w2 hown' hgrow2 _
           obtain ⟨g', cap', rfl⟩ := ownsRow_succ hown'
           obtain ⟨hv1, hv2, hr2, hk2, hb2⟩ := b1b.appended (by decide) r1b hszc (Nat.le_refl _) hown' hgrow2
           have b2c := ((b2b.alloc _).kept hgrow2 (b2b.not_row (by decide) r1b))
           have hc1 := hv1.cell
           have hf1 := hv1.frozen))
      refine ⟨hKb.trans (hk2.from _), hBb.trans hb2, ⟨⟨_, hv2, ?_, trivial⟩, b2c.other (by omega) _, ?_⟩, hB1.trans (hBb.trans hb2)⟩
      · rw [HE.out, flatN_append, List.length_append]; exact hr2
      · rw [HE.out, setD_snoc, List.length_append]; exact map_keeps hown1 hk2
    · rw [hh] at hhas
      have hE : nubP (pre ++ [x]) = nubP pre := by rw [hsn]; unfold addN; rw [hh]; rfl
      have HE : Hid (nubP (pre ++ [x]) = nubP pre) := hE
      clear hE hsn hh
      gi_wp2_with (gi_at_lookup; refine wpListIn_lookup_own_unit _ rfl _ _ 134 rfl 80 112 keyed23 Tryz.underlying134 (zero74 _) (w.heap.size + 1) pre.length _ rfl m2 _ _ rfl hkey ?_; rw [hhas])
      refine ⟨hKa, hBa, ⟨⟨v1, b1a, ?_, trivial⟩, b2a, ?_⟩, hB1.trans hBa⟩
      · rw [HE.out]; exact r1a
      · rw [HE.out]; exact m2a.mono (by simp)
  case done =>
    rintro D zs W hD hzs ⟨⟨⟨v1, b1, r1, _⟩, b2, m2⟩, hB1⟩ hK
    have hc := b1.cell
    have hE : nubP zs = nubN (varsAll ls) := by unfold nubP; rw [hzs]
    gi_wp2
    refine ⟨by simp, .inl ⟨_, _, rfl, run_takeDeferred hK, ?_⟩⟩
    exact ⟨_, results_tmp rfl _ _ _, v1, rfl, by show World.ownsRow _ _ _ _ _ _ _; rw [← hE]; exact ownsRow_putObj r1 _ hK rfl, hB1.trans (belowK_b (w := w) (Nat.le_refl _) W D _ _ (by omega) hK rfl rfl)⟩
  case stop =>
    rintro D c pre W _ _ h _
    exact h.elim
end Go.Proofs.YtlfccjlifjppdaaGreatDoor
namespace Go.Proofs.YtlfccjlifjppdaaGreatDoor
open Go.RowKit Go.Shelf
abbrev Pd := ByteArray × Int
def Pd.val (x : Pd) : Value := .agg #[.string x.1, .int .i64 x.2]
def Pd.vals (x : Pd) : List Value := [.string x.1, .int .i64 x.2]
def flatP (l : List Pd) : List Value := l.flatMap Pd.vals
theorem flatP_append (a b : List Pd) : flatP (a ++ b) = flatP a ++ flatP b := by simp [flatP]
theorem flatP_one (l : List Pd) : ∀ u ∈ flatP l, u.oneCell' = true := by
  intro u hu
  unfold flatP at hu
  rw [List.mem_flatMap] at hu
  obtain ⟨x, _, hx⟩ := hu
  simp [Pd.vals] at hx
  rcases hx with rfl | rfl <;> rfl
theorem info40 : ∃ i, Tryz.prog.info? 61 = some i ∧ i.zero = some (.agg #[.string ⟨#[]⟩, .int .i64 0]) ∧ i.size = 2 ∧ i.bytes = 24 := by
  have h : (Tryz.prog.info? 61).map (fun i => (i.zero, i.size, i.bytes)) = some (some (.agg #[.string ⟨#[]⟩, .int .i64 0]), 2, 24) := by kernel_rfl
  cases hq : Tryz.prog.info? 61 with
  | none => rw [hq] at h; cases h
  | some i =>
    rw [hq] at h
    simp only [Option.map_some, Option.some.injEq, Prod.mk.injEq] at h
    exact ⟨i, rfl, h.1, h.2.1, h.2.2⟩
/-- The predicate of a term that has a name. -/
def predS (l : List C) : Pd := if (headC l).k == 2 then ((headC l).t, 0) else ((headC l).t, (headC l).n)
set_option maxRecDepth 100000 in
theorem k55 (l : List C) (v : Value) (w : World) (h : TermAt w v l) (h1 : 0 < l.length) :
    Calls Tryz.prog 40 #[v] w fun e w' => e = .returned (predS l).val ∧ Below w.heap.size w w' := by
  have HP : Hid (predS l = if l[0].k == 2 then (l[0].t, (0 : Int)) else (l[0].t, l[0].n)) := by
    show predS l = _
    unfold predS; rw [headC_get h1]
  obtain ⟨⟨hc, htx⟩, h⟩ := h
  rcases h with ⟨rfl, _⟩ | ⟨b, o, cap, rfl, h2, h5, h3, h4⟩
  · simp at h1
  · obtain ⟨p0, p1, p2, p3, p4⟩ := term_cells h3 0 h1
    simp only [Nat.zero_mul, Nat.add_zero] at p0 p1 p2 p3 p4
    have h1' : (0 : Int) < (l.length : Int) := by omega
    generalize l[0] = c at *
    have hB : ∀ (o : Obj), Hid (Below w.heap.size w (w.alloc o)) := fun o => (Below.refl _ _).alloc (Nat.le_refl _) o
    have hbz : b ≠ w.heap.size := by omega
    have q1 : ∀ ob : Obj, (w.alloc ob).cell? ⟨b, o + 1, none⟩ = some (.string c.t) := fun ob => ((hB ob).out.cell (p := ⟨b, o + 1, none⟩) h4).trans p1
    have q2 : ∀ ob : Obj, (w.alloc ob).cell? ⟨b, o + 2, none⟩ = some (.int .i64 c.n) := fun ob => ((hB ob).out.cell (p := ⟨b, o + 2, none⟩) h4).trans p2
    cases hk : (c.k == 2)
    · rw [hk] at HP
      go_enter Tryz.func40, Tryz.ntmps40
      go_wp2_with fail
      go_region
      go_wp2_with fail
      exact bodyPost_ret (v := .agg #[.string c.t, .int .i64 c.n]) (by simp [results, Tryz.results40, go_sem]) rfl ⟨by rw [HP.out]; rfl, (hB _).out.drew⟩
    · rw [hk] at HP
      go_enter Tryz.func40, Tryz.ntmps40
      go_wp2_with fail
      exact bodyPost_ret (v := .agg #[.string c.t, .int .i64 0]) (by simp [results, Tryz.results40, go_sem]) rfl ⟨by rw [HP.out]; rfl, (hB _).out⟩
def wfP (x : Pd) : Prop := x.1.size ≤ maxLen ∧ (Lit.int .i64 x.2).wf = true
def pLit (x : Pd) : Lit := .string (keyBytes [.string x.1.data.toList, .int .i64 x.2])
theorem law40 : WideMaps.KeyLaw Tryz.prog 61 := deep_law_laid (by kernel_rfl) (m := 2) (by omega) (of_decide_eq_true (by kernel_rfl)) (by kernel_rfl) (by rw [Tryz.underlying61])
theorem keyed40 : Maps.Keyed Tryz.prog 61 := Maps.Keyed.of_law law40
theorem key40 (x : Pd) (h : wfP x) : keyOf Tryz.prog 61 x.val = some (pLit x) := by
  obtain ⟨h1, h2⟩ := h
  have hk : Tryz.prog.keyType 61 = true := by kernel_rfl
  have hc : Tryz.prog.cellsOf 61 = 2 := by kernel_rfl
  have hc3 : Tryz.prog.cellsOf 3 = 1 := by kernel_rfl
  have hc9 : Tryz.prog.cellsOf 9 = 1 := by kernel_rfl
  have hs : ∃ n, Tryz.prog.types.size = n + 1 := ⟨Tryz.prog.types.size - 1, by have : 0 < Tryz.prog.types.size := of_decide_eq_true (by kernel_rfl); omega⟩
  obtain ⟨n, hs⟩ := hs
  have hf : (Value.agg #[.string x.1, .int .i64 x.2]).formed Tryz.prog 61 = true := by simp [Value.formed, Tryz.underlying61, hc]
  unfold keyOf Pd.val
  rw [Tryz.underlying61]
  simp only [hk, hf, Bool.and_self, if_true, hs]
  simp [Program.keyLits, Tryz.underlying61, Tryz.underlying3, Tryz.underlying9, hc, hc3, hc9, Value.cells, h1, h2, pLit]
theorem pLit_inj {x y : Pd} (hx : wfP x) (hy : wfP y) (h : pLit x = pLit y) : x = y := by
  have h1 := key40 x hx
  have h2 := key40 y hy
  rw [← h] at h2
  have h3 := law40.inj h1 h2
  simp [Pd.val] at h3
  exact Prod.ext h3.1 h3.2
/-- A set of predicates, as data. -/
def setP (l : List Pd) : DataW Unit := Maps.setOf (.agg []) (l.map pLit)
def hasP (l : List Pd) (x : Pd) : Bool := l.any fun y => y.1.toList == x.1.toList && y.2 == x.2
theorem hasP_iff (l : List Pd) (x : Pd) : hasP l x = true ↔ x ∈ l := by
  unfold hasP
  rw [List.any_eq_true]
  constructor
  · rintro ⟨y, hy, h⟩
    simp only [Bool.and_eq_true, beq_iff_eq] at h
    have e : y = x := Prod.ext (byte_ext' h.1) h.2
    exact e ▸ hy
  · intro h
    exact ⟨x, h, by simp⟩
theorem has_setP (l : List Pd) (x : Pd) (hl : ∀ y ∈ l, wfP y) (hx : wfP x) : Maps.has (setP l) (pLit x) = hasP l x := by
  unfold setP
  rw [Maps.has_setOf _ _ _ (fun y hy => by obtain ⟨z, hz, rfl⟩ := List.mem_map.1 hy; exact keyed40.key (key40 z (hl z hz)))]
  rw [Bool.eq_iff_iff, hasP_iff, List.any_eq_true]
  constructor
  · rintro ⟨y, hy, h⟩
    obtain ⟨z, hz, rfl⟩ := List.mem_map.1 hy
    have := pLit_inj (hl z hz) hx (WideAt.sameKey_eq h)
    subst this; exact hz
  · intro h
    exact ⟨pLit x, List.mem_map.2 ⟨x, h, rfl⟩, WideAt.sameKey_self (keyed40.key (key40 x hx))⟩
theorem setP_snoc (l : List Pd) (x : Pd) : setP (l ++ [x]) = (setP l).put (pLit x) (.agg []) := by
  unfold setP; rw [List.map_append, List.map_singleton, Maps.setOf_snoc]
def addP (acc : List Pd) (x : Pd) : List Pd := if hasP acc x then acc else acc ++ [x]
theorem addP_mem (acc : List Pd) (x y : Pd) (h : y ∈ addP acc x) : y ∈ acc ∨ y = x := by
  unfold addP at h
  split at h
  · exact .inl h
  · rcases List.mem_append.1 h with h | h
    · exact .inl h
    · exact .inr (by simpa using h)
theorem foldP_mem (xs acc : List Pd) (y : Pd) (h : y ∈ xs.foldl addP acc) : y ∈ acc ∨ y ∈ xs := by
  induction xs generalizing acc with
  | nil => exact .inl h
  | cons a r ih =>
    rcases ih (addP acc a) h with h | h
    · rcases addP_mem _ _ _ h with h | h
      · exact .inl h
      · exact .inr (by simp [h])
    · exact .inr (by simp [h])
theorem foldP_len (xs acc : List Pd) : (xs.foldl addP acc).length ≤ acc.length + xs.length := by
  induction xs generalizing acc with
  | nil => simp
  | cons a r ih =>
    have h1 := ih (addP acc a)
    have h2 : (addP acc a).length ≤ acc.length + 1 := by unfold addP; split <;> simp
    simp only [List.foldl_cons, List.length_cons]
    omega
end Go.Proofs.YtlfccjlifjppdaaGreatDoor
