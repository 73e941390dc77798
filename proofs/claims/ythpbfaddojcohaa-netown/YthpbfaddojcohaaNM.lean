/- Contract of Waiting. -/
import Derived.Test.YthpbfaddojcohaaNL
namespace Go.Proofs.Ythpbfaddojcohaa
open Go.RowKit Go.Shelf
attribute [local go_sem] Oper.semAt_some
theorem stepIn_append {F : Fence} {nF : Nat} {P : Program} (w : World) {ops : Array Oper} {o : Oper} {a : Act} {K : Act → World → Prop} {Q : Exit → Act → World → Prop} {E : Prop} (hgd : o.guard = none) (s x : Operand) (t : TypeId)
    (ho : o.op = .call { callee := .builtin .append, args := #[s, x], argTypes := #[t, t] })
    (base : Nat) (e : TypeId) (i : TypeInfo) (z : Value) (size bytes : Nat) (ht : P.underlying t = some (.slice e)) (hi : P.info? e = some i) (hz : i.zero = some z)
    (hsize : i.size = size) (hby : i.bytes = bytes) (hzs : z.cells.size = size) (hsz : 0 < size)
    (v : Value) (n : Nat) (xs : List Value) (hs : a.eval s = v) (hown : w.ownsRow base e size v n xs)
    (ad : Addr) (m c : Nat) (news : List Value) (hx : a.eval x = .slice (some ad) m c) (hl : news.length = m * size) (hnews : ∀ j u, news[j]? = some u → w.cell? (ad.add j) = some u) (h1 : ∀ u ∈ news, u.oneCell' = true)
    (h63 : n + m ≤ maxLen) (hbytes : (n + m) * bytes ≤ 140737488355328) (hbase : base ≤ w.heap.size)
    (h : ∀ v' w', w'.ownsRow base e size v' (n + m) (xs ++ news) → w.grownBy w' v.ownBlock → (v' = .slice none 0 0 ↔ v = .slice none 0 0 ∧ m = 0) → (v'.ownBlock = v.ownBlock ∨ v'.ownBlock = some w.heap.size) → K (a.put o.dst v') w') :
    if Region.wanted o (yielded ops a.tmps) = true then Oper.wpIn F nF P o a w K Q else E := by
  have hw : Region.wanted o (yielded ops a.tmps) = true := by simp [Region.wanted, hgd]
  rw [if_pos hw]
  obtain ⟨v', w', hr, h2, h3, h4, h5⟩ := run_append_own_at (P := P) w base t o.type e i z size bytes ht hi hz hsize hby hzs hsz v n xs hown ad m c news hl hnews h1 h63 hbytes hbase
  unfold Oper.wpIn
  refine ⟨by simp [Oper.about, ho, resolve, Target.leads, Sem.run_pure], ?_⟩
  rw [Oper.semAt_plain F _ _ (by rw [ho]; intro c hc'; cases hc')]
  simp [execOp, ho, resolve, invoke, builtin, hs, hx, hr, Result.andThen]
  exact h v' w' h2 h3 h4 h5
theorem all_stopsQ (Q : Nat × Dg → Prop) (n : Nat) (hn : 1 ≤ n) (Bs : Nat) (ds : List Dg) (ad : Option Addr) (cap : Nat) (w0 w : World) (hBs : Bs < w.heap.size) (hw : Below w0.heap.size w0 w) (hc : w.cell? ⟨Bs, 0, none⟩ = some (.slice ad ds.length cap)) (hl : ds.length ≤ maxLen)
    (hr : ds.length = 0 ∨ ∃ g, ad = some ⟨g, 0, none⟩ ∧ g < w0.heap.size ∧ w0.rangeAt g 0 (flatD ds)) (hQ : ∀ x ∈ enum ds, Q x) :
    SeqStopsK Fence.wide n Try.prog 65 #[.pointer (some ⟨Bs, 0, none⟩)] (fun x : { x : Nat × Dg // Q x } => encD x.1) (Below w0.heap.size) (fun ys => ys.map (·.1) = enum ds) (fun pre => pre.map (·.1) <+: enum ds) ds.length w := by
  intro l J Jx W hW hJ hJx hY h0
  let J' : List (Nat × Dg) → World → Prop := fun pre W => ∃ q : List { x : Nat × Dg // Q x }, q.map (·.1) = pre ∧ J q W
  let Jx' : List (Nat × Dg) → World → Prop := fun pre W => ∃ q : List { x : Nat × Dg // Q x }, q.map (·.1) = pre ∧ Jx q W
  have key := all_in n hn l Bs w0 W.heap.size J' Jx' (by
    rintro s A B row ⟨q, rfl, hq⟩ hg hr
    exact ⟨q, rfl, hJ _ _ _ _ hq hg hr⟩) ds ad cap hl hr (by
    rintro pre x W1 ⟨q, rfl, hq⟩ hp
    have hx : Q x := hQ x (hp.subset (by simp))
    have hl : q.length < ds.length := by
      have := hp.length_le; rw [enum_length] at this; simp at this; omega
    refine (hY q ⟨x, hx⟩ W1 hq hl).mono ?_
    rintro e W2 (⟨rfl, h1, h2⟩ | ⟨rfl, h1⟩)
    · exact .inl ⟨rfl, ⟨_, by simp, h1⟩, h2⟩
    · exact .inr ⟨rfl, ⟨_, by simp, h1⟩⟩) W ((hW.cell (p := ⟨Bs, 0, none⟩) hBs).trans hc) (hw.trans (hW.mono hw.size)) ⟨[], rfl, h0⟩
  refine key.mono ?_
  rintro e W' ⟨hv, ⟨ys, h1, q, h2, h3⟩ | ⟨pre, h1, q, h2, h3⟩⟩
  · exact ⟨hv, .inl ⟨q, h2.trans h1, h3⟩⟩
  · exact ⟨hv, .inr ⟨q, show q.map (·.1) <+: enum ds from h2 ▸ h1, h3⟩⟩
theorem cells_kept {A B : World} {row : Option Nat} (hg : A.grownBy B row) (hr : ∀ r, row = some r → ∃ o : Obj, A.heap[r]? = some o ∧ o.isCells = false) {k : Nat} {cs : Array Value} {t : TypeId} {fr : Nat × Nat} (h : A.heap[k]? = some (.cells cs t fr)) : B.heap[k]? = some (.cells cs t fr) :=
  (hg.block k (Array.getElem?_eq_some_iff.1 h).1 (fun e => by
    obtain ⟨o, h1, h2⟩ := hr k e.symm
    rw [h] at h1; cases h1; cases h2)).trans h
theorem owns_cells {A B : World} {row : Option Nat} (hg : A.grownBy B row) (hr : ∀ r, row = some r → ∃ o : Obj, A.heap[r]? = some o ∧ o.isCells = false) {n0 : Nat} {e : TypeId} {s n : Nat} {u : Value} {xs : List Value} (h : A.ownsRow n0 e s u n xs) : B.ownsRow n0 e s u n xs := by
  refine ⟨h.1, ?_⟩
  rcases h.2 with h1 | ⟨g, cap, cur, h1, h2, h3, h4⟩
  · exact .inl h1
  · exact .inr ⟨g, cap, cur, h1, h2, cells_kept hg hr h3, h4⟩
theorem ownL_cells {A B : World} {row : Option Nat} (hg : A.grownBy B row) (hr : ∀ r, row = some r → ∃ o : Obj, A.heap[r]? = some o ∧ o.isCells = false) {n0 : Nat} {l : List Dg} {cs : List Dc} (h : OwnL A n0 l cs) : OwnL B n0 l cs :=
  ⟨h.1, fun i d x h1 h2 => ⟨(h.2 i d x h1 h2).1, owns_cells hg hr (h.2 i d x h1 h2).2⟩⟩
theorem keeps_below {W W' : World} (hb : Below W.heap.size W W') : KeepsOthers W W' := ⟨hb.size, fun k _ hk _ => (hb.block k (Array.getElem?_eq_some_iff.1 hk).1).trans hk⟩
/-- What a row of cells other than a network's row keeps. -/
theorem ownB_row {w w' : World} {B : Nat} {row : Option Nat} {ba : Option Addr} {bn bc : Nat} {xs : List Int} (h : OwnB w B ba bn bc xs) (hg : w.grownBy w' row) (hr : ∀ r, row = some r → ∃ (cu : Array Value) (t : TypeId), t ≠ 5 ∧ w.heap[r]? = some (.cells cu t (0, 0))) : OwnB w' B ba bn bc xs := by
  refine ⟨h.1, ?_⟩
  rcases h.2 with h1 | ⟨g, cap, cur, h1, h2, h3, h4⟩
  · exact .inl h1
  · refine .inr ⟨g, cap, cur, h1, h2, (hg.block g (Array.getElem?_eq_some_iff.1 h3).1 (fun e => ?_)).trans h3, h4⟩
    obtain ⟨cu, t, ht, h5⟩ := hr g e.symm
    rw [h3] at h5
    simp only [Option.some.injEq, Obj.cells.injEq] at h5
    exact ht h5.2.1.symm
theorem owns_type {w : World} {B : Nat} {e : TypeId} {s n : Nat} {v : Value} {xs : List Value} (h : w.ownsRow B e s v n xs) : ∀ r, v.ownBlock = some r → ∃ cu : Array Value, w.heap[r]? = some (.cells cu e (0, 0)) := fun r hr => by
  rcases h.2 with ⟨rfl, _⟩ | ⟨g, cap, cur, rfl, h2, h3, h4⟩
  · simp [Value.ownBlock] at hr
  · simp only [Value.ownBlock, Option.some.injEq] at hr
    exact ⟨cur, hr ▸ h3⟩
def csAt (cs : List Dc) (x : Nat × Dg) : Dc := (cs[x.1]?).getD ⟨0, 0, false, 0, []⟩
abbrev QD (N : Nt) (x : Nat × Dg) : Prop := x.1 < N.l.length ∧ N.l[x.1]? = some x.2
def WtI (n0 : Nat) (cs : List Dc) (N : Nt) (pre : List { x : Nat × Dg // QD N x }) (W : World) : Prop :=
  ∃ ua uc l1, Boxed W n0 34 (.slice ua l1.length uc) ∧ W.ownsRow n0 46 5 (.slice ua l1.length uc) l1.length (flatD l1) ∧ l1.length = pre.length ∧ OwnL W n0 l1 (pre.map fun x => csAt cs x.1)
theorem wtI_own (n0 : Nat) (cs : List Dc) (N : Nt) : Own (WtI n0 cs N) := by
  rintro s A B row ⟨ua, uc, l1, h1, h2, h3, h4⟩ hg hr
  exact ⟨ua, uc, l1, cells_kept hg hr h1, owns_cells hg hr h2, h3, ownL_cells hg hr h4⟩
theorem enum_mem {l : List Dg} {x : Nat × Dg} (h : x ∈ enum l) : x.1 < l.length ∧ l[x.1]? = some x.2 := by
  obtain ⟨k, hk, rfl⟩ := List.getElem_of_mem h
  rw [enum_get l k hk]
  have : k < l.length := by rw [enum_length] at hk; exact hk
  exact ⟨this, List.getElem?_eq_getElem this⟩
theorem enum_cs (l : List Dg) (cs : List Dc) (h : l.length = cs.length) : (enum l).map (csAt cs) = cs := by
  refine List.ext_getElem (by simp [enum_length, h]) fun i h1 h2 => ?_
  have h3 : i < (enum l).length := by simpa using h1
  rw [List.getElem_map, enum_get l i h3]
  simp [csAt, h2]
/-- A row of the caller's own that says what waits. -/
def WaitPost (cs : List Dc) (w : World) (u : Value) (w' : World) : Prop := ∃ l', w'.ownsRow w.heap.size 46 5 u l'.length (flatD l') ∧ OwnL w' w.heap.size l' cs ∧ Below w.heap.size w w'
set_option maxRecDepth 100000 in
set_option maxHeartbeats 4000000 in
theorem n15 (nb B : Nat) (v : Value) (N : Nt) (cs : List Dc) (w : World) (h : NtC w nb B v N cs) (hl : N.l.length * 56 ≤ 140737488355328) (hcl : ∀ x ∈ cs, x.xs.length ≤ 140737488355328) :
    Calls Try.prog 15 #[.pointer (some ⟨nb, 0, none⟩)] w fun e w' => ∃ u, e = .returned u ∧ WaitPost cs w u w' := by
  refine (callsIn_wide (n := 6)).1 ?_
  have HH : Hid (NtC w nb B v N cs) := h
  have HC : Hid (∀ x ∈ cs, x.xs.length ≤ 140737488355328) := hcl
  obtain ⟨i0, hi, hz, hsz, hby⟩ := info46
  obtain ⟨a, c, hv⟩ := owns_slice h.at_.own
  subst hv
  have hL0 : Below w.heap.size w (w.alloc (.cells #[.slice none 0 0] 34)) := (Below.refl _ w).alloc (Nat.le_refl _) _
  have H40 := n40 nb a N.l.length c (w.alloc (.cells #[.slice none 0 0] 34)) (h.at_.below hL0).cells.1
  have hrow : N.l.length = 0 ∨ ∃ g, a = some ⟨g, 0, none⟩ ∧ g < w.heap.size ∧ w.rangeAt g 0 (flatD N.l) := by
    rcases Nat.eq_zero_or_pos N.l.length with e | e
    · exact .inl e
    · obtain ⟨m, hm⟩ : ∃ m, N.l.length = m + 1 := ⟨N.l.length - 1, by omega⟩
      have ho := h.at_.own
      have ho2 := ho
      rw [hm] at ho2
      obtain ⟨g, cap, e2⟩ := owns_some ho2
      simp only [Value.slice.injEq] at e2
      obtain ⟨rfl, _, rfl⟩ := e2
      exact .inr ⟨g, rfl, (owns_lt ho rfl).2, owns_range ho⟩
  clear h hcl
  refine callsIn_of_wp_marks Try.func15 rfl trivial ?_ rfl
  simp only [Try.ntmps15, List.size_toArray, List.length_cons, List.length_nil, Nat.reduceAdd, Nat.reduceSub, Array.replicate_succ, Array.replicate_zero, List.push_toArray, List.append_toArray, List.nil_append, List.cons_append]
  gi_wp2_with (refine ⟨trivial, ?_⟩; gi_at_call 40; refine (callsIn_wide.2 H40).mono ?_; rintro e w' ⟨rfl, rfl⟩)
  have bL := (Boxed.new w 34 (.slice none 0 0)).alloc (.cells #[.slice a N.l.length c] 34)
  have bS := Boxed.new (w.alloc (.cells #[.slice none 0 0] 34)) 34 (.slice a N.l.length c)
  simp only [World.size_alloc] at bS
  have hB0 : Below w.heap.size w ((w.alloc (.cells #[.slice none 0 0] 34)).alloc (.cells #[.slice a N.l.length c] 34)) := hL0.alloc (by simp) _
  have hs0 : ((w.alloc (.cells #[.slice none 0 0] 34)).alloc (.cells #[.slice a N.l.length c] 34)).heap.size = w.heap.size + 2 := by simp
  obtain ⟨W0, hW0⟩ : ∃ W0, ((w.alloc (.cells #[.slice none 0 0] 34)).alloc (.cells #[.slice a N.l.length c] 34)) = W0 := ⟨_, rfl⟩
  rw [hW0] at bL bS hB0 hs0 ⊢
  clear hW0 H40 hL0
  obtain ⟨n0, hn0⟩ : ∃ n0, w.heap.size = n0 := ⟨_, rfl⟩
  have HST := all_stopsQ (QD N) 5 (by decide) (w.heap.size + 1) N.l a c w W0 (by omega) hB0 bS.cell (by unfold maxLen; omega) hrow (fun x hx => enum_mem hx)
  rw [hn0] at bL bS hB0 hs0 HST ⊢
  refine wpIn_rangeFunc_ownH rfl (by decide) (gf := 65) (lb := #[.pointer (some ⟨n0 + 1, 0, none⟩)]) rfl trivial (enters_of Try.func65 (by kernel_rfl) rfl)
    HST belowK_t (belowK_b (by omega)) (Below.refl _ _) (fun _ => rfl)
    (fun pre W => WtI n0 cs N pre W ∧ Below n0 w W)
    (fun _ _ _ => False)
    (OwnFrom.and (Own.from (wtI_own n0 cs N) _) (ownFrom_below (by omega) (by omega)))
    (fun _ _ _ _ _ hs _ _ => hs)
    ⟨⟨none, 0, [], bL, World.ownsRow_nil _ _ _ _, rfl, by simp [OwnL]⟩, hB0⟩
    (fun x a' W => ∃ Bx, n0 < Bx ∧ W.heap[Bx]? = some (.cells #[.int .i64 x.1.2.fr, .int .i64 x.1.2.to, .bool x.1.2.ak, .int .i64 x.1.2.sq, .slice x.1.2.ba x.1.2.bn x.1.2.bc] 46 (0, 0)) ∧ a' = { tmps := #[.pointer (some ⟨nb, 0, none⟩), undef, .slice none 0 0, .pointer (some ⟨n0, 0, none⟩), undef, .pointer (some ⟨Bx, 0, none⟩), .pointer (some ⟨nb, 0, none⟩), .bool false, .pointer (some ⟨nb, 0, none⟩), .pointer (some ⟨nb, 0, none⟩), .pointer (some ⟨nb, 0, none⟩), .func (.func 65) #[] #[.pointer (some ⟨n0 + 1, 0, none⟩)], .int .i64 x.1.1, .agg #[.int .i64 x.1.2.fr, .int .i64 x.1.2.to, .bool x.1.2.ak, .int .i64 x.1.2.sq, .slice x.1.2.ba x.1.2.bn x.1.2.bc], undef, undef, undef, undef, undef, undef], defers := [] })
    (fun x a' _ X Y row hs hg hr => by obtain ⟨Bx, h1, h2, h3⟩ := hs; exact ⟨Bx, h1, cells_kept hg (fun r e => (hr r e).2) h2, h3⟩)
    ?assign ?body ?done ?stop
  case assign =>
    rintro lp pre x W K ⟨⟨ua, uc, l1, h1, h2, h3, h4⟩, hB1⟩ hK
    gi_wp2
    have hbw : Below W.heap.size W (W.alloc (.cells #[.int .i64 x.1.2.fr, .int .i64 x.1.2.to, .bool x.1.2.ak, .int .i64 x.1.2.sq, .slice x.1.2.ba x.1.2.bn x.1.2.bc] 46)) := (Below.refl _ W).alloc (Nat.le_refl _) _
    have hsz := hB1.size
    exact hK _ _ ((KeepsOthers.alloc _ _).from _) (hbw.mono (by omega)) ⟨⟨ua, uc, l1, h1.alloc _, h2.alloc _, h3, h4.below hbw⟩, hB1.alloc (by omega) _⟩ ⟨W.heap.size, by have := h1.lt; omega, heap_alloc_new W _, rfl⟩
  case body =>
    rintro lp pre ⟨⟨xi, fr, to, ak, sq, ba, bn, bc⟩, hxi, hxd⟩ a' W hlp ⟨r, hr⟩ ⟨⟨ua, uc, l1, bU, rU, hlU, oU⟩, hB1⟩ ⟨Bx, hBx, bX, rfl⟩ hlt
    simp only at hxi hxd
    have hnn : Below w.heap.size w W := by rw [hn0]; exact hB1
    have hcx : xi < cs.length := by rw [← HH.out.own.1]; exact hxi
    have hDx := HH.out.own.2 xi ⟨fr, to, ak, sq, ba, bn, bc⟩ cs[xi] hxd (List.getElem?_eq_getElem hcx)
    have hcs : csAt cs (xi, ⟨fr, to, ak, sq, ba, bn, bc⟩) = cs[xi] := by simp [csAt, hcx]
    have HCS : Hid (csAt cs (xi, ⟨fr, to, ak, sq, ba, bn, bc⟩) = cs[xi]) := hcs
    have HDI : Hid (DgIs ⟨fr, to, ak, sq, ba, bn, bc⟩ cs[xi]) := hDx.1
    have hlx : bn ≤ 140737488355328 := by
      have := HC.out cs[xi] (List.getElem_mem hcx)
      rw [← hDx.1.2.2.2.2] at this; exact this
    have H41 : Calls Try.prog 41 #[.agg #[.int .i64 fr, .int .i64 to, .bool ak, .int .i64 sq, .slice ba bn bc]] W.drew fun e w' => ∃ a c, e = .returned (.agg #[.int .i64 fr, .int .i64 to, .bool ak, .int .i64 sq, .slice a bn c]) ∧ OwnB w' W.drew.heap.size a bn c cs[xi].xs ∧ (ba = none → a = none ∧ c = 0) ∧ Below W.drew.heap.size W.drew w' := n41 ⟨fr, to, ak, sq, ba, bn, bc⟩ cs[xi].xs W.drew ((hDx.2.at.below hnn).below (Below.drew (Below.refl _ _))) hlx
    have hszn : n0 ≤ W.heap.size := by have := hB1.size; omega
    have hszW : Hid (n0 ≤ W.drew.heap.size) := hszn
    have x0 : W.cell? ⟨Bx, 0, none⟩ = some (.int .i64 fr) := by rw [cell_of_row W Bx 0 _ 46 (0, 0) bX]; rfl
    have x1 : W.cell? ⟨Bx, 1, none⟩ = some (.int .i64 to) := by rw [cell_of_row W Bx 1 _ 46 (0, 0) bX]; rfl
    have x2 : W.cell? ⟨Bx, 2, none⟩ = some (.bool ak) := by rw [cell_of_row W Bx 2 _ 46 (0, 0) bX]; rfl
    have x3 : W.cell? ⟨Bx, 3, none⟩ = some (.int .i64 sq) := by rw [cell_of_row W Bx 3 _ 46 (0, 0) bX]; rfl
    have x4 : W.cell? ⟨Bx, 4, none⟩ = some (.slice ba bn bc) := by rw [cell_of_row W Bx 4 _ 46 (0, 0) bX]; rfl
    have eU := bU.cell
    have HB3 : Hid (∀ w3, Below W.drew.heap.size W.drew w3 → Boxed w3 n0 34 (.slice ua l1.length uc) ∧ w3.cell? ⟨n0, 0, none⟩ = some (.slice ua l1.length uc) ∧ (∀ ob : Obj, (w3.alloc ob).cell? ⟨n0, 0, none⟩ = some (.slice ua l1.length uc)) ∧ True) := fun w3 hb => by
      have b3 : Boxed w3 n0 34 (.slice ua l1.length uc) := (hb.block n0 bU.lt).trans bU
      exact ⟨b3, b3.cell, fun ob => (b3.alloc ob).cell, trivial⟩
    have HR3 : Hid (∀ w3, Below W.drew.heap.size W.drew w3 → w3.ownsRow n0 46 5 (.slice ua l1.length uc) l1.length (flatD l1)) := fun w3 hb => owns_below (w := W.drew) rU hb
    have hl1 : (l1.length + 1) * 56 ≤ 140737488355328 := by rw [hlU]; omega
    have HEND : Hid (∀ (w3 : World) (a3 : Option Addr) (c3 g' cap' : Nat) (w5 : World), Below W.drew.heap.size W.drew w3 → OwnB w3 W.drew.heap.size a3 bn c3 cs[xi].xs →
        w5.ownsRow n0 46 5 (.slice (some ⟨g', 0, none⟩) (l1.length + 1) cap') (l1.length + 1) (flatD l1 ++ [.int .i64 fr, .int .i64 to, .bool ak, .int .i64 sq, .slice a3 bn c3]) →
        (w3.alloc (.cells #[.int .i64 fr, .int .i64 to, .bool ak, .int .i64 sq, .slice a3 bn c3] 46)).grownBy w5 (Value.slice ua l1.length uc).ownBlock →
        KeepsFrom W0.heap.size W (w5.setCell ⟨n0, 0, none⟩ (.slice (some ⟨g', 0, none⟩) (l1.length + 1) cap')) ∧ Below n0 W (w5.setCell ⟨n0, 0, none⟩ (.slice (some ⟨g', 0, none⟩) (l1.length + 1) cap')) ∧
        WtI n0 cs N (pre ++ [⟨(xi, ⟨fr, to, ak, sq, ba, bn, bc⟩), hxi, hxd⟩]) (w5.setCell ⟨n0, 0, none⟩ (.slice (some ⟨g', 0, none⟩) (l1.length + 1) cap')) ∧ Below n0 w (w5.setCell ⟨n0, 0, none⟩ (.slice (some ⟨g', 0, none⟩) (l1.length + 1) cap'))) := fun w3 a3 c3 g' cap' w5 hb3 ho3 hown5 hgrow5 => by
      have hbW : Below W.heap.size W w3 := ((Below.refl _ W).drew).trans hb3
      have b3 : Boxed w3 n0 34 (.slice ua l1.length uc) := (hb3.block n0 bU.lt).trans bU
      have r3 := HR3.out w3 hb3
      have hs3 : n0 ≤ w3.heap.size := Nat.le_trans hszn hbW.size
      obtain ⟨hv1, hv2, hr2, hk2, hb2⟩ := b3.appended (by decide) r3 hs3 (Nat.le_refl _) hown5 hgrow5
      have hbn : Below n0 W (w5.setCell ⟨n0, 0, none⟩ (.slice (some ⟨g', 0, none⟩) (l1.length + 1) cap')) := (hbW.mono hszn).trans hb2
      refine ⟨((keeps_below hbW).trans hk2).from _, hbn, ⟨some ⟨g', 0, none⟩, cap', l1 ++ [⟨fr, to, ak, sq, a3, bn, c3⟩], ?_, ?_, by simp [hlU], ?_⟩, hB1.trans hbn⟩
      · rw [List.length_append]; exact hv2
      · rw [List.length_append, flatD_append]; exact hr2
      · rw [List.map_append]
        have hty : ∀ r, (Value.slice ua l1.length uc).ownBlock = some r → ∃ (cu : Array Value) (t : TypeId), t ≠ 5 ∧ (w3.alloc (.cells #[.int .i64 fr, .int .i64 to, .bool ak, .int .i64 sq, .slice a3 bn c3] 46)).heap[r]? = some (.cells cu t (0, 0)) := fun r hr => by
          obtain ⟨cu, hcu⟩ := owns_type (r3.alloc (.cells #[.int .i64 fr, .int .i64 to, .bool ak, .int .i64 sq, .slice a3 bn c3] 46)) r hr
          exact ⟨cu, 46, by decide, hcu⟩
        have hset : ∀ {ba' : Option Addr} {bn' bc' : Nat} {ys : List Int}, OwnB w5 n0 ba' bn' bc' ys → OwnB (w5.setCell ⟨n0, 0, none⟩ (.slice (some ⟨g', 0, none⟩) (l1.length + 1) cap')) n0 ba' bn' bc' ys := fun ho => by
          refine owns_setO ho _ (fun e => ?_)
          obtain ⟨cu, hcu⟩ := owns_type ho _ e
          have h6 : w5.heap[n0]? = some (.cells #[.slice ua l1.length uc] 34 (0, 0)) := hv1
          rw [h6] at hcu; cases hcu
        refine OwnL.snoc ⟨by simpa using oU.1, fun i d x h1 h2 => ⟨(oU.2 i d x h1 h2).1, ?_⟩⟩ ⟨?_, ?_⟩
        · have o1 := owns_below (oU.2 i d x h1 h2).2 hbW
          exact hset (ownB_row (World.ownsRow.alloc o1 _) hgrow5 hty)
        · show DgIs _ (csAt cs (xi, ⟨fr, to, ak, sq, ba, bn, bc⟩))
          rw [HCS.out]; exact HDI.out
        · show OwnB _ n0 a3 bn c3 (csAt cs (xi, ⟨fr, to, ak, sq, ba, bn, bc⟩)).xs
          rw [HCS.out]
          exact hset (ownB_row (World.ownsRow.alloc (owns_base ho3 hszn) _) hgrow5 hty)
    have mixed : Try.prog.follows Departure.mixedOrders = true := by kernel_rfl
    clear hDx hcs hnn bX bU rU oU hr hlt hlU
    gi_wp2
    refine wpIn_region_any mixed ?_
    change wpAnyIn _ _ _ _ _ _ _ _ _ (World.drew _)
    refine wpAnyIn_ready (rs := [0, 1]) (by kernel_rfl) (by simp) ?_
    refine AllReadyIn.cons rfl (fun K hK => ?_) ?_
    · go_simp
      refine hK _ _ ?_
      clear hK K
      try simp only [Act.put, List.setIfInBounds_toArray, List.set_cons_zero, List.set_cons_succ]
      refine wpAnyIn_ready (rs := [1]) (by kernel_rfl) (by simp) ?_
      refine AllReadyIn.cons rfl (fun K hK => ?_) AllReadyIn.nil
      go_simp
      refine hK _ _ ?_
      clear hK K
      try simp only [Act.put, List.setIfInBounds_toArray, List.set_cons_zero, List.set_cons_succ]
      refine wpAnyIn_ready (rs := [2]) (by kernel_rfl) (by simp) ?_
      refine AllReadyIn.cons rfl (fun K hK => ?_) AllReadyIn.nil
      go_simp
      refine ⟨trivial, ?_⟩
      gi_at_call 41
      refine (CallsIn.inRound lp (callsIn_wide.2 H41)).mono ?_
      rintro e w3 ⟨a3, c3, rfl, ho3, _, hb3⟩
      obtain ⟨b3, e3a, e3b, f3⟩ := HB3.out w3 hb3
      simp only
      refine hK _ _ ?_
      clear hK K
      try simp only [Act.put, List.setIfInBounds_toArray, List.set_cons_zero, List.set_cons_succ]
      refine wpAnyIn_ready (rs := [3]) (by kernel_rfl) (by simp) ?_
      refine AllReadyIn.cons rfl (fun K hK => ?_) AllReadyIn.nil
      go_simp
      refine hK _ _ ?_
      clear hK K
      try simp only [Act.put, List.setIfInBounds_toArray, List.set_cons_zero, List.set_cons_succ]
      refine wpAnyIn_ready (rs := [4]) (by kernel_rfl) (by simp) ?_
      refine AllReadyIn.cons rfl (fun K hK => ?_) AllReadyIn.nil
      refine stepIn_append _ (by rfl) _ _ 34 (by rfl) n0 46 i0 _ 5 56 Try.underlying34 hi hz hsz hby rfl (by decide) (.slice ua l1.length uc) l1.length (flatD l1) (by rfl) ((HR3.out w3 hb3).alloc _) ⟨w3.heap.size, 0, none⟩ 1 1 [.int .i64 fr, .int .i64 to, .bool ak, .int .i64 sq, .slice a3 bn c3] (by rfl) (by rfl) (World.news_of_block (cs := #[.int .i64 fr, .int .i64 to, .bool ak, .int .i64 sq, .slice a3 bn c3]) (t := 46) (fr := (0, 0)) (heap_alloc_new w3 _)) (by simp [Value.oneCell']) (by unfold maxLen; omega) (by omega) (by simp; have := hb3.size; have := hszW.out; omega) ?_
      intro v' w5 hown5 hgrow5 _ hat5
      obtain ⟨g', cap', rfl⟩ := ownsRow_succ hown5
      obtain ⟨hv1, hv2, hr2, hk2, hb2⟩ := b3.appended (by decide) (HR3.out w3 hb3) (by have := hb3.size; have := hszW.out; omega) (by omega) hown5 hgrow5
      have hc1 := hv1.cell
      have hf1 := hv1.frozen
      refine hK _ _ ?_
      clear hK K
      try simp only [Act.put, List.setIfInBounds_toArray]
      refine wpAnyIn_ready (rs := [5]) (by kernel_rfl) (by simp) ?_
      refine AllReadyIn.cons rfl (fun K hK => ?_) AllReadyIn.nil
      go_simp
      refine hK _ _ ?_
      clear hK K
      try simp only [Act.put, List.setIfInBounds_toArray, List.set_cons_zero, List.set_cons_succ]
      refine wpAnyIn_done (by kernel_rfl) ?_ _
      gi_wp2
      exact HEND.out w3 a3 c3 g' cap' w5 hb3 ho3 hown5 hgrow5
    refine AllReadyIn.cons rfl (fun K hK => ?_) AllReadyIn.nil
    go_simp
    refine hK _ _ ?_
    clear hK K
    try simp only [Act.put, List.setIfInBounds_toArray, List.set_cons_zero, List.set_cons_succ]
    refine wpAnyIn_ready (rs := [0, 2]) (by kernel_rfl) (by simp) ?_
    refine AllReadyIn.cons rfl (fun K hK => ?_) ?_
    · go_simp
      refine hK _ _ ?_
      clear hK K
      try simp only [Act.put, List.setIfInBounds_toArray, List.set_cons_zero, List.set_cons_succ]
      refine wpAnyIn_ready (rs := [2]) (by kernel_rfl) (by simp) ?_
      refine AllReadyIn.cons rfl (fun K hK => ?_) AllReadyIn.nil
      go_simp
      refine ⟨trivial, ?_⟩
      gi_at_call 41
      refine (CallsIn.inRound lp (callsIn_wide.2 H41)).mono ?_
      rintro e w3 ⟨a3, c3, rfl, ho3, _, hb3⟩
      obtain ⟨b3, e3a, e3b, f3⟩ := HB3.out w3 hb3
      simp only
      refine hK _ _ ?_
      clear hK K
      try simp only [Act.put, List.setIfInBounds_toArray, List.set_cons_zero, List.set_cons_succ]
      refine wpAnyIn_ready (rs := [3]) (by kernel_rfl) (by simp) ?_
      refine AllReadyIn.cons rfl (fun K hK => ?_) AllReadyIn.nil
      go_simp
      refine hK _ _ ?_
      clear hK K
      try simp only [Act.put, List.setIfInBounds_toArray, List.set_cons_zero, List.set_cons_succ]
      refine wpAnyIn_ready (rs := [4]) (by kernel_rfl) (by simp) ?_
      refine AllReadyIn.cons rfl (fun K hK => ?_) AllReadyIn.nil
      refine stepIn_append _ (by rfl) _ _ 34 (by rfl) n0 46 i0 _ 5 56 Try.underlying34 hi hz hsz hby rfl (by decide) (.slice ua l1.length uc) l1.length (flatD l1) (by rfl) ((HR3.out w3 hb3).alloc _) ⟨w3.heap.size, 0, none⟩ 1 1 [.int .i64 fr, .int .i64 to, .bool ak, .int .i64 sq, .slice a3 bn c3] (by rfl) (by rfl) (World.news_of_block (cs := #[.int .i64 fr, .int .i64 to, .bool ak, .int .i64 sq, .slice a3 bn c3]) (t := 46) (fr := (0, 0)) (heap_alloc_new w3 _)) (by simp [Value.oneCell']) (by unfold maxLen; omega) (by omega) (by simp; have := hb3.size; have := hszW.out; omega) ?_
      intro v' w5 hown5 hgrow5 _ hat5
      obtain ⟨g', cap', rfl⟩ := ownsRow_succ hown5
      obtain ⟨hv1, hv2, hr2, hk2, hb2⟩ := b3.appended (by decide) (HR3.out w3 hb3) (by have := hb3.size; have := hszW.out; omega) (by omega) hown5 hgrow5
      have hc1 := hv1.cell
      have hf1 := hv1.frozen
      refine hK _ _ ?_
      clear hK K
      try simp only [Act.put, List.setIfInBounds_toArray]
      refine wpAnyIn_ready (rs := [5]) (by kernel_rfl) (by simp) ?_
      refine AllReadyIn.cons rfl (fun K hK => ?_) AllReadyIn.nil
      go_simp
      refine hK _ _ ?_
      clear hK K
      try simp only [Act.put, List.setIfInBounds_toArray, List.set_cons_zero, List.set_cons_succ]
      refine wpAnyIn_done (by kernel_rfl) ?_ _
      gi_wp2
      exact HEND.out w3 a3 c3 g' cap' w5 hb3 ho3 hown5 hgrow5
    refine AllReadyIn.cons rfl (fun K hK => ?_) AllReadyIn.nil
    go_simp
    refine ⟨trivial, ?_⟩
    gi_at_call 41
    refine (CallsIn.inRound lp (callsIn_wide.2 H41)).mono ?_
    rintro e w3 ⟨a3, c3, rfl, ho3, _, hb3⟩
    obtain ⟨b3, e3a, e3b, f3⟩ := HB3.out w3 hb3
    simp only
    refine hK _ _ ?_
    clear hK K
    try simp only [Act.put, List.setIfInBounds_toArray, List.set_cons_zero, List.set_cons_succ]
    refine wpAnyIn_ready (rs := [0, 3]) (by kernel_rfl) (by simp) ?_
    refine AllReadyIn.cons rfl (fun K hK => ?_) ?_
    · go_simp
      refine hK _ _ ?_
      clear hK K
      try simp only [Act.put, List.setIfInBounds_toArray, List.set_cons_zero, List.set_cons_succ]
      refine wpAnyIn_ready (rs := [3]) (by kernel_rfl) (by simp) ?_
      refine AllReadyIn.cons rfl (fun K hK => ?_) AllReadyIn.nil
      go_simp
      refine hK _ _ ?_
      clear hK K
      try simp only [Act.put, List.setIfInBounds_toArray, List.set_cons_zero, List.set_cons_succ]
      refine wpAnyIn_ready (rs := [4]) (by kernel_rfl) (by simp) ?_
      refine AllReadyIn.cons rfl (fun K hK => ?_) AllReadyIn.nil
      refine stepIn_append _ (by rfl) _ _ 34 (by rfl) n0 46 i0 _ 5 56 Try.underlying34 hi hz hsz hby rfl (by decide) (.slice ua l1.length uc) l1.length (flatD l1) (by rfl) ((HR3.out w3 hb3).alloc _) ⟨w3.heap.size, 0, none⟩ 1 1 [.int .i64 fr, .int .i64 to, .bool ak, .int .i64 sq, .slice a3 bn c3] (by rfl) (by rfl) (World.news_of_block (cs := #[.int .i64 fr, .int .i64 to, .bool ak, .int .i64 sq, .slice a3 bn c3]) (t := 46) (fr := (0, 0)) (heap_alloc_new w3 _)) (by simp [Value.oneCell']) (by unfold maxLen; omega) (by omega) (by simp; have := hb3.size; have := hszW.out; omega) ?_
      intro v' w5 hown5 hgrow5 _ hat5
      obtain ⟨g', cap', rfl⟩ := ownsRow_succ hown5
      obtain ⟨hv1, hv2, hr2, hk2, hb2⟩ := b3.appended (by decide) (HR3.out w3 hb3) (by have := hb3.size; have := hszW.out; omega) (by omega) hown5 hgrow5
      have hc1 := hv1.cell
      have hf1 := hv1.frozen
      refine hK _ _ ?_
      clear hK K
      try simp only [Act.put, List.setIfInBounds_toArray]
      refine wpAnyIn_ready (rs := [5]) (by kernel_rfl) (by simp) ?_
      refine AllReadyIn.cons rfl (fun K hK => ?_) AllReadyIn.nil
      go_simp
      refine hK _ _ ?_
      clear hK K
      try simp only [Act.put, List.setIfInBounds_toArray, List.set_cons_zero, List.set_cons_succ]
      refine wpAnyIn_done (by kernel_rfl) ?_ _
      gi_wp2
      exact HEND.out w3 a3 c3 g' cap' w5 hb3 ho3 hown5 hgrow5
    refine AllReadyIn.cons rfl (fun K hK => ?_) AllReadyIn.nil
    go_simp
    refine hK _ _ ?_
    clear hK K
    try simp only [Act.put, List.setIfInBounds_toArray, List.set_cons_zero, List.set_cons_succ]
    refine wpAnyIn_ready (rs := [0]) (by kernel_rfl) (by simp) ?_
    refine AllReadyIn.cons rfl (fun K hK => ?_) AllReadyIn.nil
    go_simp
    refine hK _ _ ?_
    clear hK K
    try simp only [Act.put, List.setIfInBounds_toArray, List.set_cons_zero, List.set_cons_succ]
    refine wpAnyIn_ready (rs := [4]) (by kernel_rfl) (by simp) ?_
    refine AllReadyIn.cons rfl (fun K hK => ?_) AllReadyIn.nil
    refine stepIn_append _ (by rfl) _ _ 34 (by rfl) n0 46 i0 _ 5 56 Try.underlying34 hi hz hsz hby rfl (by decide) (.slice ua l1.length uc) l1.length (flatD l1) (by rfl) ((HR3.out w3 hb3).alloc _) ⟨w3.heap.size, 0, none⟩ 1 1 [.int .i64 fr, .int .i64 to, .bool ak, .int .i64 sq, .slice a3 bn c3] (by rfl) (by rfl) (World.news_of_block (cs := #[.int .i64 fr, .int .i64 to, .bool ak, .int .i64 sq, .slice a3 bn c3]) (t := 46) (fr := (0, 0)) (heap_alloc_new w3 _)) (by simp [Value.oneCell']) (by unfold maxLen; omega) (by omega) (by simp; have := hb3.size; have := hszW.out; omega) ?_
    intro v' w5 hown5 hgrow5 _ hat5
    obtain ⟨g', cap', rfl⟩ := ownsRow_succ hown5
    obtain ⟨hv1, hv2, hr2, hk2, hb2⟩ := b3.appended (by decide) (HR3.out w3 hb3) (by have := hb3.size; have := hszW.out; omega) (by omega) hown5 hgrow5
    have hc1 := hv1.cell
    have hf1 := hv1.frozen
    refine hK _ _ ?_
    clear hK K
    try simp only [Act.put, List.setIfInBounds_toArray]
    refine wpAnyIn_ready (rs := [5]) (by kernel_rfl) (by simp) ?_
    refine AllReadyIn.cons rfl (fun K hK => ?_) AllReadyIn.nil
    go_simp
    refine hK _ _ ?_
    clear hK K
    try simp only [Act.put, List.setIfInBounds_toArray, List.set_cons_zero, List.set_cons_succ]
    refine wpAnyIn_done (by kernel_rfl) ?_ _
    gi_wp2
    exact HEND.out w3 a3 c3 g' cap' w5 hb3 ho3 hown5 hgrow5
  case done =>
    rintro D zs W hD hzs ⟨⟨ua, uc, l1, b1, r1, hl1, o1⟩, hB1⟩ hK
    have e1 := b1.cell
    have hg := grownBy_putObj' W D (.deferred none)
    have hr : ∀ r, some D = some r → ∃ o : Obj, W.heap[r]? = some o ∧ o.isCells = false := fun r e => by cases e; exact ⟨_, hK, rfl⟩
    have HO : Hid (OwnL (W.putObj D (.deferred none)) n0 l1 cs) := by
      have h2 := ownL_cells hg hr o1
      have h3 : (zs.map fun x => csAt cs x.1) = cs := by
        have h4 := enum_cs N.l cs HH.out.own.1
        rw [← hzs, List.map_map] at h4
        exact h4
      show OwnL _ n0 l1 cs
      rw [h3] at h2
      exact h2
    have HR : Hid ((W.putObj D (.deferred none)).ownsRow n0 46 5 (.slice ua l1.length uc) l1.length (flatD l1)) := owns_cells hg hr r1
    have HBW : Hid (Below n0 w (W.putObj D (.deferred none))) := hB1.trans (belowK_b (w := W0) (by omega) W D _ _ hD hK rfl rfl)
    clear o1 r1 hg hr hl1 hzs
    gi_wp2
    refine ⟨by simp, .inl ⟨_, _, rfl, run_takeDeferred hK, ?_⟩⟩
    refine ⟨.slice ua l1.length uc, ?_, _, rfl, l1, ?_, ?_, ?_⟩
    · simp [results, Try.f15, go_sem]
    · rw [hn0]; exact HR.out
    · rw [hn0]; exact HO.out
    · rw [hn0]; exact HBW.out
  case stop =>
    rintro D c pre W hD hpre hF
    exact hF.elim
end Go.Proofs.Ythpbfaddojcohaa
