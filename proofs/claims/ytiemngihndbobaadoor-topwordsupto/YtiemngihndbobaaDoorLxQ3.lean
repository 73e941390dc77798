/- walk, and the contract of All. -/
import Derived.Test.YtiemngihndbobaaDoorLxQ2
import Derived.Maps.OwnIn
namespace Go.Proofs.YtiemngihndbobaaDoor.Lx
open Go.RowKit Go.Shelf
attribute [local go_sem] Oper.semAt_some
theorem walk_stops (n : Nat) (hn : 1 ≤ n) (Bs n0 B3 : Nat) (s : ByteArray) (hs : s.size ≤ maxLen) (hne : Bs ≠ B3) (hn1 : 3 ≤ n0) (w : World) (hI : Inv n0 B3 Bs s w) :
    SeqStopsK Fence.wide n Tryd.prog 25 #[.pointer (some ⟨Bs, 0, none⟩)] (fun x : Fd => #[Value.agg #[.int .u8 x.1.k, .string x.1.t, .int .i64 x.1.n, .int .i64 x.1.node, .int .i64 x.1.at_, .int .i64 x.2.1, .int .i64 x.2.2]]) (Keep n0 B3) (fun ys => ys = walkL s) (fun pre => pre <+: walkL s) (walkL s).length w := by
  intro l J Jx W hW hJ hJx hY h0
  exact walk_in n hn l Bs n0 B3 W.heap.size J Jx hJ s hs hne hn1 (fun pre x W1 hJ1 hp => hY pre x W1 hJ1 (by have := hp.length_le; simp at this; omega)) W (hI.keep (keep_of_below hW hI.b3 hI.n0) hne hn1) h0
set_option maxHeartbeats 1000000 in
theorem walk29 (n : Nat) (s : ByteArray) (w : World) :
    CallsIn Fence.wide n Tryd.prog 16 #[.string s] w fun e w' => e = .returned (.func (.func 25) #[] #[.pointer (some ⟨w.heap.size, 0, none⟩)]) ∧ w' = w.alloc (.cells #[.string s] 9) := by
  refine callsIn_of_wp Tryd.func16 rfl trivial ?_ rfl
  simp only [Tryd.ntmps16, List.size_toArray, List.length_cons, List.length_nil, Nat.reduceAdd, Nat.reduceSub, Array.replicate_succ, Array.replicate_zero, List.push_toArray, List.append_toArray, List.nil_append, List.cons_append]
  gi_wp2
  go_ret
  exact ⟨rfl, rfl⟩
def T.vals (x : T) : List Value := [.int .u8 x.k, .string x.t, .int .i64 x.n, .int .i64 x.node, .int .i64 x.at_]
def flatT (l : List T) : List Value := l.flatMap T.vals
theorem flatT_append (a b : List T) : flatT (a ++ b) = flatT a ++ flatT b := by simp [flatT]
theorem flatT_one (l : List T) : ∀ u ∈ flatT l, u.oneCell' = true := by
  intro u hu
  simp only [flatT, List.mem_flatMap] at hu
  obtain ⟨c, _, hc⟩ := hu
  simp only [T.vals, List.mem_cons, List.not_mem_nil, or_false] at hc
  rcases hc with rfl | rfl | rfl | rfl | rfl <;> rfl
def zero24 : Value := .agg #[.int .u8 0, .string ⟨#[]⟩, .int .i64 0, .int .i64 0, .int .i64 0]
theorem info24 : ∃ i, Tryd.prog.info? 27 = some i ∧ i.zero = some zero24 ∧ i.size = 5 ∧ i.bytes = 48 := by
  have h : (Tryd.prog.info? 27).map (fun i => (i.zero, i.size, i.bytes)) = some (some zero24, 5, 48) := by kernel_rfl
  cases hq : Tryd.prog.info? 27 with
  | none => rw [hq] at h; cases h
  | some i =>
    rw [hq] at h
    simp only [Option.map_some, Option.some.injEq, Prod.mk.injEq] at h
    exact ⟨i, rfl, h.1, h.2.1, h.2.2⟩
theorem newsT (W : World) (x : T) : ∀ j u, (flatT [x])[j]? = some u → (W.alloc (.cells #[.int .u8 x.k, .string x.t, .int .i64 x.n, .int .i64 x.node, .int .i64 x.at_] 27)).cell? ((⟨W.heap.size, 0, none⟩ : Addr).add j) = some u := by
  intro j u hu
  rw [Addr.add_mid, cell_of_row _ _ _ _ _ _ (World.alloc_heap_new W (.cells #[.int .u8 x.k, .string x.t, .int .i64 x.n, .int .i64 x.node, .int .i64 x.at_] 27))]
  have h : (flatT [x]) = #[Value.int .u8 x.k, .string x.t, .int .i64 x.n, .int .i64 x.node, .int .i64 x.at_].toList := by simp [flatT, T.vals]
  rw [h] at hu
  simpa using hu
/-- What the walk yields lies in a block of its own. -/
def Fbox (W : World) (B : Nat) (x : Fd) : Prop := W.heap[B]? = some (.cells #[.int .u8 x.1.k, .string x.1.t, .int .i64 x.1.n, .int .i64 x.1.node, .int .i64 x.1.at_, .int .i64 x.2.1, .int .i64 x.2.2] 49 (0, 0))
theorem Fbox.lt {W : World} {B : Nat} {x : Fd} (h : Fbox W B x) : B < W.heap.size := (Array.getElem?_eq_some_iff.1 h).1
theorem Fbox.cells {W : World} {B : Nat} {x : Fd} (h : Fbox W B x) : W.cell? ⟨B, 0, none⟩ = some (.int .u8 x.1.k) ∧ W.cell? ⟨B, 1, none⟩ = some (.string x.1.t) ∧ W.cell? ⟨B, 2, none⟩ = some (.int .i64 x.1.n) ∧ W.cell? ⟨B, 3, none⟩ = some (.int .i64 x.1.node) ∧ W.cell? ⟨B, 4, none⟩ = some (.int .i64 x.1.at_) ∧ W.cell? ⟨B, 5, none⟩ = some (.int .i64 x.2.1) ∧ W.cell? ⟨B, 6, none⟩ = some (.int .i64 x.2.2) := by
  have h' : W.heap[B]? = _ := h
  refine ⟨?_, ?_, ?_, ?_, ?_, ?_, ?_⟩ <;> simp [World.cell?, h']
theorem Fbox.new (W : World) (x : Fd) : Fbox (W.alloc (.cells #[.int .u8 x.1.k, .string x.1.t, .int .i64 x.1.n, .int .i64 x.1.node, .int .i64 x.1.at_, .int .i64 x.2.1, .int .i64 x.2.2] 49)) W.heap.size x := World.alloc_heap_new W _
theorem Fbox.kept {W W' : World} {row : Option Nat} {B : Nat} {x : Fd} (h : Fbox W B x) (hg : W.grownBy W' row) (hr : ∀ r, row = some r → ∃ o : Obj, W.heap[r]? = some o ∧ o.isCells = false) : Fbox W' B x :=
  (hg.block B h.lt (fun e => by
    obtain ⟨o, h1, h2⟩ := hr B e.symm
    rw [show W.heap[B]? = _ from h] at h1
    cases h1
    cases h2)).trans h
def toks (l : List Fd) : List T := l.map (·.1)
def okB (x : Fd) : Bool := x.2.2 == 0
def allE (s : ByteArray) : Int × Int := match (walkL s).find? (fun x => !okB x) with
  | some x => (x.2.2, x.2.1)
  | none => (0, 0)
def allL (s : ByteArray) : List T := if (walkL s).all okB then toks (walkL s) else []
theorem walkF_len (s : ByteArray) : ∀ f k, (walkF s f k).length ≤ f
  | 0, _ => by simp [walkF]
  | f + 1, k => by
    simp only [walkF]
    split
    · simp
    · have := walkF_len s f (nextN s k).2.1.toNat; simp; omega
theorem keep_append {W w2 : World} {n0 B3 : Nat} {t e : TypeId} {size : Nat} {v v' : Value} {m : Nat} {ys : List Value} {tmp : Obj} (hv : Boxed W B3 t v) (hgrow : (W.alloc tmp).grownBy w2 v.ownBlock) (hat : v'.ownBlock = v.ownBlock ∨ v'.ownBlock = some (W.alloc tmp).heap.size) (hb : Below n0 W (w2.setCell ⟨B3, 0, none⟩ v')) (hv2 : Boxed (w2.setCell ⟨B3, 0, none⟩ v') B3 t v') (hr2 : (w2.setCell ⟨B3, 0, none⟩ v').ownsRow n0 e size v' m ys) : Keep n0 B3 W (w2.setCell ⟨B3, 0, none⟩ v') := by
  have e1 : rowOf W B3 = v.ownBlock := by unfold rowOf; rw [hv.cell]; rfl
  have e2 : rowOf (w2.setCell ⟨B3, 0, none⟩ v') B3 = v'.ownBlock := by unfold rowOf; rw [hv2.cell]; rfl
  refine ⟨hb, fun b o hbo _ h1 h2 => ?_, fun b hb => ?_, fun _ g hg => ?_⟩
  · have hlt := (Array.getElem?_eq_some_iff.1 hbo).1
    have h3 : w2.heap[b]? = some o := (hgrow.block b (by simp; omega) (fun e => h2 (e1.trans e.symm))).trans ((Below.heap_alloc W tmp b hlt).trans hbo)
    exact ((grownBy_setCell' w2 B3 v').block b (Array.getElem?_eq_some_iff.1 h3).1 (fun e => h1 (by cases e; rfl))).trans h3
  · rw [e2] at hb
    rcases hat with h | h
    · exact .inl (by rw [e1, ← h]; exact hb)
    · rw [h] at hb; simp at hb; right; omega
  · rw [e2] at hg
    exact (hr2.lt g hg).2
set_option maxRecDepth 100000 in
set_option maxHeartbeats 4000000 in
theorem c13 (s : ByteArray) (w : World) (hS : Signs w) (hs : s.size ≤ 1000000000) :
    Calls Tryd.prog 9 #[.string s] w fun e w' => ∃ v, e = .returned (.tuple #[v, .int .i64 (allE s).1, .int .i64 (allE s).2]) ∧ w'.ownsRow w.heap.size 27 5 v (allL s).length (flatT (allL s)) ∧ Below w.heap.size w w' := by
  refine (callsIn_wide (n := 6)).1 ?_
  have HS : Hid (Signs w) := hS
  have hw0 : 2 < w.heap.size := hS.1
  obtain ⟨i0, hi, hz, hsz5, hby⟩ := info24
  have hwl := walkF_len s (s.size + 1) 0
  have hwl : (walkL s).length ≤ s.size + 1 := hwl
  clear hS
  refine callsIn_of_wp_marks Tryd.func9 rfl trivial ?_ rfl
  simp only [Tryd.ntmps9, List.size_toArray, List.length_cons, List.length_nil, Nat.reduceAdd, Nat.reduceSub, Array.replicate_succ, Array.replicate_zero, List.push_toArray, List.append_toArray, List.nil_append, List.cons_append]
  gi_wp2_with (refine ⟨trivial, ?_⟩; gi_at_call 16; refine (walk29 _ s _).mono ?_; rintro e w' ⟨rfl, rfl⟩)
  have b0 := ((((Boxed.new w 23 (.slice none 0 0)).alloc (.cells #[.int .i64 0] 35)).alloc (.cells #[.int .i64 0] 3)).alloc (.cells #[.slice none 0 0] 23)).alloc (.cells #[.string s] 9)
  have b1 := (((Boxed.new (w.alloc (.cells #[.slice none 0 0] 23)) 35 (.int .i64 0)).alloc (.cells #[.int .i64 0] 3)).alloc (.cells #[.slice none 0 0] 23)).alloc (.cells #[.string s] 9)
  have b2 := ((Boxed.new ((w.alloc (.cells #[.slice none 0 0] 23)).alloc (.cells #[.int .i64 0] 35)) 3 (.int .i64 0)).alloc (.cells #[.slice none 0 0] 23)).alloc (.cells #[.string s] 9)
  have b3 := (Boxed.new (((w.alloc (.cells #[.slice none 0 0] 23)).alloc (.cells #[.int .i64 0] 35)).alloc (.cells #[.int .i64 0] 3)) 23 (.slice none 0 0)).alloc (.cells #[.string s] 9)
  have b4 := Boxed.new ((((w.alloc (.cells #[.slice none 0 0] 23)).alloc (.cells #[.int .i64 0] 35)).alloc (.cells #[.int .i64 0] 3)).alloc (.cells #[.slice none 0 0] 23)) 9 (.string s)
  simp only [World.size_alloc] at b1 b2 b3 b4
  have hB0 : Below w.heap.size w (((((w.alloc (.cells #[.slice none 0 0] 23)).alloc (.cells #[.int .i64 0] 35)).alloc (.cells #[.int .i64 0] 3)).alloc (.cells #[.slice none 0 0] 23)).alloc (.cells #[.string s] 9)) := (((((Below.refl _ w).alloc (Nat.le_refl _) _).alloc (by simp) _).alloc (by simp; omega) _).alloc (by simp; omega) _).alloc (by simp; omega) _
  have hsz : (((((w.alloc (.cells #[.slice none 0 0] 23)).alloc (.cells #[.int .i64 0] 35)).alloc (.cells #[.int .i64 0] 3)).alloc (.cells #[.slice none 0 0] 23)).alloc (.cells #[.string s] 9)).heap.size = w.heap.size + 5 := by simp
  obtain ⟨W0, hW0⟩ : ∃ W0, (((((w.alloc (.cells #[.slice none 0 0] 23)).alloc (.cells #[.int .i64 0] 35)).alloc (.cells #[.int .i64 0] 3)).alloc (.cells #[.slice none 0 0] 23)).alloc (.cells #[.string s] 9)) = W0 := ⟨_, rfl⟩
  rw [hW0] at b0 b1 b2 b3 b4 hB0 hsz ⊢
  clear hW0
  have hrow0 : rowOf W0 (w.heap.size + 1 + 1 + 1) = none := by unfold rowOf; rw [b3.cell]; rfl
  have hInv : Inv w.heap.size (w.heap.size + 1 + 1 + 1) (w.heap.size + 1 + 1 + 1 + 1) s W0 := ⟨b4, HS.out.below hB0, by omega, by omega, by rw [hrow0]; simp, by rw [hrow0]; simp⟩
  refine wpIn_rangeFunc_ownH rfl (by decide) (gf := 25) (lb := #[.pointer (some ⟨w.heap.size + 1 + 1 + 1 + 1, 0, none⟩)]) rfl trivial (enters_of Tryd.func25 (by kernel_rfl) rfl)
    (walk_stops 5 (by decide) (w.heap.size + 1 + 1 + 1 + 1) w.heap.size (w.heap.size + 1 + 1 + 1) s (by unfold maxLen; omega) (by omega) hw0 W0 hInv) (fun h k => h.trans k) (keep_b (by omega) (by omega)) (Below.refl _ _) (fun _ => rfl)
    (fun pre W => ((∃ v, Boxed W (w.heap.size + 1 + 1 + 1) 23 v ∧ W.ownsRow w.heap.size 27 5 v (toks pre).length (flatT (toks pre)) ∧ True) ∧ ((∀ y ∈ pre, okB y = true) ∧ Boxed W w.heap.size 23 (.slice none 0 0) ∧ Boxed W (w.heap.size + 1) 35 (.int .i64 0) ∧ Boxed W (w.heap.size + 1 + 1) 3 (.int .i64 0))) ∧ Below w.heap.size w W)
    (fun c pre W => (c = .ret ∧ ∃ (q : List Fd) (x : Fd), pre = q ++ [x] ∧ (∀ y ∈ q, okB y = true) ∧ okB x = false ∧ Boxed W w.heap.size 23 (.slice none 0 0) ∧ Boxed W (w.heap.size + 1) 35 (.int .i64 x.2.2) ∧ Boxed W (w.heap.size + 1 + 1) 3 (.int .i64 x.2.1)) ∧ Below w.heap.size w W)
    (OwnFrom.and (OwnFrom.and (Own.from (holdsRow_own w.heap.size (w.heap.size + 1 + 1 + 1) 23 27 5 (fun pre => (toks pre).length) (fun pre => flatT (toks pre)) (fun _ _ => True)) _) (Own.from (fun s A B row hs hg hr => ⟨hs.1, boxed_own w.heap.size 23 (fun (_ : Unit) => Value.slice none 0 0) () A B row hs.2.1 hg hr, boxed_own (w.heap.size + 1) 35 (fun (_ : Unit) => Value.int .i64 0) () A B row hs.2.2.1 hg hr, boxed_own (w.heap.size + 1 + 1) 3 (fun (_ : Unit) => Value.int .i64 0) () A B row hs.2.2.2 hg hr⟩) _)) (ownFrom_below (Nat.le_refl _) (by omega)))
    (fun c => OwnFrom.and (Own.from (fun s A B row hs hg hr => by
      obtain ⟨h1, q, x, h2, h3, h4, h5, h6, h7⟩ := hs
      exact ⟨h1, q, x, h2, h3, h4, boxed_own w.heap.size 23 (fun (_ : Unit) => Value.slice none 0 0) () A B row h5 hg hr, boxed_own (w.heap.size + 1) 35 (fun (_ : Unit) => Value.int .i64 x.2.2) () A B row h6 hg hr, boxed_own (w.heap.size + 1 + 1) 3 (fun (_ : Unit) => Value.int .i64 x.2.1) () A B row h7 hg hr⟩) _) (ownFrom_below (Nat.le_refl _) (by omega)))
    ⟨⟨⟨_, b3, World.ownsRow_nil _ _ _ _, trivial⟩, by simp, b0, b1, b2⟩, hB0⟩
    (fun x a' W => ∃ Bx, w.heap.size + 1 + 1 < Bx ∧ Fbox W Bx x ∧ a' = { tmps := #[.string s, undef, .pointer (some ⟨w.heap.size, 0, none⟩), .pointer (some ⟨w.heap.size + 1, 0, none⟩), .pointer (some ⟨w.heap.size + 1 + 1, 0, none⟩), .pointer (some ⟨w.heap.size + 1 + 1 + 1, 0, none⟩), .pointer (some ⟨Bx, 0, none⟩), .string s, .func (.func 25) #[] #[.pointer (some ⟨w.heap.size + 1 + 1 + 1 + 1, 0, none⟩)], .agg #[.int .u8 x.1.k, .string x.1.t, .int .i64 x.1.n, .int .i64 x.1.node, .int .i64 x.1.at_, .int .i64 x.2.1, .int .i64 x.2.2], undef, undef, undef, undef, undef, undef, undef, undef, undef, undef, undef, undef, undef], defers := [] })
    (fun x a' _ X Y row hs hg hr => by obtain ⟨Bx, h1, h2, h3⟩ := hs; exact ⟨Bx, h1, h2.kept hg (fun r e => (hr r e).2), h3⟩)
    ?assign ?body ?done ?stop
  case assign =>
    rintro lp pre x W K ⟨⟨⟨v1, c3, r3, _⟩, hok, c0, c1, c2⟩, hB1⟩ hK
    gi_wp2
    exact hK _ _ ((KeepsOthers.alloc _ _).from _) (keep_of_below ((Below.refl _ W).alloc (Nat.le_refl _) _) c3.lt hB1.size) ⟨⟨⟨v1, c3.alloc _, r3.alloc _, trivial⟩, hok, c0.alloc _, c1.alloc _, c2.alloc _⟩, hB1.alloc hB1.size _⟩ ⟨W.heap.size, by have := c2.lt; omega, Fbox.new W x, rfl⟩
  case body =>
    rintro lp pre x a' W hl ⟨r, hr⟩ ⟨⟨⟨v1, c3, r3, _⟩, hok, c0, c1, c2⟩, hB1⟩ ⟨Bx, hBx, bX, rfl⟩ hlt
    obtain ⟨d0, d1, d2, d3, d4, d5, d6⟩ := bX.cells
    have hlen : (toks pre).length ≤ pre.length := by simp [toks]
    have n0 : Bx ≠ w.heap.size := by omega
    have n1 : Bx ≠ w.heap.size + 1 := by omega
    have n2 : Bx ≠ w.heap.size + 1 + 1 := by omega
    have n0' : w.heap.size ≠ Bx := by omega
    have n1' : w.heap.size + 1 ≠ Bx := by omega
    have n2' : w.heap.size + 1 + 1 ≠ Bx := by omega
    clear hr
    cases hx : okB x
    · have hx' : (x.2.2 != 0) = true := by unfold okB at hx; simp at hx ⊢; exact hx
      have e0 := c0.cell
      have e1 := c1.cell
      have e2 := c2.cell
      have f0 := c0.frozen
      have f1 := c1.frozen
      have f2 := c2.frozen
      have mixed : Tryd.prog.follows Departure.mixedOrders = true := by kernel_rfl
      gi_wp2
      gi_region_with_o (fail)
      all_goals gi_wp2
      all_goals exact ⟨((((KeepsOthers.setCell _ _ _).trans (KeepsOthers.setCell _ _ _)).trans (KeepsOthers.setCell _ _ _)).trans (KeepsOthers.drew _)).from _, ⟨rfl, pre, x, rfl, hok, hx, ((c0.set (.slice none 0 0)).other (by omega) _).other (by omega) _, ((c1.other (by omega) _).set (.int .i64 x.2.2)).other (by omega) _, ((c2.other (by omega) _).other (by omega) _).set (.int .i64 x.2.1)⟩, (((hB1.setCell (p := ⟨w.heap.size, 0, none⟩) (Nat.le_refl _) _).setCell (p := ⟨w.heap.size + 1, 0, none⟩) (by simp) _).setCell (p := ⟨w.heap.size + 1 + 1, 0, none⟩) (by simp; omega) _).drew⟩
    · have hx' : (x.2.2 != 0) = false := by unfold okB at hx; simp at hx ⊢; exact hx
      have e3 := c3.cell
      have hszW := hB1.size
      gi_wp2_with (gi_at_builtin; refine wpListIn_append_own_at _ rfl _ _ 23 rfl w.heap.size 27 i0 zero24 5 48 Tryd.underlying23 hi hz hsz5 hby rfl (by decide) _ _ _ rfl (r3.alloc _) ⟨W.heap.size, 0, none⟩ 1 1 (flatT [x.1]) rfl rfl (newsT W x.1) (flatT_one _) (by unfold maxLen; omega) (by omega) (by simp; omega) ?_; intro v' w2 hown' hgrow _ hat; obtain ⟨g', cap', rfl⟩ := ownsRow_succ hown'; obtain ⟨hv1, hv2, hr2, hk2, hb2⟩ := c3.appended (by decide) r3 hszW (by omega) hown' hgrow; have hc1 := hv1.cell; have hf1 := hv1.frozen)
      refine ⟨hk2.from _, keep_append c3 hgrow hat hb2 hv2 hr2, ⟨⟨_, hv2, ?_, trivial⟩, ?_, ((c0.alloc _).kept hgrow (c0.not_row (by decide) r3)).other (by omega) _, ((c1.alloc _).kept hgrow (c1.not_row (by decide) r3)).other (by omega) _, ((c2.alloc _).kept hgrow (c2.not_row (by decide) r3)).other (by omega) _⟩, hB1.trans hb2⟩
      · have e : toks (pre ++ [x]) = toks pre ++ [x.1] := by simp [toks]
        rw [e, flatT_append, List.length_append]; exact hr2
      · intro y hy
        rcases List.mem_append.1 hy with hy | hy
        · exact hok y hy
        · simp at hy; subst hy; exact hx
  case done =>
    rintro D zs W hD hzs ⟨⟨⟨v1, c3, r3, _⟩, hok, c0, c1, c2⟩, hB1⟩ hK
    have hall : (walkL s).all okB = true := by rw [List.all_eq_true, ← hzs]; exact hok
    have hE : Hid (allE s = (0, 0)) := by
      show allE s = (0, 0)
      unfold allE
      rw [List.find?_eq_none.2 (fun x hx => by rw [List.all_eq_true.1 hall x hx]; simp)]
    have hL : Hid (allL s = toks zs) := by
      show allL s = toks zs
      unfold allL; rw [hall, if_pos rfl, hzs]
    have e3 := c3.cell
    have e0 := c0.cell
    have e1 := c1.cell
    have e2 := c2.cell
    have f0 := c0.frozen
    have f1 := c1.frozen
    have f2 := c2.frozen
    obtain ⟨ad, cp, hf⟩ : ∃ ad cp, v1 = .slice ad (toks zs).length cp := by
      rcases r3.2 with ⟨h1, h2⟩ | ⟨g, cap, cur, h1, _⟩
      · exact ⟨none, 0, by rw [h1, h2]⟩
      · exact ⟨_, _, h1⟩
    subst hf
    clear hall hzs
    gi_wp2
    have hK' := (((KeepsOthers.setCell W ⟨w.heap.size, 0, none⟩ (.slice ad (toks zs).length cp)).trans (KeepsOthers.setCell _ ⟨w.heap.size + 1, 0, none⟩ (.int .i64 0))).trans (KeepsOthers.setCell _ ⟨w.heap.size + 1 + 1, 0, none⟩ (.int .i64 0))).same D _ hK rfl
    refine ⟨by simp, .inl ⟨_, _, rfl, run_takeDeferred hK', ?_⟩⟩
    have g0 := cell_kept (((c0.set (.slice ad (toks zs).length cp)).other (B' := w.heap.size + 1) (by omega) (.int .i64 0)).other (B' := w.heap.size + 1 + 1) (by omega) (.int .i64 0)).cell (grownBy_putObj' _ D (.deferred none)) (fun r e => by cases e; exact ⟨_, hK', rfl⟩)
    have g1 := cell_kept (((c1.other (B' := w.heap.size) (by omega) (.slice ad (toks zs).length cp)).set (.int .i64 0)).other (B' := w.heap.size + 1 + 1) (by omega) (.int .i64 0)).cell (grownBy_putObj' _ D (.deferred none)) (fun r e => by cases e; exact ⟨_, hK', rfl⟩)
    have g2 := cell_kept (((c2.other (B' := w.heap.size) (by omega) (.slice ad (toks zs).length cp)).other (B' := w.heap.size + 1) (by omega) (.int .i64 0)).set (.int .i64 0)).cell (grownBy_putObj' _ D (.deferred none)) (fun r e => by cases e; exact ⟨_, hK', rfl⟩)
    have r4 := ((r3.kept (grownBy_setCell' W w.heap.size (.slice ad (toks zs).length cp)) (.inr (c0.not_row (by decide) r3).symm)).kept (grownBy_setCell' _ (w.heap.size + 1) (.int .i64 0)) (.inr (c1.not_row (by decide) r3).symm)).kept (grownBy_setCell' _ (w.heap.size + 1 + 1) (.int .i64 0)) (.inr (c2.not_row (by decide) r3).symm)
    refine ⟨.tuple #[.slice ad (toks zs).length cp, .int .i64 0, .int .i64 0], ?_, _, by rw [hE.out], by rw [hL.out]; exact ownsRow_putObj r4 _ hK' rfl, (((hB1.setCell (p := ⟨w.heap.size, 0, none⟩) (Nat.le_refl _) _).setCell (p := ⟨w.heap.size + 1, 0, none⟩) (by simp) _).setCell (p := ⟨w.heap.size + 1 + 1, 0, none⟩) (by simp; omega) _).trans (belowK_b (w := w) (Nat.le_refl _) _ D _ _ (by omega) hK' rfl rfl)⟩
    simp [results, Tryd.f9, go_sem, g0, g1, g2]
  case stop =>
    rintro D c pre W hD hpre ⟨⟨rfl, q, x, h2, h3, h4, c0, c1, c2⟩, hB1⟩ hK
    subst h2
    obtain ⟨rest, hrest⟩ := hpre
    have hE : Hid (allE s = (x.2.2, x.2.1)) := by
      show allE s = _
      unfold allE
      rw [← hrest, List.append_assoc, List.find?_append, List.find?_eq_none.2 (fun y hy => by rw [h3 y hy]; simp)]
      simp [h4]
    have hL : Hid (allL s = []) := by
      show allL s = []
      unfold allL
      rw [if_neg]
      intro h
      have := List.all_eq_true.1 h x (by rw [← hrest]; simp)
      rw [h4] at this; cases this
    clear hrest
    gi_wp2
    refine ⟨by simp, .inl ⟨_, _, rfl, run_takeDeferred hK, ?_⟩⟩
    have g0 := cell_kept c0.cell (grownBy_putObj' _ D (.deferred none)) (fun r e => by cases e; exact ⟨_, hK, rfl⟩)
    have g1 := cell_kept c1.cell (grownBy_putObj' _ D (.deferred none)) (fun r e => by cases e; exact ⟨_, hK, rfl⟩)
    have g2 := cell_kept c2.cell (grownBy_putObj' _ D (.deferred none)) (fun r e => by cases e; exact ⟨_, hK, rfl⟩)
    refine ⟨.tuple #[.slice none 0 0, .int .i64 x.2.2, .int .i64 x.2.1], ?_, _, by rw [hE.out], by rw [hL.out]; exact World.ownsRow_nil _ _ _ _, hB1.trans (belowK_b (w := w) (Nat.le_refl _) W D _ _ (by omega) hK rfl rfl)⟩
    simp [results, Tryd.f9, go_sem, g0, g1, g2]
end Go.Proofs.YtiemngihndbobaaDoor.Lx
