/- The contract of Count. -/
import Derived.Test.YtampjlafhglceaaDoorQ5
import Derived.Test.YtampjlafhglceaaDoorZ2
namespace Go.Proofs.YtampjlafhglceaaDoor
open Go.RowKit Go.Shelf
attribute [local go_sem] Oper.semAt_some
/-- How many tokens are of some kinds. -/
def cntK (ks : List Int) (l : List T) : Nat := l.countP (fun t => ks.contains t.k)
theorem keep_set {n0 B3 : Nat} {W : World} {t : TypeId} {v v' : Value} (hv : Boxed W B3 t v) (hn : n0 ≤ B3) (hv' : v'.ownBlock = none) : Keep n0 B3 W (W.setCell ⟨B3, 0, none⟩ v') := by
  have hr : rowOf (W.setCell ⟨B3, 0, none⟩ v') B3 = none := by unfold rowOf; rw [(hv.set v').cell]; exact hv'
  have hg := grownBy_setCell' W B3 v'
  refine ⟨(Below.refl n0 W).setCell (p := ⟨B3, 0, none⟩) hn _, fun b o hb _ h1 _ => (hg.block b (Array.getElem?_eq_some_iff.1 hb).1 (fun e => h1 (by cases e; rfl))).trans hb, (fun b h => by rw [hr] at h; cases h), (fun _ g h => by rw [hr] at h; cases h)⟩
theorem cntK_snoc (ks : List Int) (pre : List Fd) (x : Fd) : cntK ks (toks (pre ++ [x])) = cntK ks (toks pre) + if ks.contains x.1.k then 1 else 0 := by
  unfold cntK toks
  rw [List.map_append, List.countP_append]
  simp [List.countP_cons]
theorem cntK_le (ks : List Int) (pre : List Fd) : cntK ks (toks pre) ≤ pre.length := by
  unfold cntK
  have := List.countP_le_length (p := fun t : T => ks.contains t.k) (l := toks pre)
  simpa [toks] using this
set_option maxRecDepth 100000 in
set_option maxHeartbeats 2000000 in
theorem c17 (s : ByteArray) (ad : Option Addr) (cap : Nat) (ks : List Int) (w : World) (hS : Signs w) (hs : s.size ≤ 1000000000) (hR : KindsAt w ad ks) (hlen : ks.length ≤ 1000000000) (had : ∀ g, ad = some ⟨g, 0, none⟩ → g < w.heap.size) :
    Calls Tryd.prog 17 #[.string s, .slice ad ks.length cap] w fun e w' => e = .returned (.int .i64 (cntK ks (allL s))) ∧ Below w.heap.size w w' := by
  refine (callsIn_wide (n := 6)).1 ?_
  have HS : Hid (Signs w) := hS
  have hw0 : 0 < w.heap.size := hS.1
  have hwl := walkF_len s (s.size + 1) 0
  have hwl : (walkL s).length ≤ s.size + 1 := hwl
  clear hS
  refine callsIn_of_wp_marks Tryd.func17 rfl trivial ?_ rfl
  simp only [Tryd.ntmps17, List.size_toArray, List.length_cons, List.length_nil, Nat.reduceAdd, Nat.reduceSub, Array.replicate_succ, Array.replicate_zero, List.push_toArray, List.append_toArray, List.nil_append, List.cons_append]
  gi_wp2_with (refine ⟨trivial, ?_⟩; gi_at_call 29; refine (walk29 _ s _).mono ?_; rintro e w' ⟨rfl, rfl⟩)
  have b0 := (((Boxed.new w 45 (.slice ad ks.length cap)).alloc (.cells #[.int .i64 0] 3)).alloc (.cells #[.int .i64 0] 3)).alloc (.cells #[.string s] 9)
  have b1 := ((Boxed.new (w.alloc (.cells #[.slice ad ks.length cap] 45)) 3 (.int .i64 0)).alloc (.cells #[.int .i64 0] 3)).alloc (.cells #[.string s] 9)
  have b2 := (Boxed.new ((w.alloc (.cells #[.slice ad ks.length cap] 45)).alloc (.cells #[.int .i64 0] 3)) 3 (.int .i64 0)).alloc (.cells #[.string s] 9)
  have b3 := Boxed.new (((w.alloc (.cells #[.slice ad ks.length cap] 45)).alloc (.cells #[.int .i64 0] 3)).alloc (.cells #[.int .i64 0] 3)) 9 (.string s)
  simp only [World.size_alloc] at b1 b2 b3
  have hB0 : Below w.heap.size w ((((w.alloc (.cells #[.slice ad ks.length cap] 45)).alloc (.cells #[.int .i64 0] 3)).alloc (.cells #[.int .i64 0] 3)).alloc (.cells #[.string s] 9)) := ((((Below.refl _ w).alloc (Nat.le_refl _) _).alloc (by simp) _).alloc (by simp; omega) _).alloc (by simp; omega) _
  have hsz : ((((w.alloc (.cells #[.slice ad ks.length cap] 45)).alloc (.cells #[.int .i64 0] 3)).alloc (.cells #[.int .i64 0] 3)).alloc (.cells #[.string s] 9)).heap.size = w.heap.size + 4 := by simp
  obtain ⟨W0, hW0⟩ : ∃ W0, ((((w.alloc (.cells #[.slice ad ks.length cap] 45)).alloc (.cells #[.int .i64 0] 3)).alloc (.cells #[.int .i64 0] 3)).alloc (.cells #[.string s] 9)) = W0 := ⟨_, rfl⟩
  rw [hW0] at b0 b1 b2 b3 hB0 hsz ⊢
  clear hW0
  have hrow0 : rowOf W0 (w.heap.size + 1 + 1) = none := by unfold rowOf; rw [b2.cell]; rfl
  have hInv : Inv w.heap.size (w.heap.size + 1 + 1) (w.heap.size + 1 + 1 + 1) s W0 := ⟨b3, HS.out.below hB0, by omega, by omega, by rw [hrow0]; simp, by rw [hrow0]; simp⟩
  refine wpIn_rangeFunc_ownH rfl (by decide) (gf := 44) (lb := #[.pointer (some ⟨w.heap.size + 1 + 1 + 1, 0, none⟩)]) rfl trivial (enters_of Tryd.func44 (by kernel_rfl) rfl)
    (walk_stops 5 (by decide) (w.heap.size + 1 + 1 + 1) w.heap.size (w.heap.size + 1 + 1) s (by unfold maxLen; omega) (by omega) hw0 W0 hInv) (fun h k => h.trans k) (keep_b (by omega) (by omega)) (Below.refl _ _) (fun _ => rfl)
    (fun pre W => ((Boxed W (w.heap.size + 1 + 1) 3 (.int .i64 (cntK ks (toks pre)))) ∧ ((∀ y ∈ pre, okB y = true) ∧ Boxed W w.heap.size 45 (.slice ad ks.length cap) ∧ Boxed W (w.heap.size + 1) 3 (.int .i64 0))) ∧ Below w.heap.size w W)
    (fun c pre W => (c = .ret ∧ ∃ (q : List Fd) (x : Fd), pre = q ++ [x] ∧ (∀ y ∈ q, okB y = true) ∧ okB x = false ∧ Boxed W (w.heap.size + 1) 3 (.int .i64 0)) ∧ Below w.heap.size w W)
    (OwnFrom.and (OwnFrom.and (Own.from (boxed_own (w.heap.size + 1 + 1) 3 (fun pre => Value.int .i64 (cntK ks (toks pre)))) _) (Own.from (fun s A B row hs hg hr => ⟨hs.1, boxed_own w.heap.size 45 (fun (_ : Unit) => Value.slice ad ks.length cap) () A B row hs.2.1 hg hr, boxed_own (w.heap.size + 1) 3 (fun (_ : Unit) => Value.int .i64 0) () A B row hs.2.2 hg hr⟩) _)) (ownFrom_below (Nat.le_refl _) (by omega)))
    (fun c => OwnFrom.and (Own.from (fun s A B row hs hg hr => by
      obtain ⟨h1, q, x, h2, h3, h4, h5⟩ := hs
      exact ⟨h1, q, x, h2, h3, h4, boxed_own (w.heap.size + 1) 3 (fun (_ : Unit) => Value.int .i64 0) () A B row h5 hg hr⟩) _) (ownFrom_below (Nat.le_refl _) (by omega)))
    ⟨⟨b2, by simp, b0, b1⟩, hB0⟩
    (fun x a' W => ∃ Bx, w.heap.size + 1 + 1 < Bx ∧ Fbox W Bx x ∧ a' = { tmps := #[.string s, .slice ad ks.length cap, undef, .pointer (some ⟨w.heap.size, 0, none⟩), .pointer (some ⟨w.heap.size + 1, 0, none⟩), .pointer (some ⟨w.heap.size + 1 + 1, 0, none⟩), .pointer (some ⟨Bx, 0, none⟩), .string s, .func (.func 44) #[] #[.pointer (some ⟨w.heap.size + 1 + 1 + 1, 0, none⟩)], .agg #[.int .u8 x.1.k, .string x.1.t, .int .i64 x.1.n, .int .i64 x.1.node, .int .i64 x.1.at_, .int .i64 x.2.1, .int .i64 x.2.2], undef, undef, undef, undef, undef, undef, undef, undef, undef, undef, undef], defers := [] })
    (fun x a' _ X Y row hs hg hr => by obtain ⟨Bx, h1, h2, h3⟩ := hs; exact ⟨Bx, h1, h2.kept hg (fun r e => (hr r e).2), h3⟩)
    ?assign ?body ?done ?stop
  case assign =>
    rintro lp pre x W K ⟨⟨c2, hok, c0, c1⟩, hB1⟩ hK
    gi_wp2
    exact hK _ _ ((KeepsOthers.alloc _ _).from _) (keep_of_below ((Below.refl _ W).alloc (Nat.le_refl _) _) c2.lt hB1.size) ⟨⟨c2.alloc _, hok, c0.alloc _, c1.alloc _⟩, hB1.alloc hB1.size _⟩ ⟨W.heap.size, by have := c2.lt; omega, Fbox.new W x, rfl⟩
  case body =>
    rintro lp pre x a' W hl ⟨r, hr⟩ ⟨⟨c2, hok, c0, c1⟩, hB1⟩ ⟨Bx, hBx, bX, rfl⟩ hlt
    obtain ⟨d0, d1, d2, d3, d4, d5, d6⟩ := bX.cells
    have hcl := cntK_le ks pre
    clear hr
    have e0 := c0.cell
    have e1 := c1.cell
    have e2 := c2.cell
    have f1 := c1.frozen
    have f2 := c2.frozen
    cases hx : okB x
    · have hx' : (x.2.2 != 0) = true := by unfold okB at hx; simp at hx ⊢; exact hx
      gi_wp2
      exact ⟨(KeepsOthers.setCell _ _ _).from _, ⟨rfl, pre, x, rfl, hok, hx, c1.set (.int .i64 0)⟩, hB1.setCell (p := ⟨w.heap.size + 1, 0, none⟩) (by simp) _⟩
    · have hx' : (x.2.2 != 0) = false := by unfold okB at hx; simp at hx ⊢; exact hx
      have hRW : KindsAt W ad ks := fun j k hj => by
        obtain ⟨g, hg, hc⟩ := hR j k hj
        exact ⟨g, hg, (hB1.cell (p := ⟨g, j, none⟩) (had g hg)).trans hc⟩
      have H32 := c32 ad cap ks x.1.k W hRW hlen
      have hoks : ∀ y ∈ pre ++ [x], okB y = true := fun y hy => by
        rcases List.mem_append.1 hy with hy | hy
        · exact hok y hy
        · simp at hy; subst hy; exact hx
      cases hq : ks.contains x.1.k
      · rw [hq] at H32
        gi_wp2_with (refine ⟨trivial, ?_⟩; gi_at_call 32; refine (callsIn_wide.2 H32).mono ?_; rintro e w' ⟨rfl, rfl⟩)
        refine ⟨(KeepsOthers.refl _).from _, keep_of_below (Below.refl _ _) c2.lt hB1.size, ⟨?_, hoks, c0, c1⟩, hB1⟩
        show Boxed _ _ _ (.int .i64 (cntK ks (toks (pre ++ [x])) : Nat))
        rw [cntK_snoc, hq]; exact c2
      · rw [hq] at H32
        gi_wp2_with (refine ⟨trivial, ?_⟩; gi_at_call 32; refine (callsIn_wide.2 H32).mono ?_; rintro e w' ⟨rfl, rfl⟩)
        refine ⟨(KeepsOthers.setCell _ _ _).from _, keep_set c2 (by omega) rfl, ⟨?_, hoks, c0.other (by omega) _, c1.other (by omega) _⟩, hB1.setCell (p := ⟨w.heap.size + 1 + 1, 0, none⟩) (by simp; omega) _⟩
        show Boxed _ _ _ (.int .i64 (cntK ks (toks (pre ++ [x])) : Nat))
        rw [cntK_snoc, hq]; exact c2.set (.int .i64 (cntK ks (toks pre) + 1 : Int))
  case done =>
    rintro D zs W hD hzs ⟨⟨c2, hok, c0, c1⟩, hB1⟩ hK
    have hall : (walkL s).all okB = true := by rw [List.all_eq_true, ← hzs]; exact hok
    have hL : Hid (allL s = toks zs) := by
      show allL s = toks zs
      unfold allL; rw [hall, if_pos rfl, hzs]
    have e2 := c2.cell
    have e1 := c1.cell
    have f1 := c1.frozen
    clear hall hzs
    gi_wp2
    have hK' := (KeepsOthers.setCell W ⟨w.heap.size + 1, 0, none⟩ (.int .i64 (cntK ks (toks zs) : Nat))).same D _ hK rfl
    refine ⟨by simp, .inl ⟨_, _, rfl, run_takeDeferred hK', ?_⟩⟩
    have g1 := cell_kept (c1.set (.int .i64 (cntK ks (toks zs) : Nat))).cell (grownBy_putObj' _ D (.deferred none)) (fun r e => by cases e; exact ⟨_, hK', rfl⟩)
    refine ⟨.int .i64 (cntK ks (toks zs) : Nat), ?_, by rw [hL.out], (hB1.setCell (p := ⟨w.heap.size + 1, 0, none⟩) (by simp) _).trans (belowK_b (w := w) (Nat.le_refl _) _ D _ _ (by omega) hK' rfl rfl)⟩
    simp [results, Tryd.f17, go_sem, g1]
  case stop =>
    rintro D c pre W hD hpre ⟨⟨rfl, q, x, h2, h3, h4, c1⟩, hB1⟩ hK
    subst h2
    obtain ⟨rest, hrest⟩ := hpre
    have hL : Hid (allL s = []) := by
      show allL s = []
      unfold allL
      rw [if_neg]
      intro h
      have := List.all_eq_true.1 h x (by rw [← hrest]; simp)
      rw [h4] at this; cases this
    clear hrest
    gi_wp2
    refine ⟨by simp, .inl ⟨_, _, rfl, run_takeDeferred hK, ?_⟩⟩
    have g1 := cell_kept c1.cell (grownBy_putObj' _ D (.deferred none)) (fun r e => by cases e; exact ⟨_, hK, rfl⟩)
    refine ⟨.int .i64 0, ?_, by rw [hL.out]; rfl, hB1.trans (belowK_b (w := w) (Nat.le_refl _) W D _ _ (by omega) hK rfl rfl)⟩
    simp [results, Tryd.f17, go_sem, g1]
end Go.Proofs.YtampjlafhglceaaDoor
