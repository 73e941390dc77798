/- The iterator walk$1: for every loop body that keeps the iterator's own boxes. -/
import Derived.Test.YtiemngihndbobaaDoorLxQ1
namespace Go.Proofs.YtiemngihndbobaaDoor.Lx
open Go.RowKit Go.Shelf
attribute [local go_sem] Oper.semAt_some
/-- The block of the row that a box's slice has. -/
def rowOf (W : World) (B3 : Nat) : Option Nat := (W.cell? ⟨B3, 0, none⟩).bind Value.ownBlock
/-- What a round keeps: all cells but those of one box, and of the row that it holds. -/
structure Keep (n0 B3 : Nat) (W W' : World) : Prop where
  below : Below n0 W W'
  same : ∀ b o, W.heap[b]? = some o → o.isCells = true → b ≠ B3 → rowOf W B3 ≠ some b → W'.heap[b]? = some o
  row : ∀ b, rowOf W' B3 = some b → rowOf W B3 = some b ∨ W.heap.size ≤ b
  valid : (∀ g, rowOf W B3 = some g → g < W.heap.size) → (∀ g, rowOf W' B3 = some g → g < W'.heap.size)
theorem Keep.trans {n0 B3 : Nat} {A B C : World} (h : Keep n0 B3 A B) (k : Keep n0 B3 B C) : Keep n0 B3 A C := by
  refine ⟨h.below.trans k.below, fun b o hb hc h1 h2 => ?_, fun b hb => ?_, fun hv => k.valid (h.valid hv)⟩
  · refine k.same b o (h.same b o hb hc h1 h2) hc h1 (fun e => ?_)
    rcases h.row b e with e2 | e2
    · exact h2 e2
    · have := (Array.getElem?_eq_some_iff.1 hb).1; omega
  · rcases k.row b hb with e | e
    · exact h.row b e
    · exact .inr (Nat.le_trans h.below.size e)
theorem keep_of_below {n0 B3 : Nat} {W W' : World} (hb : Below W.heap.size W W') (h3 : B3 < W.heap.size) (hn : n0 ≤ W.heap.size) : Keep n0 B3 W W' := by
  have hr : rowOf W' B3 = rowOf W B3 := by unfold rowOf; rw [hb.cell (p := ⟨B3, 0, none⟩) h3]
  refine ⟨hb.mono hn, fun b o hbo _ _ _ => (hb.block b (Array.getElem?_eq_some_iff.1 hbo).1).trans hbo, fun b h => .inl (hr ▸ h), fun hv g hg => ?_⟩
  rw [hr] at hg
  exact Nat.lt_of_lt_of_le (hv g hg) hb.size
theorem keep_b {n0 B3 : Nat} {w : World} (hn : n0 ≤ w.heap.size) (h3 : B3 < w.heap.size) (W : World) (l : Nat) (o o' : Obj) (hl : w.heap.size ≤ l) (h : W.heap[l]? = some o) (hc : o.isCells = false) (hw : o.isWalk = false) : Keep n0 B3 W (W.putObj l o') := by
  have hg := grownBy_putObj' W l o'
  have hlt := (Array.getElem?_eq_some_iff.1 h).1
  have hr : rowOf (W.putObj l o') B3 = rowOf W B3 := by
    unfold rowOf
    rw [World.cell?_of_block (a := ⟨B3, 0, none⟩) (hg.block B3 (by omega) (fun e => by cases e; omega))]
  refine ⟨belowK_b (w := w) hn W l o o' hl h hc hw, fun b ob hb hcb _ _ => ?_, fun b h => .inl (hr ▸ h), fun hv g hgg => ?_⟩
  · refine (hg.block b (Array.getElem?_eq_some_iff.1 hb).1 (fun e => ?_)).trans hb
    cases e
    rw [h] at hb; cases hb; rw [hc] at hcb; cases hcb
  · rw [hr] at hgg
    exact Nat.lt_of_lt_of_le (hv g hgg) hg.size
/-- What the iterator needs to know. -/
structure Inv (n0 B3 Bs : Nat) (s : ByteArray) (W : World) : Prop where
  box : Boxed W Bs 9 (.string s)
  sg : Signs W
  b3 : B3 < W.heap.size
  n0 : n0 ≤ W.heap.size
  far : rowOf W B3 ≠ some Bs
  valid : ∀ g, rowOf W B3 = some g → g < W.heap.size
theorem Inv.keep {n0 B3 Bs : Nat} {s : ByteArray} {W W' : World} (h : Inv n0 B3 Bs s W) (k : Keep n0 B3 W W') (hne : Bs ≠ B3) (hn1 : 3 ≤ n0) : Inv n0 B3 Bs s W' := by
  refine ⟨k.same Bs _ h.box rfl hne h.far, ⟨Nat.lt_of_lt_of_le h.sg.1 k.below.size, fun j v hv => (k.below.cell (p := ⟨2, 0 + j, none⟩) hn1).trans (h.sg.2 j v hv)⟩, Nat.lt_of_lt_of_le h.b3 k.below.size, Nat.le_trans h.n0 k.below.size, fun e => ?_, k.valid h.valid⟩
  rcases k.row Bs e with e2 | e2
  · exact h.far e2
  · have := h.box.lt; omega
theorem grown_of_below {W W' : World} (h : Below W.heap.size W W') : W.grownBy W' none := ⟨h.os, h.tape, h.output, h.size, fun k hk _ => h.block k hk⟩
theorem abides_below {β : Type} {B : Nat} {J : β → World → Prop} (h : AbidesFrom B J) {x : β} {W W' : World} (hb : Below W.heap.size W W') (hs : J x W) : J x W' :=
  h x W _ none hs (grown_of_below hb) (fun r e => by cases e)
theorem walk_last (s : ByteArray) (f k : Nat) (h : lastB (nextN s k) = true) : walkF s (f + 1) k = [nextN s k] := by simp only [walkF]; rw [if_pos h]
theorem walk_more (s : ByteArray) (f k q : Nat) (h : lastB (nextN s k) = false) (hq : (nextN s k).2.1 = q) : walkF s (f + 1) k = nextN s k :: walkF s f q := by
  simp only [walkF]; rw [if_neg (by simp [h]), hq]; rfl
theorem tok24 (W : World) (a : Int) (b : ByteArray) (c d e : Int) : (W.alloc (.cells #[.int .u8 a, .string b, .int .i64 c, .int .i64 d, .int .i64 e] 27)).heap[W.heap.size]? = some (.cells #[.int .u8 a, .string b, .int .i64 c, .int .i64 d, .int .i64 e] 27) := World.alloc_heap_new W _
theorem tok24_cell {W : World} {b : Nat} {a : Int} {t : ByteArray} {c d e : Int} (h : W.heap[b]? = some (.cells #[.int .u8 a, .string t, .int .i64 c, .int .i64 d, .int .i64 e] 27)) : W.cell? ⟨b, 0, none⟩ = some (.int .u8 a) := by simp [World.cell?, h]
set_option maxRecDepth 100000 in
set_option maxHeartbeats 2000000 in
theorem walk_in (n : Nat) (hn : 1 ≤ n) (l Bs n0 B3 B0 : Nat) (J Jx : List Fd → World → Prop) (hJ : AbidesFrom B0 J) (s : ByteArray) (hs : s.size ≤ maxLen) (hne : Bs ≠ B3) (hn1 : 3 ≤ n0)
    (hY : ∀ pre x W, J pre W → pre ++ [x] <+: walkL s → YieldAt Fence.wide (n - 1) Tryd.prog l #[.agg #[.int .u8 x.1.k, .string x.1.t, .int .i64 x.1.n, .int .i64 x.1.node, .int .i64 x.1.at_, .int .i64 x.2.1, .int .i64 x.2.2]] W fun e W' =>
      (e = .returned (.bool true) ∧ J (pre ++ [x]) W' ∧ Keep n0 B3 W W') ∨ (e = .returned (.bool false) ∧ Jx (pre ++ [x]) W'))
    (W : World) (hI : Inv n0 B3 Bs s W) (h0 : J [] W) :
    CallsIn Fence.wide n Tryd.prog 25 #[.func (.yield l) #[] #[], .pointer (some ⟨Bs, 0, none⟩)] W fun e W' => (∃ v, e = .returned v) ∧
      ((∃ ys, ys = walkL s ∧ J ys W') ∨ (∃ pre, pre <+: walkL s ∧ Jx pre W')) := by
  have HY : Hid (∀ pre x W, J pre W → pre ++ [x] <+: walkL s → YieldAt Fence.wide (n - 1) Tryd.prog l #[.agg #[.int .u8 x.1.k, .string x.1.t, .int .i64 x.1.n, .int .i64 x.1.node, .int .i64 x.1.at_, .int .i64 x.2.1, .int .i64 x.2.2]] W fun e W' =>
      (e = .returned (.bool true) ∧ J (pre ++ [x]) W' ∧ Keep n0 B3 W W') ∨ (e = .returned (.bool false) ∧ Jx (pre ++ [x]) W')) := hY
  have HJ : Hid (AbidesFrom B0 J) := hJ
  clear hY hJ
  refine callsIn_of_wp Tryd.func25 rfl trivial ?_ rfl
  simp only [Tryd.ntmps25, List.size_toArray, List.length_cons, List.length_nil, Nat.reduceAdd, Nat.reduceSub, Array.replicate_succ, Array.replicate_zero, List.push_toArray, List.append_toArray, List.nil_append, List.cons_append]
  gi_wp2
  gi_loopw [3] (fun i wr => ∃ (k f : Nat) (pre : List Fd), k ≤ s.size ∧ i = .int .i64 k ∧ s.size - k < f ∧ Hid (walkL s = pre ++ walkF s f k) ∧ Hid (J pre wr) ∧ Hid (Inv n0 B3 Bs s wr)) (fun i _ => s.size - (intOf i).toNat)
  case atStart => exact ⟨0, s.size + 1, [], Nat.zero_le _, rfl, by omega, rfl, h0, hI⟩
  case round =>
    obtain ⟨k, f, pre, hk, rfl, hf, HWk, HJp, HI⟩ := hrel
    obtain ⟨f, rfl⟩ : ∃ f', f = f' + 1 := ⟨f - 1, by omega⟩
    have cS := HI.out.box.cell
    have H9 := c9_in s k wr HI.out.sg hs hk
    have HPRE : Hid (pre ++ [nextN s k] <+: walkL s) := by
      show pre ++ [nextN s k] <+: walkL s
      rw [HWk.out]
      cases h : lastB (nextN s k)
      · obtain ⟨q, hq, _⟩ := next_on s k hk h
        rw [walk_more s f k q h hq]
        exact (List.prefix_append_right_inj _).2 ⟨_, rfl⟩
      · rw [walk_last s f k h]
        exact List.prefix_refl _
    have HLAST : Hid (lastB (nextN s k) = true → walkL s = pre ++ [nextN s k]) := fun h => by rw [HWk.out, walk_last s f k h]
    have HMORE : Hid (lastB (nextN s k) = false → ∃ q : Nat, (nextN s k).2.1 = q ∧ k < q ∧ q ≤ s.size ∧ walkL s = (pre ++ [nextN s k]) ++ walkF s f q) := fun h => by
      obtain ⟨q, hq, h1, h2⟩ := next_on s k hk h
      exact ⟨q, hq, h1, h2, by rw [HWk.out, walk_more s f k q h hq]; simp⟩
    clear HWk
    obtain ⟨⟨⟨tk, tt, tn, td, ta⟩, tq, te⟩, hx⟩ : ∃ x, nextN s k = x := ⟨_, rfl⟩
    rw [hx] at H9 HPRE HLAST HMORE
    clear hx
    simp only [tripV, T.val] at H9
    have HARM : Hid (∀ w1 : World, Below wr.heap.size wr w1 →
        Inv n0 B3 Bs s (w1.alloc (.cells #[.int .u8 tk, .string tt, .int .i64 tn, .int .i64 td, .int .i64 ta] 27)) ∧
        rowOf (w1.alloc (.cells #[.int .u8 tk, .string tt, .int .i64 tn, .int .i64 td, .int .i64 ta] 27)) B3 ≠ some w1.heap.size ∧ w1.heap.size ≠ B3 ∧
        J pre (w1.alloc (.cells #[.int .u8 tk, .string tt, .int .i64 tn, .int .i64 td, .int .i64 ta] 27))) := fun w1 hb => by
      have hK1 : Keep n0 B3 wr (w1.alloc (.cells #[.int .u8 tk, .string tt, .int .i64 tn, .int .i64 td, .int .i64 ta] 27)) := keep_of_below (hb.alloc hb.size _) HI.out.b3 HI.out.n0
      refine ⟨HI.out.keep hK1 hne hn1, fun e => ?_, ?_, abides_below HJ.out (hb.alloc hb.size _) HJp.out⟩
      · have h3 := HI.out.b3
        have hs1 := hb.size
        have e2 : rowOf (w1.alloc (.cells #[.int .u8 tk, .string tt, .int .i64 tn, .int .i64 td, .int .i64 ta] 27)) B3 = rowOf wr B3 := by
          unfold rowOf; rw [(hb.alloc hb.size _).cell (p := ⟨B3, 0, none⟩) h3]
        rw [e2] at e
        have := HI.out.valid _ e
        omega
      · have := HI.out.b3; have := hb.size; omega
    gi_wp2_with (refine ⟨trivial, ?_⟩; gi_at_call 26; refine (callsIn_wide.2 H9).mono ?_; rintro e w1 ⟨rfl, hb⟩; obtain ⟨hI2, hfresh, hB3, hJ2⟩ := HARM.out w1 hb; have HI2 : Hid (Inv n0 B3 Bs s (w1.alloc (.cells #[.int .u8 tk, .string tt, .int .i64 tn, .int .i64 td, .int .i64 ta] 27))) := hI2; have HFR : Hid (rowOf (w1.alloc (.cells #[.int .u8 tk, .string tt, .int .i64 tn, .int .i64 td, .int .i64 ta] 27)) B3 ≠ some w1.heap.size) := hfresh; obtain ⟨fn, tmps, assign, body, hy, hR⟩ := HY.out pre (⟨tk, tt, tn, td, ta⟩, tq, te) _ hJ2 HPRE.out; dsimp only at hy; clear hI2 hfresh hJ2)
    refine hR.mono ?_
    rintro e W3 (⟨rfl, hJ3, hk3⟩ | ⟨rfl, hJx3⟩)
    · have htok := hk3.same w1.heap.size _ (tok24 w1 tk tt tn td ta) rfl hB3 HFR.out
      have cT := tok24_cell htok
      have HI3 : Hid (Inv n0 B3 Bs s W3) := HI2.out.keep hk3 hne hn1
      have HJ3 : Hid (J (pre ++ [(⟨tk, tt, tn, td, ta⟩, tq, te)]) W3) := hJ3
      clear hJ3 hk3 htok
      by_cases he : te = 0
      · subst he
        by_cases hk0 : tk = 0
        · subst hk0
          have HL : Hid (walkL s = pre ++ [(⟨0, tt, tn, td, ta⟩, tq, 0)]) := HLAST.out rfl
          gi_wp2
          refine bodyPost_ret (results_none rfl _ _ _) rfl ?_
          exact ⟨⟨_, rfl⟩, .inl ⟨walkL s, rfl, by rw [HL.out]; exact HJ3.out⟩⟩
        · have hk0' : (tk == 0) = false := by simp [hk0]
          obtain ⟨q, hq, h1, h2, h3⟩ := HMORE.out (by unfold lastB; simp [hk0])
          have hq : tq = (q : Int) := hq
          subst hq
          have HW : Hid (walkL s = (pre ++ [(⟨tk, tt, tn, td, ta⟩, (q : Int), 0)]) ++ walkF s f q) := h3
          clear h3 hk0
          gi_wp2
          go_roundw
          case rel => exact ⟨q, f, _, h2, by go_num, by omega, HW, HJ3, HI3⟩
          case measure => simp [intOf]; omega
      · have he' : (te != 0) = true := by simp [he]
        have HL : Hid (walkL s = pre ++ [(⟨tk, tt, tn, td, ta⟩, tq, te)]) := HLAST.out (by unfold lastB; simp [he])
        clear he
        gi_wp2
        refine bodyPost_ret (results_none rfl _ _ _) rfl ?_
        exact ⟨⟨_, rfl⟩, .inl ⟨walkL s, rfl, by rw [HL.out]; exact HJ3.out⟩⟩
    · gi_wp2
      refine bodyPost_ret (results_none rfl _ _ _) rfl ?_
      exact ⟨⟨_, rfl⟩, .inr ⟨_, HPRE.out, hJx3⟩⟩
end Go.Proofs.YtiemngihndbobaaDoor.Lx
