/- Contracts of Double, Counts. -/
import Derived.Test.YthpbfaddojcohaaNJ
namespace Go.Proofs.Ythpbfaddojcohaa
open Go.RowKit
attribute [local go_sem ↓] Go.wp_at_zero Go.wp_at_succ
abbrev DbS (nb g m cap k : Nat) (d : Dg) (w : World) : Prop := w.cell? ⟨nb, 0, none⟩ = some (.slice (some ⟨g, 0, none⟩) (m + 1) cap) ∧ w.cell? ⟨g, k * 5, none⟩ = some (.int .i64 d.fr) ∧ w.cell? ⟨g, k * 5 + 1, none⟩ = some (.int .i64 d.to) ∧ w.cell? ⟨g, k * 5 + 2, none⟩ = some (.bool d.ak) ∧ w.cell? ⟨g, k * 5 + 3, none⟩ = some (.int .i64 d.sq) ∧ w.cell? ⟨g, k * 5 + 4, none⟩ = some (.slice d.ba d.bn d.bc)
set_option maxRecDepth 100000 in
set_option maxHeartbeats 1000000 in
theorem n20 (nb B : Nat) (v : Value) (N : Nt) (cs : List Dc) (k : Nat) (x : Dc) (w : World) (h : NtC w nb B v N cs) (hB : B ≤ w.heap.size) (hk : k < N.l.length) (hx : cs[k]? = some x) (hd0 : 0 ≤ N.x) (hd1 : N.x ≤ 1000000000000) (hll : (N.l.length + 1) * 56 ≤ 140737488355328) :
    Calls Try.prog 20 #[.pointer (some ⟨nb, 0, none⟩), .int .i64 k] w fun e w' => e = .returned (.int .i64 0) ∧ TakePost nb B v { N with x := N.x + 1 } (cs ++ [x]) w w' := by
  obtain ⟨m, hm⟩ : ∃ m, N.l.length = m + 1 := ⟨N.l.length - 1, by omega⟩
  have hown := h.at_.own
  rw [hm] at hown
  obtain ⟨g, cap, hv⟩ := owns_some hown
  subst hv
  clear hown
  have H44 := n44 nb B _ N k _ h.at_
  rw [show hasN N.l.length k = true by simp [hasN]; omega, if_pos rfl] at H44
  have hd := h.at_.cells.2.2.2.2.1
  have hfz := h.at_.frozen 4
  have h1 : NtC (w.setCell ⟨nb, 4, none⟩ (.int .i64 (N.x + 1))) nb B (.slice (some ⟨g, 0, none⟩) (m + 1) cap) { N with x := N.x + 1 } cs := h.from (h.at_.setx (N.x + 1)) rfl (keepN_set _ _ nb 4 _)
  have hF1 : FromN nb (.slice (some ⟨g, 0, none⟩) (m + 1) cap) w (.slice (some ⟨g, 0, none⟩) (m + 1) cap) (w.setCell ⟨nb, 4, none⟩ (.int .i64 (N.x + 1))) := ⟨keepN_set _ _ nb 4 _, fun _ e => .inl e⟩
  have hD := h1.own.2 k (N.l[k]) x (List.getElem?_eq_getElem hk) hx
  obtain ⟨p0, p1, p2, p3, p4⟩ := dg_cells (owns_range (by have := h1.at_.own; rw [show ({ N with x := N.x + 1 } : Nt).l.length = m + 1 from hm] at this; exact this)) k hk
  obtain ⟨d, hdn⟩ : ∃ d, N.l[k] = d := ⟨_, rfl⟩
  simp only [Nat.zero_add] at p0 p1 p2 p3 p4
  rw [hdn] at p0 p1 p2 p3 p4 hD
  have hmk : (k : Int) < (m : Int) + 1 := by omega
  have hk0 : (0 : Int) ≤ (k : Int) := by omega
  have hS0 : DbS nb g m cap k d (w.setCell ⟨nb, 4, none⟩ (.int .i64 (N.x + 1))).drew := ⟨h1.at_.cells.1, p0, p1, p2, p3, p4⟩
  have h1d : NtC (w.setCell ⟨nb, 4, none⟩ (.int .i64 (N.x + 1))).drew nb B (.slice (some ⟨g, 0, none⟩) (m + 1) cap) { N with x := N.x + 1 } cs := h1.below (Below.drew (Below.refl _ _))
  have H43 := n43 nb B _ { N with x := N.x + 1 } d _ h1d.at_ (Nat.le_trans hB hF1.keep.size) hll
  have HD : Hid (OwnD (w.setCell ⟨nb, 4, none⟩ (.int .i64 (N.x + 1))).drew B d x) := ⟨hD.1, owns_below hD.2 (Below.drew (Below.refl _ _))⟩
  have H1 : Hid (NtC (w.setCell ⟨nb, 4, none⟩ (.int .i64 (N.x + 1))).drew nb B (.slice (some ⟨g, 0, none⟩) (m + 1) cap) { N with x := N.x + 1 } cs) := h1d
  have HF1 : Hid (FromN nb (.slice (some ⟨g, 0, none⟩) (m + 1) cap) w (.slice (some ⟨g, 0, none⟩) (m + 1) cap) (w.setCell ⟨nb, 4, none⟩ (.int .i64 (N.x + 1))).drew) := hF1.below (Below.drew (Below.refl _ _))
  have hr := h1.at_.cells.1
  clear h h1 h1d hF1 hD hx p0 p1 p2 p3 p4 hdn hr
  go_enter Try.func20, Try.ntmps20
  go_wp2_with fail
  refine H44.mono ?_
  rintro e w1 ⟨rfl, hw⟩
  obtain rfl := hw.symm
  clear H44
  go_wp2_with fail
  clear hd hfz
  generalize w.setCell ⟨nb, 4, none⟩ (.int .i64 (N.x + 1)) = W at *
  obtain ⟨s0, s1, s2, s3, s4, s5⟩ := hS0
  go_region_with (go_at_call 43; refine H43.mono ?_; rintro e w5 ⟨rfl, hp5⟩)
  all_goals (
  have HF5 : Hid (TakePost nb B (.slice (some ⟨g, 0, none⟩) (m + 1) cap) { N with x := N.x + 1 } (cs ++ [x]) w w5) := by
    obtain ⟨v5, hn5, hf5⟩ := put_fromN hp5
    exact ⟨v5, _, ⟨hn5, OwnL.snoc (H1.out.own.keep H1.out.at_ hf5.keep) ⟨HD.out.1, HD.out.2.keep H1.out.at_ hf5.keep⟩⟩, HF1.out.trans hf5⟩
  clear hp5 s0 s1 s2 s3 s4 s5
  go_wp2_with fail
  go_ret
  exact ⟨rfl, HF5.out⟩)
end Go.Proofs.Ythpbfaddojcohaa
