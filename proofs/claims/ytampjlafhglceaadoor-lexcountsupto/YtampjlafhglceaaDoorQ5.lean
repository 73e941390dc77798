/- The reference All, and the contract of LexAll. -/
import Derived.Test.YtampjlafhglceaaDoorQ4
import Derived.Maps.AppendAt
import Derived.Deep.RegionWith
namespace Go.Proofs.YtampjlafhglceaaDoor
open Go.RowKit
def T.vals29 (x : T) : List Value := [.int .i64 x.k, .string x.t, .int .i64 x.n, .int .i64 x.node, .int .i64 x.at_]
def flat29 (l : List T) : List Value := l.flatMap T.vals29
theorem flat29_append (a b : List T) : flat29 (a ++ b) = flat29 a ++ flat29 b := by simp [flat29]
theorem flat29_one (l : List T) : ∀ u ∈ flat29 l, u.oneCell' = true := by
  intro u hu
  simp only [flat29, List.mem_flatMap] at hu
  obtain ⟨c, _, hc⟩ := hu
  simp only [T.vals29, List.mem_cons, List.not_mem_nil, or_false] at hc
  rcases hc with rfl | rfl | rfl | rfl | rfl <;> rfl
def zero29 : Value := .agg #[.int .i64 0, .string ⟨#[]⟩, .int .i64 0, .int .i64 0, .int .i64 0]
theorem info29 : ∃ i, Tryd.prog.info? 29 = some i ∧ i.zero = some zero29 ∧ i.size = 5 ∧ i.bytes = 48 := by
  have h : (Tryd.prog.info? 29).map (fun i => (i.zero, i.size, i.bytes)) = some (some zero29, 5, 48) := by kernel_rfl
  cases hq : Tryd.prog.info? 29 with
  | none => rw [hq] at h; cases h
  | some i =>
    rw [hq] at h
    simp only [Option.map_some, Option.some.injEq, Prod.mk.injEq] at h
    exact ⟨i, rfl, h.1, h.2.1, h.2.2⟩
theorem news29 (W : World) (x : T) : ∀ j u, (flat29 [x])[j]? = some u → (W.alloc (.cells #[.int .i64 x.k, .string x.t, .int .i64 x.n, .int .i64 x.node, .int .i64 x.at_] 29)).cell? ((⟨W.heap.size, 0, none⟩ : Addr).add j) = some u := by
  intro j u hu
  rw [Addr.add_mid, cell_of_row _ _ _ _ _ _ (World.alloc_heap_new W (.cells #[.int .i64 x.k, .string x.t, .int .i64 x.n, .int .i64 x.node, .int .i64 x.at_] 29))]
  have h : (flat29 [x]) = #[Value.int .i64 x.k, .string x.t, .int .i64 x.n, .int .i64 x.node, .int .i64 x.at_].toList := by simp [flat29, T.vals29]
  rw [h] at hu
  simpa using hu
theorem allE_err {s : ByteArray} {pre : List Fd} {x : Fd} (h : walkL s = pre ++ [x]) (hok : ∀ y ∈ pre, okB y = true) (hx : okB x = false) : allE s = (x.2.2, x.2.1) ∧ allL s = [] := by
  constructor
  · unfold allE
    rw [h, List.find?_append, List.find?_eq_none.2 (fun y hy => by rw [hok y hy]; simp)]
    simp [hx]
  · unfold allL
    rw [if_neg]
    intro h2
    have := List.all_eq_true.1 h2 x (by rw [h]; simp)
    rw [hx] at this; cases this
theorem allE_ok {s : ByteArray} {pre : List Fd} (h : walkL s = pre) (hok : ∀ y ∈ pre, okB y = true) : allE s = (0, 0) ∧ allL s = toks pre := by
  have hall : (walkL s).all okB = true := by rw [List.all_eq_true, h]; exact hok
  constructor
  · unfold allE
    rw [List.find?_eq_none.2 (fun x hx => by rw [List.all_eq_true.1 hall x hx]; simp)]
  · unfold allL; rw [hall, if_pos rfl, h]
theorem pre_len {s : ByteArray} {pre r : List Fd} (h : walkL s = pre ++ r) : pre.length ≤ s.size + 1 := by
  have h1 := walkF_len s (s.size + 1) 0
  have h2 : (walkL s).length = pre.length + r.length := by rw [h, List.length_append]
  have h3 : (walkL s).length ≤ s.size + 1 := h1
  omega
theorem owns_below5 {w w' : World} {base : Nat} {e : TypeId} {s n : Nat} {u : Value} {xs : List Value} (h : w.ownsRow base e s u n xs) (hb : Below w.heap.size w w') : w'.ownsRow base e s u n xs := by
  refine ⟨h.1, ?_⟩
  rcases h.2 with hn | ⟨g, cap, cur, h1, h2, h3, h4⟩
  · exact Or.inl hn
  · exact Or.inr ⟨g, cap, cur, h1, h2, (hb.block g (Array.getElem?_eq_some_iff.1 h3).1).trans h3, h4⟩
set_option maxRecDepth 100000 in
set_option maxHeartbeats 2000000 in
theorem c14 (s : ByteArray) (w : World) (hs : s.size ≤ 1000000000) :
    Calls Tryd.prog 14 #[.string s] w fun e w' => ∃ v, e = .returned (.tuple #[v, .int .i64 (allE s).1, .int .i64 (allE s).2]) ∧ w'.ownsRow w.heap.size 29 5 v (allL s).length (flat29 (allL s)) ∧ Below w.heap.size w w' := by
  obtain ⟨i0, hi, hz, hsz5, hby⟩ := info29
  go_enter Tryd.func14, Tryd.ntmps14
  go_wp2_with fail
  go_loopw [5, 6] (fun lv i wr => ∃ (k f : Nat) (pre : List Fd) (v0 : Value), v0 = lv ∧ k ≤ s.size ∧ i = .int .i64 k ∧ s.size - k < f ∧ Hid (walkL s = pre ++ walkF s f k) ∧ Hid (∀ y ∈ pre, okB y = true) ∧ Hid (wr.ownsRow w.heap.size 29 5 v0 (toks pre).length (flat29 (toks pre))) ∧ Below w.heap.size w wr) (fun _ i _ => s.size - (intOf i).toNat)
  case atStart => exact ⟨0, s.size + 1, [], _, rfl, Nat.zero_le _, rfl, by omega, rfl, by intro y hy; simp at hy, World.ownsRow_nil _ _ _ _, Below.refl _ _⟩
  case round =>
    obtain ⟨k, f, pre, v0, hv0, hk, rfl, hf, HW, HOK, HO, hbr⟩ := hrel
    subst hv0
    obtain ⟨f, rfl⟩ : ∃ f', f = f' + 1 := ⟨f - 1, by omega⟩
    have hsz := hbr.size
    have hpl := pre_len HW.out
    have htl : (toks pre).length ≤ pre.length := by simp [toks]
    have H10 := c10_in s k wr (by omega) hk
    have HERR : Hid (okB (nextN s k) = false → allE s = ((nextN s k).2.2, (nextN s k).2.1) ∧ allL s = []) := fun h => allE_err (by rw [HW.out, walk_last s f k (by unfold lastB okB at *; simp at h ⊢; exact .inl h)]) HOK.out h
    have HOKS : Hid (okB (nextN s k) = true → ∀ y ∈ pre ++ [nextN s k], okB y = true) := fun h y hy => by
      rcases List.mem_append.1 hy with hy | hy
      · exact HOK.out y hy
      · simp at hy; subst hy; exact h
    have HEND : Hid (okB (nextN s k) = true → (nextN s k).1.k = 0 → allE s = (0, 0) ∧ allL s = toks (pre ++ [nextN s k])) := fun h h0 => allE_ok (by rw [HW.out, walk_last s f k (by unfold lastB; simp [h0])]) (HOKS.out h)
    have HMORE : Hid (lastB (nextN s k) = false → ∃ q : Nat, (nextN s k).2.1 = q ∧ k < q ∧ q ≤ s.size ∧ walkL s = (pre ++ [nextN s k]) ++ walkF s f q) := fun h => by
      obtain ⟨q, hq, h1, h2⟩ := next_on s k hk h
      exact ⟨q, hq, h1, h2, by rw [HW.out, walk_more s f k q h hq]; simp⟩
    obtain ⟨⟨⟨tk, tt, tn, td, ta⟩, tq, te⟩, hx⟩ : ∃ x, nextN s k = x := ⟨_, rfl⟩
    rw [hx] at H10 HERR HOKS HEND HMORE
    clear hx HW HOK
    simp only [trip29, T.val29] at H10
    go_wp2_with fail
    refine H10.mono ?_
    rintro e w1 ⟨rfl, hb⟩
    have hw1 : Hid (Below w.heap.size w w1) := hbr.trans (hb.mono hsz)
    have HO1 : Hid (w1.ownsRow w.heap.size 29 5 v0 (toks pre).length (flat29 (toks pre))) := owns_below5 HO.out hb
    have hfar : ∀ g, v0.ownBlock = some g → g < w1.heap.size := fun g hg => (HO1.out.lt g hg).2
    by_cases he : te = 0
    · subst he
      have hok2 := HOKS.out rfl
      have hbox := World.alloc_heap_new w1 (.cells #[.int .i64 tk, .string tt, .int .i64 tn, .int .i64 td, .int .i64 ta] 29)
      have HB2 : ∀ o1 o2 : Obj, Hid (Below w.heap.size w ((w1.alloc o1).alloc o2)) := fun o1 o2 => (hw1.out.alloc hw1.out.size o1).alloc (by have := hw1.out.size; simp; omega) o2
      have hsz1 := hw1.out.size
      have hnews : Hid (∀ j u, (flat29 [⟨tk, tt, tn, td, ta⟩])[j]? = some u → ((w1.alloc (.cells #[.int .i64 tk, .string tt, .int .i64 tn, .int .i64 td, .int .i64 ta] 29)).alloc (.cells #[.int .i64 tk, .string tt, .int .i64 tn, .int .i64 td, .int .i64 ta] 29)).cell? ((⟨w1.heap.size + 1, 0, none⟩ : Addr).add j) = some u) := by
        have h := news29 (w1.alloc (.cells #[.int .i64 tk, .string tt, .int .i64 tn, .int .i64 td, .int .i64 ta] 29)) ⟨tk, tt, tn, td, ta⟩
        rw [World.size_alloc] at h; exact h
      have HBX : Hid ((w1.alloc (.cells #[.int .i64 tk, .string tt, .int .i64 tn, .int .i64 td, .int .i64 ta] 29)).heap[w1.heap.size]? = some (.cells #[.int .i64 tk, .string tt, .int .i64 tn, .int .i64 td, .int .i64 ta] 29)) := hbox
      have HOK2 : Hid (∀ y ∈ pre ++ [(⟨tk, tt, tn, td, ta⟩, tq, 0)], okB y = true) := hok2
      clear hbox hok2 HOKS
      go_wp2_with (at_builtin; refine wpList_append_own _ rfl _ _ 38 rfl w.heap.size 29 i0 zero29 5 48 Tryd.underlying38 hi hz hsz5 hby rfl (by decide) _ _ _ rfl ((HO1.out.alloc _).alloc _) ⟨w1.heap.size + 1, 0, none⟩ 1 1 (flat29 [⟨tk, tt, tn, td, ta⟩]) rfl rfl hnews.out (flat29_one _) (by unfold maxLen; omega) (by omega) (by simp; omega) ?_)
      intro v' w3 hown' hgrow hnil
      have hown4 : Hid (w3.ownsRow w.heap.size 29 5 v' (toks (pre ++ [(⟨tk, tt, tn, td, ta⟩, tq, 0)])).length (flat29 (toks (pre ++ [(⟨tk, tt, tn, td, ta⟩, tq, 0)])))) := by
        have e : toks (pre ++ [(⟨tk, tt, tn, td, ta⟩, tq, 0)]) = toks pre ++ [⟨tk, tt, tn, td, ta⟩] := by simp [toks]
        show w3.ownsRow _ _ _ _ _ _
        rw [e, flat29_append, List.length_append]; exact hown'
      have hbr3 : Hid (Below w.heap.size w w3) := (HB2 _ _).out.grown hgrow (by simp; omega) (fun g hg => (HO1.out.lt g hg).1)
      have hbx3 : w3.heap[w1.heap.size]? = some (.cells #[.int .i64 tk, .string tt, .int .i64 tn, .int .i64 td, .int .i64 ta] 29) := (hgrow.block w1.heap.size (by simp; omega) (fun e => by have := hfar _ e.symm; omega)).trans ((Below.heap_alloc _ _ w1.heap.size (by simp)).trans HBX.out)
      obtain ⟨c0, _, _, _, _⟩ := cells5 hbx3
      clear hgrow hnil hbx3 hown'
      by_cases hk0 : tk = 0
      · subst hk0
        have HE : Hid (allE s = (0, 0) ∧ allL s = toks (pre ++ [(⟨0, tt, tn, td, ta⟩, tq, 0)])) := HEND.out rfl rfl
        go_wp2_with fail
        refine bodyPost_ret (v := .tuple #[v', .int .i64 0, .int .i64 0]) (by simp [results, Tryd.results14, go_sem]) rfl ⟨v', by rw [HE.out.1], by rw [HE.out.2]; exact hown4.out, hbr3.out⟩
      · have hk0' : (tk == 0) = false := by simp [hk0]
        obtain ⟨q, hq, h1, h2, h3⟩ := HMORE.out (by unfold lastB; simp [hk0])
        have hq : tq = (q : Int) := hq
        subst hq
        have HW2 : Hid (walkL s = (pre ++ [(⟨tk, tt, tn, td, ta⟩, (q : Int), 0)]) ++ walkF s f q) := h3
        clear h3 hk0
        go_wp2_with fail
        go_roundw
        case rel => exact ⟨q, f, _, _, rfl, h2, by go_num, by omega, HW2, HOK2, hown4, hbr3.out⟩
        case measure => simp [intOf]; omega
    · have he' : (te != 0) = true := by simp [he]
      have HE : Hid (allE s = (te, tq) ∧ allL s = []) := HERR.out (by unfold okB; simp [he])
      have hw2 : ∀ o : Obj, Hid (Below w.heap.size w (w1.alloc o)) := fun o => hw1.out.alloc hw1.out.size o
      clear he HERR HOKS HEND HMORE
      go_wp2_with fail
      refine bodyPost_ret (v := .tuple #[.slice none 0 0, .int .i64 te, .int .i64 tq]) (by simp [results, Tryd.results14, go_sem]) rfl ⟨.slice none 0 0, by rw [HE.out.1], by rw [HE.out.2]; exact World.ownsRow_nil _ _ _ _, (hw2 _).out⟩
theorem flat5_get (g : T → List Value) (hg : ∀ x, (g x).length = 5) (l : List T) (i j : Nat) (hi : i < l.length) (hj : j < 5) : (l.flatMap g)[5 * i + j]? = (g l[i])[j]? := by
  induction l generalizing i with
  | nil => simp at hi
  | cons a r ih =>
    cases i with
    | zero =>
      simp only [List.flatMap_cons]
      rw [List.getElem?_append_left (by rw [hg]; omega)]
      simp
    | succ i =>
      simp only [List.flatMap_cons]
      rw [List.getElem?_append_right (by rw [hg]; omega), hg]
      have e : 5 * (i + 1) + j - 5 = 5 * i + j := by omega
      rw [e]
      exact ih i (by simpa using hi)
theorem tok_cells {w : World} {b : Nat} (g : T → List Value) (hg : ∀ x, (g x).length = 5) {l : List T} (h : w.rangeAt b 0 (l.flatMap g)) (i : Nat) (hi : i < l.length) (j : Nat) (v : Value) (hj : j < 5) (hv : (g l[i])[j]? = some v) : w.cell? ⟨b, i * 5 + j, none⟩ = some v := by
  have := h (5 * i + j) v (by rw [flat5_get g hg l i j hi hj]; exact hv)
  rw [show 0 + (5 * i + j) = i * 5 + j by omega] at this
  exact this
theorem walk_kind (s : ByteArray) : ∀ f k, ∀ x ∈ walkF s f k, 0 ≤ x.1.k ∧ x.1.k ≤ 255
  | 0, _, x, hx => by simp [walkF] at hx
  | f + 1, k, x, hx => by
    have hn : 0 ≤ (nextN s k).1.k ∧ (nextN s k).1.k ≤ 255 := by
      unfold nextN
      have h := first_kind (s.extract (startN s k) s.size)
      split
      · exact ⟨h.1, Int.le_trans h.2 (by decide)⟩
      · exact ⟨show (0 : Int) ≤ 0 by decide, show (0 : Int) ≤ 255 by decide⟩
    simp only [walkF] at hx
    split at hx
    · simp at hx; subst hx; exact hn
    · rcases List.mem_cons.1 hx with rfl | hx
      · exact hn
      · exact walk_kind s f _ x hx
theorem all_kind (s : ByteArray) : ∀ t ∈ allL s, 0 ≤ t.k ∧ t.k ≤ 255 := by
  intro t ht
  unfold allL at ht
  split at ht
  · unfold toks at ht
    obtain ⟨x, hx, rfl⟩ := List.mem_map.1 ht
    exact walk_kind s _ _ x hx
  · simp at ht
theorem all_len (s : ByteArray) : (allL s).length ≤ s.size + 1 := by
  unfold allL
  split
  · unfold toks
    rw [List.length_map]; exact walkF_len s _ _
  · simp
set_option maxRecDepth 100000 in
set_option maxHeartbeats 2000000 in
theorem c4 (s : ByteArray) (w : World) (hS : Signs w) (hs : s.size ≤ 1000000000) :
    Calls Tryd.prog 4 #[.string s] w fun e w' => e = .returned (.bool true) ∧ Below w.heap.size w w' := by
  have H13 := c13 s w hS hs
  have H14 := fun w => c14 s w hs
  have HS : Hid (Signs w) := hS
  have HK : Hid (∀ t ∈ allL s, 0 ≤ t.k ∧ t.k ≤ 255) := all_kind s
  have hlen := all_len s
  obtain ⟨L, hL⟩ : ∃ L, allL s = L := ⟨_, rfl⟩
  rw [hL] at H13 H14 HK hlen
  obtain ⟨⟨ae, ap⟩, hA⟩ : ∃ x, allE s = x := ⟨_, rfl⟩
  rw [hA] at H13 H14
  clear hL hA hS
  have e1 : (ae != ae) = false := by simp
  have e2 : (ap != ap) = false := by simp
  go_enter Tryd.func4, Tryd.ntmps4
  go_wp2_with fail
  refine H13.mono ?_
  rintro e w1 ⟨v, rfl, hO1, hb1⟩
  have HO1 : Hid (w1.ownsRow w.heap.size 24 5 v L.length (flatT L)) := hO1
  clear hO1
  go_wp2_with fail
  refine (H14 _).mono ?_
  rintro e w2 ⟨u, rfl, hO2, hb2⟩
  have HO1 : Hid (w2.ownsRow w.heap.size 24 5 v L.length (flatT L)) := owns_below5 HO1.out hb2
  have HO2 : Hid (w2.ownsRow w1.heap.size 29 5 u L.length (flat29 L)) := hO2
  have hw2 : Hid (Below w.heap.size w w2) := hb1.trans (hb2.mono hb1.size)
  clear hO2 hb1 hb2
  go_wp2_with fail
  refine (c11 w2 (HS.out.below hw2.out)).mono ?_
  rintro e w3 ⟨rfl, hb3⟩
  have HO1 : Hid (w3.ownsRow w.heap.size 24 5 v L.length (flatT L)) := owns_below5 HO1.out hb3
  have HO2 : Hid (w3.ownsRow w1.heap.size 29 5 u L.length (flat29 L)) := owns_below5 HO2.out hb3
  have hw3 : Hid (Below w.heap.size w w3) := hw2.out.trans (hb3.mono hw2.out.size)
  clear hb3 hw2
  by_cases hL0 : L.length = 0
  · have f1 : v = .slice none 0 0 ∨ ∃ g cap, v = .slice (some ⟨g, 0, none⟩) 0 cap := by
      rcases HO1.out.2 with ⟨h1, _⟩ | ⟨g, cap, cur, h1, _⟩
      · exact .inl h1
      · exact .inr ⟨g, cap, by rw [h1, hL0]⟩
    have f2 : u = .slice none 0 0 ∨ ∃ g cap, u = .slice (some ⟨g, 0, none⟩) 0 cap := by
      rcases HO2.out.2 with ⟨h1, _⟩ | ⟨g, cap, cur, h1, _⟩
      · exact .inl h1
      · exact .inr ⟨g, cap, by rw [h1, hL0]⟩
    clear HO1 HO2
    rcases f1 with rfl | ⟨g1, cp1, rfl⟩ <;> rcases f2 with rfl | ⟨g2, cp2, rfl⟩
    all_goals
      go_wp2_with fail
      refine wp_loop_rounds 1 ?_
      rw [rounds_succ]
      go_wp2_with fail
      go_ret
      exact ⟨rfl, hw3.out⟩
  · obtain ⟨g1, cp1, hv, hr1⟩ := owns_range HO1.out (by omega)
    obtain ⟨g2, cp2, hu, hr2⟩ := owns_range HO2.out (by omega)
    have hg1 : g1 < w3.heap.size := (HO1.out.lt g1 (by rw [hv]; rfl)).2
    have hg2 : g2 < w3.heap.size := (HO2.out.lt g2 (by rw [hu]; rfl)).2
    subst hv hu
    have HR1 : Hid (w3.rangeAt g1 0 (L.flatMap T.vals)) := hr1
    have HR2 : Hid (w3.rangeAt g2 0 (L.flatMap T.vals29)) := hr2
    have e3 : ((L.length : Int) != (L.length : Int)) = false := by simp
    clear hr1 hr2 HO1 HO2 hL0
    go_wp2_with fail
    go_loopw [9] (fun i wr => ∃ k : Nat, k ≤ L.length ∧ i = .int .i64 k ∧ Below w3.heap.size w3 wr) (fun i _ => L.length - (intOf i).toNat)
    case atStart => exact ⟨0, Nat.zero_le _, rfl, Below.refl _ _⟩
    case round =>
      obtain ⟨k, hk, rfl, hbr⟩ := hrel
      by_cases hlt : k < L.length
      · have hlt' : (k : Int) < (L.length : Int) := by omega
        have hk0 : (0 : Int) ≤ (k : Int) := by omega
        have hc1 : ∀ j v, j < 5 → (T.vals L[k])[j]? = some v → wr.cell? ⟨g1, k * 5 + j, none⟩ = some v := fun j v hj hv => (hbr.cell (p := ⟨g1, k * 5 + j, none⟩) hg1).trans (tok_cells T.vals (fun _ => rfl) HR1.out k hlt j v hj hv)
        have hc2 : ∀ j v, j < 5 → (T.vals29 L[k])[j]? = some v → wr.cell? ⟨g2, k * 5 + j, none⟩ = some v := fun j v hj hv => (hbr.cell (p := ⟨g2, k * 5 + j, none⟩) hg2).trans (tok_cells T.vals29 (fun _ => rfl) HR2.out k hlt j v hj hv)
        have a0 := hc1 0 _ (by omega) rfl
        have a1 := hc1 1 _ (by omega) rfl
        have a2 := hc1 2 _ (by omega) rfl
        have a3 := hc1 3 _ (by omega) rfl
        have a4 := hc1 4 _ (by omega) rfl
        have b0 := hc2 0 _ (by omega) rfl
        have b1 := hc2 1 _ (by omega) rfl
        have b2 := hc2 2 _ (by omega) rfl
        have b3 := hc2 3 _ (by omega) rfl
        have b4 := hc2 4 _ (by omega) rfl
        rw [Nat.add_zero] at a0 b0
        have hkk := HK.out L[k] (List.getElem_mem hlt)
        have H12 := fun w => c12 L[k] w hkk.1 hkk.2
        generalize L[k] = x at *
        simp only [T.val, T.val29] at H12
        clear hc1 hc2 hkk
        go_wp2_with fail
        go_region_with (go_at_call 12; refine (H12 _).mono ?_; rintro e w' ⟨rfl, hb4⟩)
        all_goals go_wp2_with fail
        all_goals exact ⟨⟨k + 1, by omega, by go_num, (Below.drew hbr).trans (hb4.mono hbr.size)⟩, by simp [intOf]; omega⟩
      · have hlt' : ¬ ((k : Int) < (L.length : Int)) := by omega
        go_wp2_with fail
        go_ret
        exact ⟨rfl, hw3.out.trans (hbr.mono hw3.out.size)⟩
end Go.Proofs.YtampjlafhglceaaDoor
