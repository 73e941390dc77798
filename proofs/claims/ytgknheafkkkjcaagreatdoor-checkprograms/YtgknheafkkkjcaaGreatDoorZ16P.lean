/- Contract of HandProgram. -/
import Derived.Test.YtgknheafkkkjcaaGreatDoorZ15P
import Derived.Deep.RegionHeld3
import Derived.Deep.AppendLies
namespace Go.Proofs.YtgknheafkkkjcaaGreatDoor
open Go.RowKit
attribute [local go_sem ↓] Go.wp_at_zero Go.wp_at_succ
theorem HandR.form {w : World} {base : Nat} {u : Value} {ls : List (List C)} (h : HandR w base u ls) : ∃ ad cap, u = .slice ad ls.length cap := by
  obtain ⟨vs, h1, _⟩ := h
  exact owns_form h1
/-- A clause as HandProgram hands it. -/
def HandC (w : World) (x : ClV) (c : Cl) : Prop := (∃ g, HandT w x.hv c.hd g) ∧ (∃ B, HandR w B x.gv c.gs) ∧ (∃ B, HandR w B x.bv c.bs) ∧ x.n = c.n
theorem HandC.below {w w' : World} {x : ClV} {c : Cl} (h : HandC w x c) (hb : Below w.heap.size w w') : HandC w' x c := by
  obtain ⟨⟨g, h1⟩, ⟨B, h2⟩, ⟨B', h3⟩, h4⟩ := h
  exact ⟨⟨g, h1.below hb⟩, ⟨B, h2.below hb⟩, ⟨B', h3.below hb⟩, h4⟩
/-- The row of clauses as far as it is made: none, or a block of clauses whose first cell is a term. -/
def HandX (w : World) (base : Nat) (u : Value) (cs : List Cl) : Prop :=
  ∃ xs, w.ownsRow base 66 4 u cs.length (flatK xs) ∧ xs.length = cs.length ∧ (cs = [] → u.ownBlock = none) ∧ ∀ (i : Nat) (x : ClV) (c : Cl), xs[i]? = some x → cs[i]? = some c → HandC w x c
theorem HandX.below {w w' : World} {base : Nat} {u : Value} {cs : List Cl} (h : HandX w base u cs) (hb : Below w.heap.size w w') : HandX w' base u cs := by
  obtain ⟨xs, h1, h2, h3, h4⟩ := h
  exact ⟨xs, owns_below h1 hb, h2, h3, fun i x c hx hc => (h4 i x c hx hc).below hb⟩
/-- What its block is. -/
def Own66 (w : World) (o : Option Nat) : Prop := ∀ b, o = some b → (∃ cur, w.heap[b]? = some (.cells cur 66 (0, 0))) ∧ ∃ a n c, w.cell? ⟨b, 0, none⟩ = some (.slice a n c)
theorem HandX.own {w : World} {base : Nat} {u : Value} {cs : List Cl} (h : HandX w base u cs) : Own66 w u.ownBlock := by
  obtain ⟨xs, h1, h2, h3, h4⟩ := h
  intro b hb
  cases hc : cs with
  | nil => rw [h3 hc] at hb; cases hb
  | cons a r =>
    rcases h1.2 with ⟨e1, _⟩ | ⟨g, cap, cur, e1, e2, e3, e4, e5, e6, e7⟩
    · rw [e1] at hb; cases hb
    · rw [e1] at hb
      simp [Value.ownBlock] at hb
      subst hb
      refine ⟨⟨cur, e3⟩, ?_⟩
      have hx : 0 < xs.length := by rw [h2, hc]; simp
      obtain ⟨p0, _⟩ := clause_cells (range_of_owns e3 e7) 0 hx
      simp only [Nat.zero_mul, Nat.add_zero] at p0
      obtain ⟨⟨g', hT⟩, _⟩ := h4 0 xs[0] (cs[0]'(by rw [hc]; simp)) (List.getElem?_eq_getElem hx) (List.getElem?_eq_getElem (by rw [hc]; simp))
      rw [hT.1] at p0
      exact ⟨_, _, _, p0⟩
theorem HandT.far {w : World} {v : Value} {l : List C} {g : Nat} {o : Option Nat} (h : HandT w v l g) (ho : Own66 w o) : o ≠ some g := by
  intro e
  obtain ⟨_, a, n, c, hc⟩ := ho g e
  have hne : 0 < (handL l).length := by rw [handL_len]; omega
  obtain ⟨p0, _⟩ := term_cells h.2.1 0 hne
  simp only [Nat.zero_mul, Nat.add_zero] at p0
  rw [hc] at p0
  simp at p0
theorem HandR.far {w w' : World} {base : Nat} {u : Value} {ls : List (List C)} {o : Option Nat} (h : HandR w base u ls) (ho : Own66 w o) (hg : w.grownBy w' o) : HandR w' base u ls := by
  obtain ⟨vs, h1, h2, h3⟩ := h
  have hu : u.ownBlock = none ∨ u.ownBlock ≠ o := by
    rcases h1.2 with ⟨e1, _⟩ | ⟨g, cap, cur, e1, e2, e3, _⟩
    · left; rw [e1]; rfl
    · right
      intro e
      rw [e1] at e
      obtain ⟨⟨cur', hh⟩, _⟩ := ho g e.symm
      rw [e3] at hh
      simp at hh
  refine ⟨vs, h1.kept hg hu, h2, fun i v l hv hl => ?_⟩
  obtain ⟨g, h4, h5⟩ := h3 i v l hv hl
  exact ⟨g, h4.grown hg (h4.far ho), h5⟩
theorem HandC.far {w w' : World} {x : ClV} {c : Cl} {o : Option Nat} (h : HandC w x c) (ho : Own66 w o) (hg : w.grownBy w' o) : HandC w' x c := by
  obtain ⟨⟨g, h1⟩, ⟨B, h2⟩, ⟨B', h3⟩, h4⟩ := h
  exact ⟨⟨g, h1.grown hg (h1.far ho)⟩, ⟨B, h2.far ho hg⟩, ⟨B', h3.far ho hg⟩, h4⟩
abbrev HpS (w : World) (b o k : Nat) (A B D : Value) (n : Int) (w' : World) : Prop :=
  w'.cell? ⟨b, o + k * 4, none⟩ = some A ∧ w'.cell? ⟨b, o + k * 4 + 1, none⟩ = some B ∧ w'.cell? ⟨b, o + k * 4 + 2, none⟩ = some D ∧ w'.cell? ⟨b, o + k * 4 + 3, none⟩ = some (.int .i64 n) ∧ Hid (Below w.heap.size w w' ∧ b < w.heap.size)
theorem hpS_hb {w : World} {b o k : Nat} {A B D : Value} {n : Int} {w' : World} (h : HpS w b o k A B D n w') : Below w.heap.size w w' := h.2.2.2.2.out.1
theorem hpS_to {w : World} {b o k : Nat} {A B D : Value} {n : Int} {w' w'' : World} (h : HpS w b o k A B D n w') (hb : Below w.heap.size w w'') : HpS w b o k A B D n w'' := by
  obtain ⟨h1, h2, h3, h4, h5⟩ := h
  have h9 := h5.out
  have t : ∀ j u, w'.cell? ⟨b, j, none⟩ = some u → w''.cell? ⟨b, j, none⟩ = some u := fun j u hu =>
    (hb.cell (p := ⟨b, j, none⟩) h9.2).trans ((h9.1.cell (p := ⟨b, j, none⟩) h9.2).symm.trans hu)
  exact ⟨t _ _ h1, t _ _ h2, t _ _ h3, t _ _ h4, hb, h9.2⟩
theorem hpS_below {w : World} {b o k : Nat} {A B D : Value} {n : Int} {w' w'' : World} (h : HpS w b o k A B D n w') (hb : Below w'.heap.size w' w'') : HpS w b o k A B D n w'' :=
  hpS_to h ((hpS_hb h).trans (hb.mono (hpS_hb h).size))
theorem hpS_drew {w : World} {b o k : Nat} {A B D : Value} {n : Int} {w' : World} (h : HpS w b o k A B D n w') : HpS w b o k A B D n w'.drew :=
  hpS_to h (hpS_hb h).drew
theorem hpS_alloc {w : World} {b o k : Nat} {A B D : Value} {n : Int} {w' : World} (h : HpS w b o k A B D n w') (ob : Obj) : HpS w b o k A B D n (w'.alloc ob) :=
  hpS_to h ((hpS_hb h).alloc (hpS_hb h).size ob)
set_option maxRecDepth 100000 in
set_option maxHeartbeats 8000000 in
theorem k6h (cs : List Cl) (v : Value) (w : World) (hP : ProgAt w v cs) (F : Fits cs) (hB : ∀ c ∈ cs, 48 * c.hd.length ≤ 140737488355328 ∧ (∀ l ∈ c.gs, 48 * l.length ≤ 140737488355328) ∧ ∀ l ∈ c.bs, 48 * l.length ≤ 140737488355328) :
    Calls Tryz.prog 6 #[v] w fun e w' => ∃ u, e = .returned u ∧ HandX w' w.heap.size u cs ∧ Below w.heap.size w w' := by
  have HP : Hid (ProgAt w v cs) := hP
  have HF : Hid (Fits cs) := F
  have HB : Hid (∀ c ∈ cs, 48 * c.hd.length ≤ 140737488355328 ∧ (∀ l ∈ c.gs, 48 * l.length ≤ 140737488355328) ∧ ∀ l ∈ c.bs, 48 * l.length ≤ 140737488355328) := hB
  have hlen := F.len
  obtain ⟨i0, hi, hz, hs, hby⟩ := info38
  obtain ⟨ad, cap, hv⟩ := hP.form
  subst hv
  clear hP F hB
  go_enter Tryz.func6, Tryz.ntmps6
  go_wp2_with fail
  go_loopw [3, 4] (fun out i wr => ∃ k : Nat, k ≤ cs.length ∧ i = .int .i64 k ∧ Hid (HandX wr w.heap.size out (cs.take k)) ∧ Below w.heap.size w wr) (fun _ i _ => cs.length - (intOf i).toNat)
  case atStart => exact ⟨0, by omega, rfl, ⟨[], World.ownsRow_nil _ _ _ _, rfl, fun _ => rfl, fun i x c hx => by simp at hx⟩, Below.refl _ _⟩
  case round =>
    obtain ⟨k, hk, rfl, HI, hbr⟩ := hrel
    have hsz := hbr.size
    by_cases hlt : k < cs.length
    · have hlt' : (k : Int) < (cs.length : Int) := by omega
      have hk0 : (0 : Int) ≤ (k : Int) := by omega
      obtain ⟨b, o, cp, y, hu, ⟨p0, p1, p2, p3⟩, hC, hb⟩ := prog_at HP.out k hlt
      simp only [Value.slice.injEq] at hu
      obtain ⟨rfl, _, rfl⟩ := hu
      have HTk : Hid (cs.take (k + 1) = cs.take k ++ [cs[k]]) := List.take_succ_eq_append_getElem hlt
      obtain ⟨hB1, hB2, hB3⟩ := HB.out _ (List.getElem_mem hlt)
      have hgl := HF.out.gl _ (List.getElem_mem hlt)
      have hbl := HF.out.bl _ (List.getElem_mem hlt)
      have H28 : Hid (∀ W, Below w.heap.size w W → Calls Tryz.prog 28 #[y.hv] W fun e w' => ∃ g, e = .returned (.slice (some ⟨g, 0, none⟩) cs[k].hd.length (cs[k].hd.length + 9)) ∧ w'.rangeAt g 0 (flat (handL cs[k].hd)) ∧ g < w'.heap.size ∧ Below W.heap.size W w') := fun W hW => k21 cs[k].hd y.hv W (hC.1.below hW) hB1
      have H13g : Hid (∀ W, Below w.heap.size w W → Calls Tryz.prog 13 #[y.gv] W fun e w' => ∃ u, e = .returned u ∧ HandR w' W.heap.size u cs[k].gs ∧ Below W.heap.size W w') := fun W hW => k13h cs[k].gs y.gv W (hC.2.1.below hW) hgl hB2
      have H13b : Hid (∀ W, Below w.heap.size w W → Calls Tryz.prog 13 #[y.bv] W fun e w' => ∃ u, e = .returned u ∧ HandR w' W.heap.size u cs[k].bs ∧ Below W.heap.size W w') := fun W hW => k13h cs[k].bs y.bv W (hC.2.2.1.below hW) hbl hB3
      have HYn : Hid (y.n = cs[k].n) := hC.2.2.2
      obtain ⟨a1, c1, e1⟩ := hC.1.form
      obtain ⟨a2, c2, e2⟩ := hC.2.1.form
      obtain ⟨a3, c3, e3⟩ := hC.2.2.1.form
      rw [e1] at p0 H28
      rw [e2] at p1 H13g
      rw [e3] at p2 H13b
      clear hC e1 e2 e3 hB1 hB2 hB3 hgl hbl
      generalize cs[k] = c at *
      generalize y.n = yn at *
      have HL1 : Hid (∃ l1, l1 = c.hd.length) := ⟨_, rfl⟩
      obtain ⟨l1, hl1⟩ := HL1.out
      rw [← hl1] at p0 H28
      have HL : Hid (l1 = c.hd.length) := hl1
      clear hl1 HL1
      generalize c.gs.length = l2 at *
      generalize c.bs.length = l3 at *
      have hS0 : HpS w b o k (.slice a1 l1 c1) (.slice a2 l2 c2) (.slice a3 l3 c3) yn wr := hpS_to ⟨p0, p1, p2, p3, Below.refl _ _, hb⟩ hbr
      obtain ⟨q0, q1, q2, q3, _⟩ := hS0
      have hS0 : HpS w b o k (.slice a1 l1 c1) (.slice a2 l2 c2) (.slice a3 l3 c3) yn wr := hpS_to ⟨p0, p1, p2, p3, Below.refl _ _, hb⟩ hbr
      clear p0 p1 p2 p3 q0 q1 q2 q3
      go_wp2_with fail
      refine wp_region_noPanic ?_
      refine wp_region_held_drew (S := fun w' => HpS w b o k (.slice a1 l1 c1) (.slice a2 l2 c2) (.slice a3 l3 c3) yn w') (by kernel_rfl) (hpS_drew hS0) (fun hHeld => ?_)
      refine wpAnyH_take (i := 0) (v := ?_) (by simp only [List.getElem?_toArray, List.getElem?_cons_zero]; rfl) (by kernel_rfl) (by kernel_rfl) (by kernel_rfl) (fun _ _ _ h => h) (Or.inl ⟨by rfl, ?_⟩) (by assumption) ?_
      rotate_left
      · (intro w hSw; (try dsimp only at hSw); go_simp <;> with_reducible rfl)
      try simp only [Act.put, List.setIfInBounds_toArray, List.set_cons_zero, List.set_cons_succ]
      refine wpAnyH_take (i := 1) (v := ?_) (by simp only [List.getElem?_toArray, List.getElem?_cons_zero, List.getElem?_cons_succ]; rfl) (by kernel_rfl) (by kernel_rfl) (by kernel_rfl) (fun _ _ _ h => h) (Or.inl ⟨by rfl, ?_⟩) (by assumption) ?_
      rotate_left
      · (intro w hSw; (try dsimp only at hSw); go_simp <;> with_reducible rfl)
      try simp only [Act.put, List.setIfInBounds_toArray, List.set_cons_zero, List.set_cons_succ]
      refine wpAnyH_take (i := 2) (v := ?_) (by simp only [List.getElem?_toArray, List.getElem?_cons_zero, List.getElem?_cons_succ]; rfl) (by kernel_rfl) (by kernel_rfl) (by kernel_rfl) (fun _ _ _ h => h) (Or.inl ⟨by rfl, ?_⟩) (by assumption) ?_
      rotate_left
      · (intro w hSw; (try dsimp only at hSw); go_simp <;> with_reducible rfl)
      try simp only [Act.put, List.setIfInBounds_toArray, List.set_cons_zero, List.set_cons_succ]
      refine wpAnyH_take (i := 3) (v := ?_) (by simp only [List.getElem?_toArray, List.getElem?_cons_zero, List.getElem?_cons_succ]; rfl) (by kernel_rfl) (by kernel_rfl) (by kernel_rfl) (fun _ _ _ h => h) (Or.inl ⟨by rfl, ?_⟩) (by assumption) ?_
      rotate_left
      · (intro w hSw; (try dsimp only at hSw); go_simp <;> with_reducible rfl)
      try simp only [Act.put, List.setIfInBounds_toArray, List.set_cons_zero, List.set_cons_succ]
      refine wpAnyH_take (i := 4) (v := ?_) (by simp only [List.getElem?_toArray, List.getElem?_cons_zero, List.getElem?_cons_succ]; rfl) (by kernel_rfl) (by kernel_rfl) (by kernel_rfl) (fun _ _ _ h => h) (Or.inl ⟨by rfl, ?_⟩) (by assumption) ?_
      rotate_left
      · (intro w hSw; (try dsimp only at hSw); go_simp <;> with_reducible rfl)
      try simp only [Act.put, List.setIfInBounds_toArray, List.set_cons_zero, List.set_cons_succ]
      refine wpAnyH_take (i := 5) (v := ?_) (by simp only [List.getElem?_toArray, List.getElem?_cons_zero, List.getElem?_cons_succ]; rfl) (by kernel_rfl) (by kernel_rfl) (by kernel_rfl) (fun _ _ _ h => h) (Or.inl ⟨by rfl, ?_⟩) (by assumption) ?_
      rotate_left
      · (intro w hSw; (try dsimp only at hSw); go_simp <;> with_reducible rfl)
      try simp only [Act.put, List.setIfInBounds_toArray, List.set_cons_zero, List.set_cons_succ]
      refine wpAnyH_take (i := 7) (v := ?_) (by simp only [List.getElem?_toArray, List.getElem?_cons_zero, List.getElem?_cons_succ]; rfl) (by kernel_rfl) (by kernel_rfl) (by kernel_rfl) (fun _ _ _ h => h) (Or.inl ⟨by rfl, ?_⟩) (by assumption) ?_
      rotate_left
      · (intro w hSw; (try dsimp only at hSw); go_simp <;> with_reducible rfl)
      try simp only [Act.put, List.setIfInBounds_toArray, List.set_cons_zero, List.set_cons_succ]
      refine wpAnyH_take (i := 8) (v := ?_) (by simp only [List.getElem?_toArray, List.getElem?_cons_zero, List.getElem?_cons_succ]; rfl) (by kernel_rfl) (by kernel_rfl) (by kernel_rfl) (fun _ _ _ h => h) (Or.inl ⟨by rfl, ?_⟩) (by assumption) ?_
      rotate_left
      · (intro w hSw; (try dsimp only at hSw); go_simp <;> with_reducible rfl)
      try simp only [Act.put, List.setIfInBounds_toArray, List.set_cons_zero, List.set_cons_succ]
      refine wpAnyH_take (i := 9) (v := ?_) (by simp only [List.getElem?_toArray, List.getElem?_cons_zero, List.getElem?_cons_succ]; rfl) (by kernel_rfl) (by kernel_rfl) (by kernel_rfl) (fun _ _ _ h => h) (Or.inl ⟨by rfl, ?_⟩) (by assumption) ?_
      rotate_left
      · (intro w hSw; (try dsimp only at hSw); go_simp <;> with_reducible rfl)
      try simp only [Act.put, List.setIfInBounds_toArray, List.set_cons_zero, List.set_cons_succ]
      refine wpAnyH_take (i := 10) (v := ?_) (by simp only [List.getElem?_toArray, List.getElem?_cons_zero, List.getElem?_cons_succ]; rfl) (by kernel_rfl) (by kernel_rfl) (by kernel_rfl) (fun _ _ _ h => h) (Or.inl ⟨by rfl, ?_⟩) (by assumption) ?_
      rotate_left
      · (intro w hSw; (try dsimp only at hSw); go_simp <;> with_reducible rfl)
      try simp only [Act.put, List.setIfInBounds_toArray, List.set_cons_zero, List.set_cons_succ]
      refine wpAnyH_take (i := 11) (v := ?_) (by simp only [List.getElem?_toArray, List.getElem?_cons_zero, List.getElem?_cons_succ]; rfl) (by kernel_rfl) (by kernel_rfl) (by kernel_rfl) (fun _ _ _ h => h) (Or.inl ⟨by rfl, ?_⟩) (by assumption) ?_
      rotate_left
      · (intro w hSw; (try dsimp only at hSw); go_simp <;> with_reducible rfl)
      try simp only [Act.put, List.setIfInBounds_toArray, List.set_cons_zero, List.set_cons_succ]
      refine wpAnyH_take (i := 13) (v := ?_) (by simp only [List.getElem?_toArray, List.getElem?_cons_zero, List.getElem?_cons_succ]; rfl) (by kernel_rfl) (by kernel_rfl) (by kernel_rfl) (fun _ _ _ h => h) (Or.inl ⟨by rfl, ?_⟩) (by assumption) ?_
      rotate_left
      · (intro w hSw; (try dsimp only at hSw); go_simp <;> with_reducible rfl)
      try simp only [Act.put, List.setIfInBounds_toArray, List.set_cons_zero, List.set_cons_succ]
      refine wpAnyH_take (i := 14) (v := ?_) (by simp only [List.getElem?_toArray, List.getElem?_cons_zero, List.getElem?_cons_succ]; rfl) (by kernel_rfl) (by kernel_rfl) (by kernel_rfl) (fun _ _ _ h => h) (Or.inl ⟨by rfl, ?_⟩) (by assumption) ?_
      rotate_left
      · (intro w hSw; (try dsimp only at hSw); go_simp <;> with_reducible rfl)
      try simp only [Act.put, List.setIfInBounds_toArray, List.set_cons_zero, List.set_cons_succ]
      refine wpAnyH_take (i := 15) (v := ?_) (by simp only [List.getElem?_toArray, List.getElem?_cons_zero, List.getElem?_cons_succ]; rfl) (by kernel_rfl) (by kernel_rfl) (by kernel_rfl) (fun _ _ _ h => h) (Or.inl ⟨by rfl, ?_⟩) (by assumption) ?_
      rotate_left
      · (intro w hSw; (try dsimp only at hSw); go_simp <;> with_reducible rfl)
      try simp only [Act.put, List.setIfInBounds_toArray, List.set_cons_zero, List.set_cons_succ]
      refine wpAnyH_take (i := 16) (v := ?_) (by simp only [List.getElem?_toArray, List.getElem?_cons_zero, List.getElem?_cons_succ]; rfl) (by kernel_rfl) (by kernel_rfl) (by kernel_rfl) (fun _ _ _ h => h) (Or.inl ⟨by rfl, ?_⟩) (by assumption) ?_
      rotate_left
      · (intro w hSw; (try dsimp only at hSw); go_simp <;> with_reducible rfl)
      try simp only [Act.put, List.setIfInBounds_toArray, List.set_cons_zero, List.set_cons_succ]
      refine wpAnyH_take (i := 17) (v := ?_) (by simp only [List.getElem?_toArray, List.getElem?_cons_zero, List.getElem?_cons_succ]; rfl) (by kernel_rfl) (by kernel_rfl) (by kernel_rfl) (fun _ _ _ h => h) (Or.inl ⟨by rfl, ?_⟩) (by assumption) ?_
      rotate_left
      · (intro w hSw; (try dsimp only at hSw); go_simp <;> with_reducible rfl)
      try simp only [Act.put, List.setIfInBounds_toArray, List.set_cons_zero, List.set_cons_succ]
      refine wpAnyH_take (i := 19) (v := ?_) (by simp only [List.getElem?_toArray, List.getElem?_cons_zero, List.getElem?_cons_succ]; rfl) (by kernel_rfl) (by kernel_rfl) (by kernel_rfl) (fun _ _ _ h => h) (Or.inl ⟨by rfl, ?_⟩) (by assumption) ?_
      rotate_left
      · (intro w hSw; (try dsimp only at hSw); go_simp <;> with_reducible rfl)
      try simp only [Act.put, List.setIfInBounds_toArray, List.set_cons_zero, List.set_cons_succ]
      refine wpAnyH_take (i := 20) (v := ?_) (by simp only [List.getElem?_toArray, List.getElem?_cons_zero, List.getElem?_cons_succ]; rfl) (by kernel_rfl) (by kernel_rfl) (by kernel_rfl) (fun _ _ _ h => h) (Or.inl ⟨by rfl, ?_⟩) (by assumption) ?_
      rotate_left
      · (intro w hSw; (try dsimp only at hSw); go_simp <;> with_reducible rfl)
      try simp only [Act.put, List.setIfInBounds_toArray, List.set_cons_zero, List.set_cons_succ]
      refine wpAnyH_take (i := 21) (v := ?_) (by simp only [List.getElem?_toArray, List.getElem?_cons_zero, List.getElem?_cons_succ]; rfl) (by kernel_rfl) (by kernel_rfl) (by kernel_rfl) (fun _ _ _ h => h) (Or.inl ⟨by rfl, ?_⟩) (by assumption) ?_
      rotate_left
      · (intro w hSw; (try dsimp only at hSw); go_simp <;> with_reducible rfl)
      try simp only [Act.put, List.setIfInBounds_toArray, List.set_cons_zero, List.set_cons_succ]
      refine wpAnyH_take (i := 22) (v := ?_) (by simp only [List.getElem?_toArray, List.getElem?_cons_zero, List.getElem?_cons_succ]; rfl) (by kernel_rfl) (by kernel_rfl) (by kernel_rfl) (fun _ _ _ h => h) (Or.inl ⟨by rfl, ?_⟩) (by assumption) ?_
      rotate_left
      · (intro w hSw; (try dsimp only at hSw); go_simp <;> with_reducible rfl)
      try simp only [Act.put, List.setIfInBounds_toArray, List.set_cons_zero, List.set_cons_succ]
      refine wpAnyH_take (i := 23) (v := ?_) (by simp only [List.getElem?_toArray, List.getElem?_cons_zero, List.getElem?_cons_succ]; rfl) (by kernel_rfl) (by kernel_rfl) (by kernel_rfl) (fun _ _ _ h => h) (Or.inl ⟨by rfl, ?_⟩) (by assumption) ?_
      rotate_left
      · (intro w hSw; (try dsimp only at hSw); go_simp <;> with_reducible rfl)
      try simp only [Act.put, List.setIfInBounds_toArray, List.set_cons_zero, List.set_cons_succ]
      refine wpAnyH_ready (rs := [6]) (by kernel_rfl) (by simp) ?_
      refine AllReadyH.cons (by simp only [List.getElem?_toArray, List.getElem?_cons_zero, List.getElem?_cons_succ]; rfl) (fun K hK => ?_) AllReadyH.nil
      go_simp
      go_at_call 28
      refine (H28.out _ (hpS_hb (by assumption))).mono ?_
      rintro e w2 ⟨g, rfl, hr2, hg2, hb2⟩
      refine hK.out _ _ ?_ (fun hHeld => ?_)
      · exact hpS_below (by assumption) hb2
      clear hK K
      try simp only [Act.put, List.setIfInBounds_toArray, List.set_cons_zero, List.set_cons_succ]
      refine wpAnyH_ready (rs := [12]) (by kernel_rfl) (by simp) ?_
      refine AllReadyH.cons (by simp only [List.getElem?_toArray, List.getElem?_cons_zero, List.getElem?_cons_succ]; rfl) (fun K hK => ?_) AllReadyH.nil
      go_simp
      go_at_call 13
      refine (H13g.out _ (hpS_hb (by assumption))).mono ?_
      rintro e w3 ⟨u3', rfl, hH3, hb3⟩
      refine hK.out _ _ ?_ (fun hHeld => ?_)
      · exact hpS_below (by assumption) hb3
      clear hK K
      try simp only [Act.put, List.setIfInBounds_toArray, List.set_cons_zero, List.set_cons_succ]
      refine wpAnyH_ready (rs := [18]) (by kernel_rfl) (by simp) ?_
      refine AllReadyH.cons (by simp only [List.getElem?_toArray, List.getElem?_cons_zero, List.getElem?_cons_succ]; rfl) (fun K hK => ?_) AllReadyH.nil
      go_simp
      go_at_call 13
      refine (H13b.out _ (hpS_hb (by assumption))).mono ?_
      rintro e w4 ⟨u4', rfl, hH4, hb4⟩
      refine hK.out _ _ ?_ (fun hHeld => ?_)
      · exact hpS_below (by assumption) hb4
      clear hK K
      try simp only [Act.put, List.setIfInBounds_toArray, List.set_cons_zero, List.set_cons_succ]
      obtain ⟨au3, cu3, hu3⟩ := hH3.form
      obtain ⟨au4, cu4, hu4⟩ := hH4.form
      subst hu3 hu4
      have hb24 := hb3.trans (hb4.mono hb3.size)
      have HC4 : Hid (HandC w4 ⟨.slice (some ⟨g, 0, none⟩) l1 (l1 + 9), .slice au3 c.gs.length cu3, .slice au4 c.bs.length cu4, yn⟩ c) := by
        refine ⟨⟨g, ?_⟩, ⟨_, hH3.below hb4⟩, ⟨_, hH4⟩, HYn.out⟩
        have hT : HandT w2 (.slice (some ⟨g, 0, none⟩) l1 (l1 + 9)) c.hd g := ⟨by rw [HL.out], hr2, hg2⟩
        exact hT.below hb24
      have hbr4 : Below wr.heap.size wr w4 := ((Below.drew (Below.refl _ _)).trans hb2).trans (hb24.mono (by have := hb2.size; exact this))
      have HX4 : Hid (HandX w4 w.heap.size u3 (cs.take k)) := HI.out.below hbr4
      have hbw4 : Below w.heap.size w w4 := hbr.trans (hbr4.mono hsz)
      have hsz4 := hbw4.size
      clear hr2 hg2 hb2 hb3 hb4 hb24 hH3 hH4 hbr4
      generalize c.gs.length = m2 at *
      generalize c.bs.length = m3 at *
      obtain ⟨xs, hO, hxl, hx0, hxs⟩ := HX4.out
      have HXs : Hid (xs.length = (cs.take k).length ∧ ∀ (i : Nat) (x : ClV) (c : Cl), xs[i]? = some x → (cs.take k)[i]? = some c → HandC w4 x c) := ⟨hxl, hxs⟩
      have hkl : (cs.take k).length = k := by rw [List.length_take]; omega
      rw [hkl] at hO
      have HOa : Hid ((w4.alloc (.cells #[.slice (some ⟨g, 0, none⟩) l1 (l1 + 9), .slice au3 m2 cu3, .slice au4 m3 cu4, .int .i64 yn] 66)).ownsRow w.heap.size 66 4 u3 k (flatK xs)) := hO.alloc _
      have HOwn : Hid (Own66 (w4.alloc (.cells #[.slice (some ⟨g, 0, none⟩) l1 (l1 + 9), .slice au3 m2 cu3, .slice au4 m3 cu4, .int .i64 yn] 66)) u3.ownBlock) := (HX4.out.below (below_alloc _ _)).own
      clear hO hxl hx0 hxs
      refine wpAnyH_take (i := 24) (v := ?_) (by simp only [List.getElem?_toArray, List.getElem?_cons_zero, List.getElem?_cons_succ]; rfl) (by kernel_rfl) (by kernel_rfl) (by kernel_rfl) (fun _ _ _ h => h) (Or.inl ⟨by rfl, ?_⟩) (by assumption) ?_
      rotate_left
      · (intro w hSw; (try dsimp only at hSw); go_simp <;> with_reducible rfl)
      try simp only [Act.put, List.setIfInBounds_toArray, List.set_cons_zero, List.set_cons_succ]
      refine wpAnyH_ready (rs := [25]) (by kernel_rfl) (by simp) ?_
      refine AllReadyH.cons (by simp only [List.getElem?_toArray, List.getElem?_cons_zero, List.getElem?_cons_succ]; rfl) (fun K hK => ?_) AllReadyH.nil
      go_simp
      refine hK.out _ _ ?_ (fun hHeld => ?_)
      · exact hpS_alloc (by assumption) _
      clear hK K
      try simp only [Act.put, List.setIfInBounds_toArray, List.set_cons_zero, List.set_cons_succ]
      refine wpAnyH_ready (rs := [26]) (by kernel_rfl) (by simp) ?_
      refine AllReadyH.cons (by simp only [List.getElem?_toArray, List.getElem?_cons_zero, List.getElem?_cons_succ]; rfl) (fun K hK => ?_) AllReadyH.nil
      refine step_append_lies _ (by rfl) _ _ _ (by rfl) w.heap.size 66 i0 _ 4 80 Tryz.underlying23 hi hz hs hby rfl (by omega) u3 k (flatK xs) (by rfl) HOa.out ⟨w4.heap.size, 0, none⟩ 1 1 [.slice (some ⟨g, 0, none⟩) l1 (l1 + 9), .slice au3 m2 cu3, .slice au4 m3 cu4, .int .i64 yn] (by rfl) (by rfl) (World.news_of_block (cs := #[.slice (some ⟨g, 0, none⟩) l1 (l1 + 9), .slice au3 m2 cu3, .slice au4 m3 cu4, .int .i64 yn]) (t := 66) (fr := (0, 0)) (heap_alloc_new w4 _)) (by simp [Value.oneCell']) (by omega) (by unfold maxLen; omega) (by omega) (by simp; omega) (w4.heap.size + 1) (by simp) ?_
      intro gg cp5 w5 hown5 hgr5 hloc5 hlt5
      have HB5 : Hid (Below w.heap.size w w5) := (hbw4.alloc hsz4 _).grown hgr5 (by simp; omega) (fun q hq => (HOa.out.lt q hq).1)
      have HF : Hid (HandX w5 w.heap.size (.slice (some ⟨gg, 0, none⟩) (k + 1) cp5) (cs.take (k + 1))) := by
        refine ⟨xs ++ [⟨.slice (some ⟨g, 0, none⟩) l1 (l1 + 9), .slice au3 m2 cu3, .slice au4 m3 cu4, yn⟩], ?_, ?_, ?_, ?_⟩
        · have e : (cs.take (k + 1)).length = k + 1 := by rw [List.length_take]; omega
          rw [e, flatK_append]; exact hown5
        · rw [HTk.out, List.length_append, List.length_append, HXs.out.1]; rfl
        · intro h
          rw [HTk.out] at h
          simp at h
        · intro i x d hx hd
          rw [HTk.out] at hd
          by_cases hi' : i < xs.length
          · rw [List.getElem?_append_left hi'] at hx
            rw [List.getElem?_append_left (by rw [← HXs.out.1]; exact hi')] at hd
            exact ((HXs.out.2 i x d hx hd).below (below_alloc _ _)).far HOwn.out hgr5
          · rw [List.getElem?_append_right (by omega)] at hx
            rw [List.getElem?_append_right (by rw [← HXs.out.1]; omega), ← HXs.out.1] at hd
            have h0 : i - xs.length = 0 := by
              have := (List.getElem?_eq_some_iff.1 hx).1
              simp at this; omega
            rw [h0] at hx hd
            simp at hx hd
            subst hx hd
            exact (HC4.out.below (below_alloc _ _)).far HOwn.out hgr5
      clear hown5 hgr5 hloc5 hlt5
      refine hK.out _ _ ?_ (fun hHeld => ?_)
      · exact hpS_to (by assumption) HB5.out
      clear hK K
      try simp only [Act.put, List.setIfInBounds_toArray, List.set_cons_zero, List.set_cons_succ]
      refine wpAnyH_take (i := 27) (v := ?_) (by simp only [List.getElem?_toArray, List.getElem?_cons_zero, List.getElem?_cons_succ]; rfl) (by kernel_rfl) (by kernel_rfl) (by kernel_rfl) (fun _ _ _ h => h) (Or.inl ⟨by rfl, ?_⟩) (by assumption) ?_
      rotate_left
      · (intro w hSw; (try dsimp only at hSw); go_simp <;> with_reducible rfl)
      try simp only [Act.put, List.setIfInBounds_toArray, List.set_cons_zero, List.set_cons_succ]
      refine wpAnyH_done (by kernel_rfl) ?_ _
      refine NoPanic.normal ?_
      go_wp2_with fail
      go_roundw
      case rel => exact ⟨k + 1, by omega, by go_num, HF, HB5.out⟩
      case measure => simp [intOf]; omega
    · have hlt' : ¬ ((k : Int) < (cs.length : Int)) := by omega
      rw [List.take_of_length_le (by omega)] at HI
      go_wp2_with fail
      go_ret
      exact ⟨_, rfl, HI.out, hbr⟩
end Go.Proofs.YtgknheafkkkjcaaGreatDoor
