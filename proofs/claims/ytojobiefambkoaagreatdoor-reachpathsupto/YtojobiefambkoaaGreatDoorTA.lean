/- Plain: a rising row by putting names in; the document's row of what is reached. The document's Value of a nil map; its variables of a value. The document's variables of a variable's value. -/
import Derived.Test.YtojobiefambkoaaGreatDoorXA
import Derived.Test.YtojobiefambkoaaGreatDoorGQ
namespace Go.Proofs.YtojobiefambkoaaGreatDoor
open Go.RowKit
attribute [local go_sem ↓] Go.wp_at_zero Go.wp_at_succ
def insR : List Nm → Nm → List Nm
  | [], x => [x]
  | y :: r, x => if lessN y x then y :: insR r x else if y = x then y :: r else x :: y :: r
theorem insR_mem (x z : Nm) : ∀ l, z ∈ insR l x ↔ z = x ∨ z ∈ l
  | [] => by simp [insR]
  | y :: r => by
    unfold insR
    split
    · rw [List.mem_cons, insR_mem x z r, List.mem_cons]
      constructor
      · rintro (h | h | h)
        · exact .inr (.inl h)
        · exact .inl h
        · exact .inr (.inr h)
      · rintro (h | h | h)
        · exact .inr (.inl h)
        · exact .inl h
        · exact .inr (.inr h)
    · split
      · next e =>
        subst e
        constructor
        · exact fun h => .inr h
        · rintro (h | h)
          · rw [h]; exact List.mem_cons_self ..
          · exact h
      · rw [List.mem_cons]
theorem insR_up (x : Nm) : ∀ l : List Nm, l.Pairwise ltN → (insR l x).Pairwise ltN
  | [], _ => by simp [insR]
  | y :: r, h => by
    obtain ⟨h1, h2⟩ := List.pairwise_cons.1 h
    unfold insR
    split
    · next hl =>
      refine List.pairwise_cons.2 ⟨fun z hz => ?_, insR_up x r h2⟩
      rcases (insR_mem x z r).1 hz with rfl | hz
      · exact (ltN_less _ _).2 hl
      · exact h1 z hz
    · next hl =>
      split
      · exact h
      · next hne =>
        have hxy : ltN x y := ltN_tri x y (fun hh => hl ((ltN_less _ _).1 hh)) (fun e => hne e.symm)
        refine List.pairwise_cons.2 ⟨fun z hz => ?_, h⟩
        rcases List.mem_cons.1 hz with rfl | hz
        · exact hxy
        · exact ltN_tr _ _ _ hxy (h1 z hz)
theorem insR_at (x : Nm) : ∀ (l : List Nm) (k : Nat), k ≤ l.length → (∀ j y, j < k → l[j]? = some y → lessN y x = true) → (∀ y, l[k]? = some y → lessN y x = false) → insR l x = l.take k ++ x :: l.drop (if l[k]? = some x then k + 1 else k)
  | [], k, hk, _, _ => by
    obtain rfl : k = 0 := by simpa using hk
    simp [insR]
  | y :: r, 0, _, _, h2 => by
    have hl := h2 y rfl
    unfold insR
    rw [if_neg (by rw [hl]; simp)]
    by_cases e : y = x
    · subst e; simp
    · simp [e]
  | y :: r, k + 1, hk, h1, h2 => by
    have hl := h1 0 y (by omega) rfl
    unfold insR
    rw [if_pos hl, insR_at x r k (by simpa using hk) (fun j z hj hz => h1 (j + 1) z (by omega) (by simpa using hz)) (fun z hz => h2 z (by simpa using hz))]
    simp only [List.getElem?_cons_succ, List.take_succ_cons, List.cons_append]
    split <;> simp
def risR (l : List Nm) : List Nm := l.foldl insR []
theorem risR_snoc (l : List Nm) (x : Nm) : risR (l ++ [x]) = insR (risR l) x := by simp [risR]
theorem insR_len (x : Nm) : ∀ l, (insR l x).length ≤ l.length + 1
  | [] => by simp [insR]
  | y :: r => by
    have := insR_len x r
    unfold insR
    split
    · simp only [List.length_cons]; omega
    · split <;> simp
theorem risR_len (l : List Nm) : (risR l).length ≤ l.length := by
  refine snoc_ind (p := fun l => (risR l).length ≤ l.length) (by simp [risR]) (fun l x ih => ?_) l
  rw [risR_snoc, List.length_append]
  have := insR_len x (risR l)
  simp only [List.length_cons, List.length_nil]
  omega
theorem risR_upn (l : List Nm) : UpN (· ∈ l) (risR l) := by
  refine snoc_ind (p := fun l => UpN (· ∈ l) (risR l)) ⟨fun x => by simp [risR], by simp [risR]⟩ (fun l x ih => ?_) l
  rw [risR_snoc]
  refine ⟨fun z => ?_, insR_up x _ ih.up⟩
  rw [insR_mem, ih.all, List.mem_append, List.mem_singleton]
  exact Or.comm
/-- The document's row while it is gone through: i of them are. -/
structure NdL (m : Hp) (rs l : List Nm) (i : Nat) : Prop where
  nod : l.Nodup
  root : ∀ x ∈ rs, x ∈ l
  cl : ∀ j y, j < i → l[j]? = some y → ∀ z ∈ leadsH m y, z ∈ l
  rch : ∀ x ∈ l, Rch m rs x
theorem addN_fold_mem (xs acc : List Nm) (y : Nm) : y ∈ xs.foldl addN acc ↔ y ∈ acc ∨ y ∈ xs := by
  refine snoc_ind (p := fun xs => y ∈ xs.foldl addN acc ↔ y ∈ acc ∨ y ∈ xs) (by simp) (fun l a ih => ?_) xs
  rw [List.foldl_append, List.foldl_cons, List.foldl_nil]
  constructor
  · intro h
    rcases addN_mem _ _ _ h with h | h
    · rcases ih.1 h with h | h
      · exact .inl h
      · exact .inr (List.mem_append.2 (.inl h))
    · exact .inr (List.mem_append.2 (.inr (by simp [h])))
  · rintro (h | h)
    · exact addN_in _ _ _ (.inl (ih.2 (.inl h)))
    · rcases List.mem_append.1 h with h | h
      · exact addN_in _ _ _ (.inl (ih.2 (.inr h)))
      · exact addN_in _ _ _ (.inr (by simpa using h))
theorem addN_pre (acc : List Nm) (x : Nm) : acc <+: addN acc x := by
  unfold addN
  split
  · exact List.prefix_refl _
  · exact List.prefix_append _ _
theorem addN_fold_pre (xs acc : List Nm) : acc <+: xs.foldl addN acc := by
  refine snoc_ind (p := fun xs => acc <+: xs.foldl addN acc) (List.prefix_refl _) (fun l a ih => ?_) xs
  rw [List.foldl_append, List.foldl_cons, List.foldl_nil]
  exact ih.trans (addN_pre _ _)
theorem addN_nod {acc : List Nm} (x : Nm) (h : acc.Nodup) : (addN acc x).Nodup := by
  unfold addN
  split
  · exact h
  · next hh =>
    rw [List.nodup_append]
    refine ⟨h, by simp, fun a ha b hb e => ?_⟩
    rw [List.mem_singleton] at hb
    subst e hb
    exact hh ((hasN_iff _ _).2 ha)
theorem addN_fold_nod {acc : List Nm} (xs : List Nm) (h : acc.Nodup) : (xs.foldl addN acc).Nodup := by
  refine snoc_ind (p := fun xs => (xs.foldl addN acc).Nodup) h (fun l a ih => ?_) xs
  rw [List.foldl_append, List.foldl_cons, List.foldl_nil]
  exact addN_nod _ ih
theorem NdL.len {m : Hp} {rs l : List Nm} {i : Nat} (h : NdL m rs l i) : l.length ≤ (univ m rs).length := nodup_le h.nod fun x hx => rch_univ (h.rch x hx)
theorem ndL_first (m : Hp) (rs : List Nm) : NdL m rs (nubN rs) 0 :=
  ⟨addN_fold_nod rs List.nodup_nil, fun x hx => nubN_mem_of _ _ hx, fun j y hj => by omega, fun x hx => .root (nubN_mem _ _ hx)⟩
theorem NdL.part {m : Hp} {rs l : List Nm} {i : Nat} (h : NdL m rs l i) {y : Nm} (hy : l[i]? = some y) (k : Nat) : NdL m rs (((leadsH m y).take k).foldl addN l) i := by
  obtain ⟨r, hr⟩ := addN_fold_pre ((leadsH m y).take k) l
  refine ⟨addN_fold_nod _ h.nod, fun x hx => (addN_fold_mem _ _ _).2 (.inl (h.root x hx)), fun j z hj hz u hu => ?_, fun x hx => ?_⟩
  · have hi : i < l.length := (List.getElem?_eq_some_iff.1 hy).1
    rw [← hr, List.getElem?_append_left (by omega)] at hz
    exact (addN_fold_mem _ _ _).2 (.inl (h.cl j z hj hz u hu))
  · rcases (addN_fold_mem _ _ _).1 hx with hx | hx
    · exact h.rch x hx
    · exact .step (h.rch y (List.mem_of_getElem? hy)) (List.mem_of_mem_take hx)
theorem NdL.step {m : Hp} {rs l : List Nm} {i : Nat} (h : NdL m rs l i) {y : Nm} (hy : l[i]? = some y) : NdL m rs ((leadsH m y).foldl addN l) (i + 1) := by
  have h1 := h.part hy (leadsH m y).length
  rw [List.take_length] at h1
  obtain ⟨r, hr⟩ := addN_fold_pre (leadsH m y) l
  refine ⟨h1.nod, h1.root, fun j z hj hz u hu => ?_, h1.rch⟩
  by_cases e : j < i
  · exact h1.cl j z e hz u hu
  · obtain rfl : j = i := by omega
    have hi : j < l.length := (List.getElem?_eq_some_iff.1 hy).1
    rw [← hr, List.getElem?_append_left (by omega), hy] at hz
    cases hz
    exact (addN_fold_mem _ _ _).2 (.inr hu)
theorem NdL.done {m : Hp} {rs l : List Nm} (h : NdL m rs l l.length) : UpN (Rch m rs) (risR l) := by
  have h1 := risR_upn l
  refine ⟨fun x => (h1.all x).trans ⟨h.rch x, fun hx => ?_⟩, h1.up⟩
  induction hx with
  | root hx => exact h.root _ hx
  | step _ k ih =>
    obtain ⟨j, hj, e⟩ := List.getElem_of_mem ih
    exact h.cl j _ hj (by rw [List.getElem?_eq_getElem hj, e]) _ k
set_option maxRecDepth 100000 in
set_option maxHeartbeats 2000000 in
theorem n58 (x1 x2 : Int) (w : World) : Calls Tryz.prog 58 #[.pointer none, .agg #[.int .i64 x1, .int .i64 x2]] w fun e w' => e = .returned (.int .i64 (-1)) ∧ Below w.heap.size w w' := by
  have hb : Hid (Below w.heap.size w (w.alloc (.cells #[.int .i64 x1, .int .i64 x2] 49))) := (Below.refl _ w).alloc (Nat.le_refl _) _
  go_enter Tryz.func58, Tryz.ntmps58
  go_wp2_with fail
  go_loopw [5] (fun i wr => i = .int .i64 0 ∧ Hid (Below w.heap.size w wr)) (fun _ _ => 0)
  case atStart => exact ⟨rfl, hb⟩
  case round =>
    obtain ⟨rfl, HB⟩ := hrel
    clear hb
    go_wp2_with fail
    go_ret
    exact ⟨rfl, HB.out⟩
set_option maxRecDepth 100000 in
set_option maxHeartbeats 2000000 in
theorem n69 (x1 x2 : Int) (w : World) : Calls Tryz.prog 69 #[.pointer none, .agg #[.int .i64 x1, .int .i64 x2]] w fun e w' => e = .returned (.tuple #[.slice none 0 0, .bool false]) ∧ Below w.heap.size w w' := by
  have hb : Hid (Below w.heap.size w (w.alloc (.cells #[.int .i64 x1, .int .i64 x2] 49))) := (Below.refl _ w).alloc (Nat.le_refl _) _
  go_enter Tryz.func69, Tryz.ntmps69
  go_wp2_with fail
  refine (n58 x1 x2 _).mono ?_
  rintro e w1 ⟨rfl, hb1⟩
  have HB : Hid (Below w.heap.size w w1) := hb.out.trans (hb1.mono hb.out.size)
  clear hb hb1
  go_wp2_with fail
  exact bodyPost_ret (v := .tuple #[.slice none 0 0, .bool false]) (by simp [results, Tryz.results69, go_sem]) rfl ⟨rfl, HB.out⟩
/-- The document's map in memory, or none. -/
def RfV (w : World) (p : Value) (m : Hp) : Prop := (p = .pointer none ∧ m = []) ∨ ∃ rt G bs, p = .pointer (some ⟨rt, 0, none⟩) ∧ RfH w G rt bs ∧ hpOf bs = m ∧ bs.length ≤ 4000000000000
theorem RfV.below {w w' : World} {p : Value} {m : Hp} (h : RfV w p m) (hb : Below w.heap.size w w') : RfV w' p m := by
  rcases h with h | ⟨rt, G, bs, h1, h2, h3⟩
  · exact .inl h
  · exact .inr ⟨rt, G, bs, h1, h2.below hb, h3⟩
/-- What the document's Value tells. -/
theorem st69 {w : World} {p : Value} {m : Hp} (h : RfV w p m) (x : Nm) (hup : RisesH m) : Calls Tryz.prog 69 #[p, .agg #[.int .i64 x.1, .int .i64 x.2]] w fun e w' => ∃ a j c, e = .returned (.tuple #[.slice a j c, .bool (lookH m x).isSome]) ∧ Hid (TermAt w' (.slice a j c) (vl m x) ∧ Below w.heap.size w w') := by
  rcases h with ⟨rfl, rfl⟩ | ⟨rt, G, bs, rfl, h2, rfl, h3⟩
  · refine (n69 x.1 x.2 w).mono ?_
    rintro e w' ⟨rfl, hb⟩
    exact ⟨none, 0, 0, rfl, ⟨⟨by simp [vl, lookH], fun c hc => by simp [vl, lookH] at hc⟩, .inl ⟨rfl, none, rfl⟩⟩, hb⟩
  · refine (z6 G rt bs x w h2 h3).mono ?_
    rintro e w' ⟨h | h, hb⟩
    · obtain ⟨rfl, hl⟩ := h
      refine ⟨none, 0, 0, by rw [hl]; rfl, ?_, hb⟩
      unfold vl
      rw [hl]
      exact ⟨⟨by simp, fun c hc => by simp at hc⟩, .inl ⟨rfl, none, rfl⟩⟩
    · obtain ⟨b, hb1, rfl, rfl⟩ := h
      have hl : lookH (hpOf bs) b.x = some b.l := (look_mem_iff _ hup _ _).2 (List.mem_map.2 ⟨b, hb1, rfl⟩)
      refine ⟨b.a, b.n, b.c, by rw [hl]; rfl, ?_, hb⟩
      unfold vl
      rw [hl]
      exact (h2.lst b hb1).1.below hb
end Go.Proofs.YtojobiefambkoaaGreatDoor

namespace Go.Proofs.YtojobiefambkoaaGreatDoor
open Go.RowKit
attribute [local go_sem ↓] Go.wp_at_zero Go.wp_at_succ
set_option maxRecDepth 100000 in
set_option maxHeartbeats 4000000 in
theorem z38 {p : Value} {m : Hp} (x : Nm) (w : World) (h : RfV w p m) (hup : RisesH m) (hm : GoodH m) :
    Calls Tryz.prog 38 #[p, .agg #[.int .i64 x.1, .int .i64 x.2]] w fun e w' => ∃ a j c, e = .returned (.slice a j c) ∧ Hid ((leadsH m x).length = j ∧ OwnN w' w.heap.size (.slice a j c) (leadsH m x) ∧ Below w.heap.size w w') := by
  have hpf : ∃ q, p = .pointer q := by
    rcases h with ⟨h, _⟩ | ⟨_, _, _, h, _⟩ <;> exact ⟨_, h⟩
  obtain ⟨q, rfl⟩ := hpf
  have HX : Hid (RfV w (.pointer q) m ∧ RisesH m ∧ GoodH m) := ⟨h, hup, hm⟩
  obtain ⟨x1, x2⟩ := x
  obtain ⟨W, hW⟩ : ∃ W, w.alloc (.cells #[.int .i64 x1, .int .i64 x2] 49) = W := ⟨_, rfl⟩
  obtain ⟨bx, hbx⟩ : ∃ bx, w.heap.size = bx := ⟨_, rfl⟩
  have HB : Hid (Below w.heap.size w W ∧ W.heap[bx]? = some (.cells #[.int .i64 x1, .int .i64 x2] 49 (0, 0))) := by
    rw [← hW, ← hbx]
    exact ⟨below_alloc _ _, heap_alloc_new w _⟩
  have c0 : W.cell? ⟨bx, 0, none⟩ = some (.int .i64 x1) := by rw [cell_of_row W bx 0 _ 49 (0, 0) HB.out.2]; rfl
  have c1 : W.cell? ⟨bx, 1, none⟩ = some (.int .i64 x2) := by rw [cell_of_row W bx 1 _ 49 (0, 0) HB.out.2]; rfl
  have H69 := st69 (HX.out.1.below HB.out.1) (x1, x2) hup
  clear h hup hm
  dsimp only
  go_enter Tryz.func38, Tryz.ntmps38
  go_wp2_with fail
  refine H69.mono ?_
  rintro e w1 ⟨ta, tn, tc, rfl, H1⟩
  clear H69 c0 c1
  cases hl : lookH m (x1, x2) with
  | none =>
    have HE : Hid ((leadsH m (x1, x2)).length = 0 ∧ OwnN w1 w.heap.size (.slice none 0 0) (leadsH m (x1, x2)) ∧ Below w.heap.size w w1) := by
      have e0 : leadsH m (x1, x2) = [] := by unfold leadsH; rw [hl]; rfl
      rw [e0]
      exact ⟨rfl, World.ownsRow_nil _ _ _ _, HB.out.1.trans (H1.out.2.mono HB.out.1.size)⟩
    clear hl
    go_wp2_with fail
    go_ret
    exact ⟨_, _, _, rfl, HE⟩
  | some l =>
    have HL : Hid (leadsH m (x1, x2) = nubN (varsOf l) ∧ vl m (x1, x2) = l ∧ l.length ≤ 256) := by
      refine ⟨by unfold leadsH; rw [hl]; rfl, by unfold vl; rw [hl]; rfl, ((right_iff _).1 (HX.out.2.2 _ l hl).2.2).2.1⟩
    clear hl
    have H70 : Calls Tryz.prog 70 #[.slice ta tn tc] w1 fun e w' => ∃ a j c, e = .returned (.slice a j c) ∧ Hid ((leadsH m (x1, x2)).length = j ∧ OwnN w' w.heap.size (.slice a j c) (leadsH m (x1, x2)) ∧ Below w.heap.size w w') := by
      have hT := H1.out.1
      rw [HL.out.2.1] at hT
      have hbw : Below w.heap.size w w1 := HB.out.1.trans (H1.out.2.mono HB.out.1.size)
      refine (c42 l _ w1 hT (by have := HL.out.2.2; omega)).mono ?_
      rintro e w' ⟨u, rfl, h1, h2⟩
      obtain ⟨a, c, rfl⟩ := owns_form h1
      rw [HL.out.1]
      exact ⟨a, _, c, rfl, rfl, row_low h1 hbw.size, hbw.trans (h2.mono hbw.size)⟩
    go_wp2_with fail
    refine H70.mono ?_
    rintro e w2 ⟨a, j, c, rfl, H2⟩
    clear H70
    go_wp2_with fail
    go_ret
    exact ⟨_, _, _, rfl, H2⟩
end Go.Proofs.YtojobiefambkoaaGreatDoor
