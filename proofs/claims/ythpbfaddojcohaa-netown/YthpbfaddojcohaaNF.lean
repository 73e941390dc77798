/- Contract of Send. -/
import Derived.Test.YthpbfaddojcohaaNE
namespace Go.Proofs.Ythpbfaddojcohaa
open Go.RowKit
attribute [local go_sem ↓] Go.wp_at_zero Go.wp_at_succ
/-- The error of a row of datagrams. -/
def allE (n : Int) : List Dg → Int
  | [] => 0
  | d :: r => if sendE n d = 0 then allE n r else sendE n d
theorem allE_at (n : Int) : ∀ (ds : List Dg) (k : Nat) (hk : k < ds.length), (∀ (j : Nat) (h : j < ds.length), j < k → sendE n ds[j] = 0) → sendE n ds[k] ≠ 0 → allE n ds = sendE n ds[k]
  | [], k, hk, _, _ => by simp at hk
  | d :: r, 0, hk, _, h => by
    simp only [List.getElem_cons_zero] at h ⊢
    unfold allE; rw [if_neg h]
  | d :: r, k + 1, hk, h0, h => by
    have h1 : sendE n d = 0 := h0 0 (by simp) (by omega)
    unfold allE
    rw [if_pos h1]
    exact allE_at n r k (by simpa using hk) (fun j hj hjk => h0 (j + 1) (by simpa using hj) (by omega)) h
theorem allE_none (n : Int) : ∀ (ds : List Dg), (∀ (j : Nat) (h : j < ds.length), sendE n ds[j] = 0) → allE n ds = 0
  | [], _ => rfl
  | d :: r, h => by
    unfold allE
    rw [if_pos (show sendE n d = 0 from h 0 (by simp))]
    exact allE_none n r fun j hj => h (j + 1) (by simpa using hj)
theorem allE_zero (n : Int) : ∀ (ds : List Dg), allE n ds = 0 → ∀ (k : Nat) (hk : k < ds.length), sendE n ds[k] = 0
  | [], _, k, hk => by simp at hk
  | d :: r, h, k, hk => by
    unfold allE at h
    by_cases h1 : sendE n d = 0
    · rw [if_pos h1] at h
      cases k with
      | zero => exact h1
      | succ k => exact allE_zero n r h k (by simpa using hk)
    · rw [if_neg h1] at h; exact absurd h h1
theorem sendE_len {n : Int} {d : Dg} (h : sendE n d = 0) : d.bn ≤ 65536 := by
  unfold sendE at h
  split at h
  · omega
  · split at h
    · omega
    · omega
/-- A box that holds a datagram. -/
abbrev BoxS (D : Nat) (d : Dg) (w : World) : Prop := w.cell? ⟨D, 0, none⟩ = some (.int .i64 d.fr) ∧ w.cell? ⟨D, 1, none⟩ = some (.int .i64 d.to) ∧ w.cell? ⟨D, 2, none⟩ = some (.bool d.ak) ∧ w.cell? ⟨D, 3, none⟩ = some (.int .i64 d.sq) ∧ w.cell? ⟨D, 4, none⟩ = some (.slice d.ba d.bn d.bc)
theorem boxS_of {w w' : World} {D : Nat} {d : Dg} (h : BoxS D d w) (hb : w'.heap[D]? = w.heap[D]?) : BoxS D d w' := by
  have e : ∀ j, w'.cell? ⟨D, j, none⟩ = w.cell? ⟨D, j, none⟩ := fun j => World.cell?_of_block (a := ⟨D, j, none⟩) hb
  exact ⟨(e 0).trans h.1, (e 1).trans h.2.1, (e 2).trans h.2.2.1, (e 3).trans h.2.2.2.1, (e 4).trans h.2.2.2.2⟩
theorem boxS_below {w w' : World} {D : Nat} {d : Dg} (h : BoxS D d w) (hb : Below w.heap.size w w') (hD : D < w.heap.size) : BoxS D d w' := boxS_of h (hb.block D hD)
theorem boxS_put {w w' : World} {D nb B : Nat} {v : Value} {N : Nt} {d : Dg} (h : BoxS D d w) (hp : PutPost nb B v N w w') (hD : D < w.heap.size) (h1 : D ≠ nb) (h2 : v.ownBlock ≠ some D) : BoxS D d w' := by
  obtain ⟨v', _, hk, _⟩ := hp
  exact boxS_of h (hk.block D hD h1 h2)
theorem boxS_new (w : World) (d : Dg) : BoxS w.heap.size d (w.alloc (.cells #[.int .i64 d.fr, .int .i64 d.to, .bool d.ak, .int .i64 d.sq, .slice d.ba d.bn d.bc] 46)) := by
  have h := heap_alloc_new w (.cells #[.int .i64 d.fr, .int .i64 d.to, .bool d.ak, .int .i64 d.sq, .slice d.ba d.bn d.bc] 46)
  refine ⟨?_, ?_, ?_, ?_, ?_⟩ <;> rw [cell_of_row _ _ _ _ 46 (0, 0) h] <;> rfl
theorem put_fromN {nb B : Nat} {v : Value} {N : Nt} {w w' : World} (h : PutPost nb B v N w w') : ∃ v', NtAt w' nb B v' N ∧ FromN nb v w v' w' := by
  obtain ⟨v', h1, h2, h3⟩ := h
  exact ⟨v', h1, h2, h3⟩
theorem keepN_set (v : Value) (w : World) (nb j : Nat) (u : Value) : KeepN nb v w (w.setCell ⟨nb, j, none⟩ u) :=
  ⟨rfl, rfl, rfl, by simp, fun k _ h1 _ => heap_setCell_other _ _ _ _ (by simpa using h1)⟩
theorem owns_setO {w : World} {B : Nat} {e : TypeId} {s n nb j : Nat} {v : Value} {xs : List Value} (h : w.ownsRow B e s v n xs) (u : Value) (hne : v.ownBlock ≠ some nb) : (w.setCell ⟨nb, j, none⟩ u).ownsRow B e s v n xs := by
  refine ⟨h.1, ?_⟩
  rcases h.2 with h1 | ⟨g, cap, cur, rfl, h2, h3, h4⟩
  · exact .inl h1
  · exact .inr ⟨g, cap, cur, rfl, h2, by rw [heap_setCell_other _ _ _ _ (by simpa [Value.ownBlock] using hne)]; exact h3, h4⟩
def SendPost (nb B : Nat) (v : Value) (N : Nt) (cs0 : List Dc) (ds : List Dg) (cs : List Dc) (w w' : World) : Prop :=
  (allE N.n ds = 0 ∧ ∃ v' l', NtC w' nb B v' { N with l := l', s := N.s + ds.length } (cs0 ++ cs) ∧ FromN nb v w v' w') ∨ (allE N.n ds ≠ 0 ∧ Below w.heap.size w w')
set_option maxRecDepth 100000 in
set_option maxHeartbeats 1000000 in
theorem n16_some (nb B : Nat) (v : Value) (N : Nt) (cs0 : List Dc) (S : Nat → Prop) (b o n c : Nat) (ds : List Dg) (cs : List Dc) (w : World) (h : NtC w nb B v N cs0) (hB : B ≤ w.heap.size) (hA : ArgRow w S (some ⟨b, o, none⟩) n ds cs)
    (hS : ∀ k, S k → k < w.heap.size ∧ k ≠ nb ∧ v.ownBlock ≠ some k) (hl : (N.l.length + n) * 56 ≤ 140737488355328) (hs0 : 0 ≤ N.s) (hs1 : N.s ≤ 1000000000000) :
    Calls Try.prog 16 #[.pointer (some ⟨nb, 0, none⟩), .slice (some ⟨b, o, none⟩) n c] w fun e w' => e = .returned (.int .i64 (allE N.n ds)) ∧ SendPost nb B v N cs0 ds cs w w' := by
  have HH : Hid (NtC w nb B v N cs0) := h
  have HA : Hid (ArgRow w S (some ⟨b, o, none⟩) n ds cs) := hA
  have HS : Hid (∀ k, S k → k < w.heap.size ∧ k ≠ nb ∧ v.ownBlock ≠ some k) := hS
  have hdl : ds.length = n := hA.len
  have hnb := h.at_.lt
  have hn63 : (n : Int) ≤ 140737488355328 := by omega
  clear h hA hS
  go_enter Try.func16, Try.ntmps16
  go_wp2_with fail
  go_loopw [14] (fun i wr => ∃ k : Nat, k ≤ n ∧ i = .int .i64 k ∧ Hid (∀ (j : Nat) (h : j < ds.length), j < k → sendE N.n ds[j] = 0) ∧ Below w.heap.size w wr) (fun i _ => n - (intOf i).toNat)
  case atStart => exact ⟨0, by omega, rfl, (fun j h h' => by omega), Below.refl _ _⟩
  case round =>
    obtain ⟨k, hk, rfl, HI, hbr⟩ := hrel
    by_cases hlt : k < n
    · have hlt' : (k : Int) < (n : Int) := by omega
      have hk0 : (0 : Int) ≤ (k : Int) := by omega
      have hkd : k < ds.length := by omega
      have HA1 := HA.out.kept (w' := wr) (fun k hk => hbr.block k (HS.out k hk).1)
      obtain ⟨p0, p1, p2, p3, p4⟩ : wr.cell? ⟨b, o + k * 5, none⟩ = some (.int .i64 ds[k].fr) ∧ wr.cell? ⟨b, o + k * 5 + 1, none⟩ = some (.int .i64 ds[k].to) ∧ wr.cell? ⟨b, o + k * 5 + 2, none⟩ = some (.bool ds[k].ak) ∧ wr.cell? ⟨b, o + k * 5 + 3, none⟩ = some (.int .i64 ds[k].sq) ∧ wr.cell? ⟨b, o + k * 5 + 4, none⟩ = some (.slice ds[k].ba ds[k].bn ds[k].bc) := by
        rcases HA1.row with e | ⟨b', o', e, _, hr⟩
        · omega
        · simp only [Option.some.injEq, Addr.mk.injEq, and_true] at e
          obtain ⟨rfl, rfl⟩ := e
          exact dg_cells hr k hkd
      clear HA1
      have hN1 := HH.out.at_.below hbr
      obtain ⟨d, hd⟩ : ∃ d, ds[k] = d := ⟨_, rfl⟩
      have HD : Hid (ds[k] = d) := hd
      rw [hd] at p0 p1 p2 p3 p4
      clear hd
      have hN2 := hN1.below ((Below.refl _ wr).alloc (Nat.le_refl _) (.cells #[.int .i64 d.fr, .int .i64 d.to, .bool d.ak, .int .i64 d.sq, .slice d.ba d.bn d.bc] 46))
      have H42 := n42 nb N.n d _ hN2.cells.2.2.2.2.2 hN2.lt
      have HB2 : Hid (Below w.heap.size w (wr.alloc (.cells #[.int .i64 d.fr, .int .i64 d.to, .bool d.ak, .int .i64 d.sq, .slice d.ba d.bn d.bc] 46))) := hbr.alloc hbr.size _
      have HE : Hid (sendE N.n ds[k] = sendE N.n d) := congrArg _ HD.out
      clear hN1 hN2
      obtain ⟨q, hq⟩ : ∃ q, sendE N.n d = q := ⟨_, rfl⟩
      rw [hq] at H42
      have HQ : Hid (sendE N.n d = q) := hq
      clear hq
      by_cases hq0 : q = 0
      · subst hq0
        go_wp2_with fail
        refine H42.mono ?_
        rintro e w3 ⟨rfl, hb3⟩
        have hbw3 : Below w.heap.size w w3 := HB2.out.trans (hb3.mono HB2.out.size)
        clear hb3
        go_wp2_with fail
        go_roundw
        case rel =>
          refine ⟨k + 1, by omega, by go_num, fun j hj hjk => ?_, hbw3⟩
          by_cases e : j = k
          · subst e; rw [HE.out, HQ.out]
          · exact HI.out j hj (by omega)
        case measure => simp [intOf]; omega
      · have hq1 : (q == 0) = false := by simpa using hq0
        have hq2 : (q != 0) = true := by simpa using hq0
        go_wp2_with fail
        refine H42.mono ?_
        rintro e w3 ⟨rfl, hb3⟩
        have hbw3 : Below w.heap.size w w3 := HB2.out.trans (hb3.mono HB2.out.size)
        clear hb3
        go_wp2_with fail
        go_ret
        have he : allE N.n ds = q := by
          rw [allE_at N.n ds k hkd HI.out (by rw [HE.out, HQ.out]; exact hq0), HE.out, HQ.out]
        exact ⟨by rw [he]; rfl, .inr ⟨by rw [he]; exact hq0, hbw3⟩⟩
    · have hlt' : ¬ ((k : Int) < (n : Int)) := by omega
      have HAll : Hid (allE N.n ds = 0) := allE_none N.n ds fun j hj => HI.out j hj (by omega)
      have HH2 : Hid (NtC wr nb B v N cs0) := HH.out.below hbr
      have HBr : Hid (Below w.heap.size w wr) := hbr
      clear HI hbr
      go_wp2_with fail
      clear hlt hlt' hk
      go_loopw [27] (fun i wr => ∃ k : Nat, k ≤ n ∧ i = .int .i64 k ∧ Hid (∃ v1 l1, NtC wr nb B v1 { N with l := l1 } (cs0 ++ cs.take k) ∧ l1.length = N.l.length + k ∧ FromN nb v w v1 wr)) (fun i _ => n - (intOf i).toNat)
      case atStart => exact ⟨0, by omega, rfl, ⟨v, N.l, by simpa using HH2.out, rfl, (FromN.refl nb v w).below HBr.out⟩⟩
      case round =>
      clear HH2 HBr
      obtain ⟨k, hk, rfl, HI⟩ := hrel
      obtain ⟨v1, l1, hN1, hl1, hF1⟩ := HI.out
      have hbw : B ≤ wr.heap.size := Nat.le_trans hB hF1.keep.size
      by_cases hlt : k < n
      · have hlt' : (k : Int) < (n : Int) := by omega
        have hk0 : (0 : Int) ≤ (k : Int) := by omega
        have hkd : k < ds.length := by omega
        have HA1 := HA.out.kept (w' := wr) (fun k hk => hF1.keep.block k (HS.out k hk).1 (HS.out k hk).2.1 (HS.out k hk).2.2)
        have hkc : k < cs.length := by rw [HA1.lenc]; exact hlt
        obtain ⟨p0, p1, p2, p3, p4⟩ : wr.cell? ⟨b, o + k * 5, none⟩ = some (.int .i64 ds[k].fr) ∧ wr.cell? ⟨b, o + k * 5 + 1, none⟩ = some (.int .i64 ds[k].to) ∧ wr.cell? ⟨b, o + k * 5 + 2, none⟩ = some (.bool ds[k].ak) ∧ wr.cell? ⟨b, o + k * 5 + 3, none⟩ = some (.int .i64 ds[k].sq) ∧ wr.cell? ⟨b, o + k * 5 + 4, none⟩ = some (.slice ds[k].ba ds[k].bn ds[k].bc) := by
          rcases HA1.row with e | ⟨b', o', e, _, hr⟩
          · omega
          · simp only [Option.some.injEq, Addr.mk.injEq, and_true] at e
            obtain ⟨rfl, rfl⟩ := e
            exact dg_cells hr k hkd
        obtain ⟨hdi, hby⟩ := HA1.each k ds[k] cs[k] (List.getElem?_eq_getElem hkd) (List.getElem?_eq_getElem hkc)
        clear HA1
        have HT : Hid (cs.take (k + 1) = cs.take k ++ [cs[k]]) := List.take_succ_eq_append_getElem hkc
        have HE0 : Hid (sendE N.n ds[k] = 0) := allE_zero N.n ds HAll.out k hkd
        generalize ds[k] = d at *
        generalize cs[k] = x at *
        have HBn : Hid (d.bn ≤ 140737488355328) := by have := sendE_len HE0.out; show d.bn ≤ _; omega
        have HB1 : Hid (Below wr.heap.size wr (wr.alloc (.cells #[.int .i64 d.fr, .int .i64 d.to, .bool d.ak, .int .i64 d.sq, .slice d.ba d.bn d.bc] 46))) := (Below.refl _ wr).alloc (Nat.le_refl _) _
        have HBy : Hid (ByAt (wr.alloc (.cells #[.int .i64 d.fr, .int .i64 d.to, .bool d.ak, .int .i64 d.sq, .slice d.ba d.bn d.bc] 46)).drew d.ba d.bn d.bc x.xs) := (hby.at (fun k hk => Nat.lt_of_lt_of_le (HS.out k hk).1 hF1.keep.size)).below HB1.out.drew
        have HDI : Hid (DgIs d x) := hdi
        have HN1 : Hid (NtC wr nb B v1 { N with l := l1 } (cs0 ++ cs.take k)) := hN1
        have HL1 : Hid (l1.length = N.l.length + k) := hl1
        have HF1 : Hid (FromN nb v w v1 wr) := hF1
        have HnD : Hid (wr.heap.size ≠ nb) := by have := hN1.at_.lt; show _ ≠ _; omega
        have HvD : Hid (v1.ownBlock ≠ some wr.heap.size) := fun e => by have := (owns_lt hN1.at_.own e).2; omega
        have HBw : Hid (B ≤ wr.heap.size) := hbw
        have hS0 : BoxS wr.heap.size d (wr.alloc (.cells #[.int .i64 d.fr, .int .i64 d.to, .bool d.ak, .int .i64 d.sq, .slice d.ba d.bn d.bc] 46)).drew := boxS_new wr d
        have hD3 : wr.heap.size < (wr.alloc (.cells #[.int .i64 d.fr, .int .i64 d.to, .bool d.ak, .int .i64 d.sq, .slice d.ba d.bn d.bc] 46)).drew.heap.size := by show _ < (wr.alloc _).heap.size; simp
        clear hby hdi hN1 hl1 hF1 hbw HI
        go_wp2_with fail
        clear p0 p1 p2 p3 p4
        generalize hDn : wr.heap.size = D at *
        generalize wr.alloc (.cells #[.int .i64 d.fr, .int .i64 d.to, .bool d.ak, .int .i64 d.sq, .slice d.ba d.bn d.bc] 46) = w4 at *
        refine wp_region_noPanic ?_
        refine wp_region_held_drew (S := fun w' => BoxS D d w') (by kernel_rfl) hS0 (fun hHeld => ?_)
        refine wpAnyH_take (i := 0) (v := ?_) (by simp only [List.getElem?_toArray, List.getElem?_cons_zero]; rfl) (by kernel_rfl) (by kernel_rfl) (by kernel_rfl) (fun _ _ _ h => h) (Or.inl ⟨by rfl, ?_⟩) (by assumption) ?_
        rotate_left
        · (intro w hSw; (try dsimp only at hSw); go_simp <;> with_reducible rfl)
        try simp only [Act.put, List.setIfInBounds_toArray, List.set_cons_zero, List.set_cons_succ]
        refine wpAnyH_take (i := 1) (v := ?_) (by simp only [List.getElem?_toArray, List.getElem?_cons_zero, List.getElem?_cons_succ]; rfl) (by kernel_rfl) (by kernel_rfl) (by kernel_rfl) (fun _ _ _ h => h) (Or.inl ⟨by rfl, ?_⟩) (by assumption) ?_
        rotate_left
        · (intro w hSw; (try dsimp only at hSw); go_simp <;> with_reducible rfl)
        try simp only [Act.put, List.setIfInBounds_toArray, List.set_cons_zero, List.set_cons_succ]
        refine wpAnyH_take (i := 2) (v := ?_) (by simp only [List.getElem?_toArray, List.getElem?_cons_zero, List.getElem?_cons_succ]; rfl) (by kernel_rfl) (by kernel_rfl) (by kernel_rfl) (fun _ _ _ h => h) (Or.inl ⟨by rfl, ?_⟩) (by assumption) ?_
        rotate_left
        · (intro w hSw; (try dsimp only at hSw); go_simp <;> with_reducible rfl)
        try simp only [Act.put, List.setIfInBounds_toArray, List.set_cons_zero, List.set_cons_succ]
        refine wpAnyH_take (i := 3) (v := ?_) (by simp only [List.getElem?_toArray, List.getElem?_cons_zero, List.getElem?_cons_succ]; rfl) (by kernel_rfl) (by kernel_rfl) (by kernel_rfl) (fun _ _ _ h => h) (Or.inl ⟨by rfl, ?_⟩) (by assumption) ?_
        rotate_left
        · (intro w hSw; (try dsimp only at hSw); go_simp <;> with_reducible rfl)
        try simp only [Act.put, List.setIfInBounds_toArray, List.set_cons_zero, List.set_cons_succ]
        refine wpAnyH_ready (rs := [4]) (by kernel_rfl) (by simp) ?_
        refine AllReadyH.cons (by simp only [List.getElem?_toArray, List.getElem?_cons_zero, List.getElem?_cons_succ]; rfl) (fun K hK => ?_) AllReadyH.nil
        go_simp
        go_at_call 41
        refine (n41 d x.xs _ HBy.out HBn.out).mono ?_
        rintro e w3 ⟨a3, c3, rfl, hob3, _, hb3⟩
        refine hK.out _ _ ?_ (fun hHeld => ?_)
        · exact boxS_below (by assumption) hb3 hD3
        clear hK K
        try simp only [Act.put, List.setIfInBounds_toArray, List.set_cons_zero, List.set_cons_succ]
        have hN3 : NtC w3 nb B v1 { N with l := l1 } (cs0 ++ cs.take k) := HN1.out.below (by rw [hDn]; exact HB1.out.drew.trans (hb3.mono (by have := HB1.out.drew.size; omega)))
        have H43 := n43 nb B v1 { N with l := l1 } ({ d with ba := a3, bc := c3 } : Dg) w3 hN3.at_ (by have := hb3.size; have := HB1.out.drew.size; have := HBw.out; omega) (by have := HL1.out; show (l1.length + 1) * 56 ≤ _; omega)
        have hD4 : D < w3.heap.size := Nat.lt_of_lt_of_le hD3 hb3.size
        have HN3 : Hid (NtC w3 nb B v1 { N with l := l1 } (cs0 ++ cs.take k)) := hN3
        have HO3 : Hid (OwnB w3 w4.drew.heap.size a3 d.bn c3 x.xs) := hob3
        have HB3 : Hid (Below D wr w3) := HB1.out.drew.trans (hb3.mono (by have := HB1.out.drew.size; omega))
        clear hN3 hob3
        refine wpAnyH_ready (rs := [5]) (by kernel_rfl) (by simp) ?_
        refine AllReadyH.cons (by simp only [List.getElem?_toArray, List.getElem?_cons_zero, List.getElem?_cons_succ]; rfl) (fun K hK => ?_) AllReadyH.nil
        go_simp
        go_at_call 43
        refine H43.mono ?_
        rintro e w5 ⟨rfl, hp5⟩
        refine hK.out _ _ ?_ (fun hHeld => ?_)
        · exact boxS_put (by assumption) hp5 hD4 HnD.out HvD.out
        clear hK K
        try simp only [Act.put, List.setIfInBounds_toArray, List.set_cons_zero, List.set_cons_succ]
        refine wpAnyH_done (by kernel_rfl) ?_ _
        refine NoPanic.normal ?_
        clear hHeld

        have HF5 : Hid (∃ v5 l5, NtC w5 nb B v5 { N with l := l5 } (cs0 ++ cs.take (k + 1)) ∧ l5.length = N.l.length + (k + 1) ∧ FromN nb v w v5 w5) := by
          obtain ⟨v5, hn5, hf5⟩ := put_fromN hp5
          refine ⟨v5, _, ⟨hn5, ?_⟩, by simp [HL1.out]; omega, (HF1.out.below (by rw [hDn]; exact HB3.out)).trans hf5⟩
          rw [HT.out, ← List.append_assoc]
          exact OwnL.snoc (HN3.out.own.keep HN3.out.at_ hf5.keep) ⟨HDI.out, OwnB.keep (owns_base HO3.out (by have := HB1.out.drew.size; have := HBw.out; omega)) HN3.out.at_ hf5.keep⟩
        clear hp5 hS0
        go_wp2_with fail
        go_roundw
        case rel => exact ⟨k + 1, by omega, by go_num, HF5.out⟩
        case measure => simp [intOf]; omega
      · have hlt' : ¬ ((k : Int) < (n : Int)) := by omega
        have hkn : k = n := by omega
        obtain ⟨_, q1, _, _, _, _⟩ := hN1.at_.cells
        have qf := hN1.at_.frozen 1
        go_wp2_with fail
        go_ret
        obtain rfl := hkn
        refine ⟨by rw [HAll.out]; rfl, .inl ⟨HAll.out, v1, l1, ⟨⟨?_, ?_⟩, ?_⟩, ?_⟩⟩
        · rw [heap_setCell_same wr nb 1 _ 77 _ hN1.at_.blk, hdl]; rfl
        · exact owns_setO hN1.at_.own _ (row_not_net hN1.at_.own hN1.at_.blk)
        · have e : cs.take k = cs := List.take_of_length_le (by rw [HA.out.lenc]; exact Nat.le_refl _)
          have hO := hN1.own
          rw [e] at hO
          exact hO.keep hN1.at_ (keepN_set v1 wr nb 1 _)
        · exact hF1.trans ⟨keepN_set v1 wr nb 1 _, fun _ e => .inl e⟩
end Go.Proofs.Ythpbfaddojcohaa
