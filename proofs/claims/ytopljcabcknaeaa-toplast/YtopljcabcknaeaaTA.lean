/- A log cut anywhere; a log and a link that took the same. -/
import Derived.Test.YtopljcabcknaeaaJN
import Derived.Test.YtopljcabcknaeaaLkLS
namespace Go.Proofs.Ytopljcabcknaeaa
open Go.RowKit
attribute [local go_sem ↓] Go.wp_at_zero Go.wp_at_succ
theorem recs_part : ∀ (ps : List (List Int)) (o k : Nat), (∀ p ∈ ps, p.length ≤ 131072) → ∃ j, j ≤ ps.length ∧ recs o ((whole ps).take k) = ends o (ps.take j) ∧ ((whole ps).length ≤ k → j = ps.length)
  | [], o, k, _ => ⟨0, Nat.le_refl _, by rw [show whole [] = ([] : List Int) from rfl, List.take_nil]; exact recs_no rfl, fun _ => rfl⟩
  | p :: ps, o, k, h => by
    have hp := h p (List.mem_cons_self ..)
    rcases Nat.lt_or_ge k (8 + p.length) with hk | hk
    · refine ⟨0, Nat.zero_le _, ?_, fun h => ?_⟩
      · rw [whole_cons, List.take_append_of_le_length (by rw [recI_length]; omega), recs_no (cut_no hk)]
        rfl
      · rw [whole_cons, List.length_append, recI_length] at h
        omega
    · obtain ⟨j, h1, h2, h3⟩ := recs_part ps (o + (8 + p.length)) (k - (8 + p.length)) fun q hq => h q (List.mem_cons_of_mem _ hq)
      refine ⟨j + 1, by simp; omega, ?_, fun h => ?_⟩
      · rw [whole_cons, List.take_append, List.take_of_length_le (by rw [recI_length]; omega), recI_length, recs_rec _ _ _ hp, h2]
        rfl
      · rw [whole_cons, List.length_append, recI_length] at h
        have := h3 (by omega)
        simp; omega
theorem recs_all {ps : List (List Int)} (h : ∀ p ∈ ps, p.length ≤ 131072) : recs 0 (whole ps) = ends 0 ps ∧ lastE (recs 0 (whole ps)) = (whole ps).length := by
  have h1 := recs_whole 0 ps [] h
  rw [List.append_nil, show recs (0 + (whole ps).length) [] = [] from recs_no rfl, List.append_nil] at h1
  exact ⟨h1, by rw [h1]; exact last_ends0 ps⟩
theorem whole_len : ∀ (ps : List (List Int)), (∀ p ∈ ps, p.length ≤ 1000) → (whole ps).length ≤ ps.length * 1008
  | [], _ => Nat.le_refl _
  | p :: ps, h => by
    have h1 := whole_len ps fun q hq => h q (List.mem_cons_of_mem _ hq)
    have h2 := h p (List.mem_cons_self ..)
    rw [whole_cons, List.length_append, recI_length, List.length_cons]
    omega
set_option maxRecDepth 100000 in
theorem w9 (c : Int) (n : Nat) (w : World) (hn : n ≤ 1000000000) : Calls Try.prog 9 #[.int .i64 c, .int .i64 ((n : Int) + 1)] w fun e w' => (∃ k : Nat, k ≤ n ∧ e = .returned (.int .i64 (k : Int))) ∧ w' = w := by
  have hm0 : (((n : Int) + 1) == 0) = false := by rw [beq_eq_false_iff_ne]; omega
  have hlt := Int.tmod_lt_of_pos c (show (0 : Int) < (n : Int) + 1 by omega)
  have hgt : -((n : Int) + 1) < c.tmod ((n : Int) + 1) := by
    have h1 := Int.tmod_lt_of_pos (-c) (show (0 : Int) < (n : Int) + 1 by omega)
    rw [Int.neg_tmod] at h1
    omega
  obtain ⟨r, hr⟩ : ∃ r, c.tmod ((n : Int) + 1) = r := ⟨_, rfl⟩
  rw [hr] at hlt hgt
  by_cases h0 : r < 0
  · obtain ⟨k, hk⟩ : ∃ k : Nat, r + ((n : Int) + 1) = (k : Int) := ⟨(r + ((n : Int) + 1)).toNat, by rw [Int.toNat_of_nonneg (by omega)]⟩
    go_enter Try.func9, Try.ntmps9
    go_wp2_with fail
    go_ret
    exact ⟨⟨k, by omega, rfl⟩, rfl⟩
  · obtain ⟨k, hk⟩ : ∃ k : Nat, r = (k : Int) := ⟨r.toNat, by rw [Int.toNat_of_nonneg (by omega)]⟩
    go_enter Try.func9, Try.ntmps9
    go_wp2_with fail
    go_ret
    exact ⟨⟨k, by omega, rfl⟩, rfl⟩
theorem run_head29 (a : Option Addr) (n c k : Nat) (hk : k ≤ c) (W : World) : (Instr.slice 29 (.slice a n c) none (some (.int .i64 (k : Int))) none).run Try.prog W = .ok (.slice a k c) W := by
  obtain ⟨i0, hi, _⟩ := infoU8
  have h0 : (0 : Int) ≤ (k : Int) := by omega
  have h1 : (k : Int) ≤ (c : Int) := by omega
  have e : ∀ x : Addr, x.add 0 = x := fun x => by simp [Addr.add]
  cases a <;> simp [Instr.slice, run_underlying Try.underlying29, Instr.sliceBounds, run_sliceBound, sizeOf, typeInfo, hi, h0, h1, e]
theorem By.upto {w : World} {a : Option Addr} {n c : Nat} {xs : List Int} (h : By w a n c xs) {k : Nat} (hk : k ≤ n) : By w a k c (xs.take k) := by
  refine ⟨by rw [List.length_take]; have := h.len; omega, Nat.le_trans hk h.cap, h.nil, fun x hx => h.rng x (List.mem_of_mem_take hx), ?_⟩
  rcases h.mem with e | ⟨b, o, e, hl, hr⟩
  · exact .inl (by omega)
  · refine .inr ⟨b, o, e, hl, fun j u hu => hr j u ?_⟩
    unfold u8s at hu ⊢
    rw [List.map_take, List.getElem?_take] at hu
    split at hu
    · exact hu
    · cases hu
/-- A log and a link that took the same messages. -/
structure St (W : World) (B lb la : Nat) (s : Sl) (sl : Lk.Sl) (l : List Lk.Sl) (ps : List (List Int)) : Prop where
  lg : LogAt W lb B s (whole ps)
  lk : Lk.LkG W B la ((0 : Nat) : Int) sl l
  len : l.length = ps.length
  byl : ∀ (k : Nat) (t : Lk.Sl) (xs : List Int), l[k]? = some t → ps[k]? = some xs → Row W B 5 t.a t.n t.c (u8s xs)
  off : ∀ t ∈ l, ∀ g, blk t.a = some g → blk s.a ≠ some g
  sm : ∀ p ∈ ps, p.length ≤ 1000 ∧ ∀ x ∈ p, Byte x
  hb : B ≤ lb ∧ B ≤ W.heap.size
section
variable {W W' : World} {B lb la : Nat} {s : Sl} {sl : Lk.Sl} {l : List Lk.Sl} {ps : List (List Int)}
theorem St.below (h : St W B lb la s sl l ps) (hb : Below W.heap.size W W') : St W' B lb la s sl l ps :=
  ⟨h.lg.below hb, h.lk.below hb, h.len, fun k t xs e1 e2 => (h.byl k t xs e1 e2).below hb, h.off, h.sm, h.hb.1, Nat.le_trans h.hb.2 hb.size⟩
theorem St.row (h : St W B lb la s sl l ps) {t : Lk.Sl} (ht : t ∈ l) : ∃ xs, Row W B 5 t.a t.n t.c (u8s xs) := by
  obtain ⟨xs, h1, _⟩ := h.lk.bys t ht
  exact ⟨xs, h1⟩
theorem St.flat (h : St W B lb la s sl l ps) : lastE (recs 0 (whole ps)) = (whole ps).length := (recs_all fun p hp => by have := (h.sm p hp).1; omega).2
theorem kind_ne {w : World} {k : Nat} {cu cu' : Array Value} {T T' : TypeId} (h : w.heap[k]? = some (.cells cu T (0, 0))) (h' : w.heap[k]? = some (.cells cu' T' (0, 0))) (hT : T ≠ T') : False := by
  rw [h] at h'
  simp only [Option.some.injEq, Obj.cells.injEq] at h'
  exact hT h'.2.1
/-- The log took one more. -/
theorem St.put (h : St W B lb la s sl l ps) {p : List Int} (hw : Wrote lb B s W (whole ps ++ recI p) W') :
    ∃ s', LogAt W' lb B s' (whole (ps ++ [p])) ∧ Lk.LkG W' B la ((0 : Nat) : Int) sl l ∧ (∀ (k : Nat) (t : Lk.Sl) (xs : List Int), l[k]? = some t → ps[k]? = some xs → Row W' B 5 t.a t.n t.c (u8s xs)) ∧ (∀ t ∈ l, ∀ g, blk t.a = some g → blk s'.a ≠ some g) ∧ W.heap.size ≤ W'.heap.size ∧ Below B W W' := by
  obtain ⟨s', h1, h2, h3⟩ := hw
  have hla := h.lk.blk
  unfold Lk.LkB at hla
  have hkd : ∀ (k : Nat) (cu : Array Value) (T : TypeId), T ≠ 46 → T ≠ 5 → W.heap[k]? = some (.cells cu T (0, 0)) → W'.heap[k]? = W.heap[k]? := fun k cu T t1 t2 e => by
    refine h2.block k (Array.getElem?_eq_some_iff.1 e).1 (fun e1 => ?_) fun e1 => ?_
    · subst e1
      exact kind_ne e h.lg.blk t1
    · obtain ⟨cu2, e2⟩ := h.lg.row.kind e1
      exact kind_ne e e2 t2
  have hby : ∀ (t : Lk.Sl) (C : Nat) (xs : List Int), t ∈ l → Row W C 5 t.a t.n t.c (u8s xs) → Row W' C 5 t.a t.n t.c (u8s xs) := fun t C xs ht hr => hr.keeps fun g hg => by
    obtain ⟨cu, e2⟩ := hr.kind hg
    refine h2.block g (hr.lt hg).2 (fun e1 => ?_) (h.off t ht g hg)
    subst e1
    exact kind_ne e2 h.lg.blk (by decide)
  refine ⟨s', by rw [whole_append, whole_one]; exact h1, ⟨?_, h.lk.hb, h.lk.row.keeps fun g hg => ?_, fun t ht => ?_⟩, fun k t xs e1 e2 => hby t B xs (List.mem_of_getElem? e1) (h.byl k t xs e1 e2), fun t ht g hg => ?_, h2.size, ?_⟩
  · unfold Lk.LkB
    exact (hkd la _ 51 (by decide) (by decide) hla).trans hla
  · obtain ⟨cu, e2⟩ := h.lk.row.kind hg
    exact hkd g cu 29 (by decide) (by decide) e2
  · obtain ⟨xs, k1, k2⟩ := h.lk.bys t ht
    exact ⟨xs, hby t B xs ht k1, k2⟩
  · rcases h3 with e | ⟨g', e, h4⟩
    · rw [e]
      exact h.off t ht g hg
    · rw [e]
      intro e2
      simp only [blk_some, Option.some.injEq] at e2
      obtain ⟨xs, hr⟩ := h.row ht
      have := (hr.lt hg).2
      omega
  · exact h2.below h.hb.1 (fun g hg => (h.lg.row.lt hg).1) h.hb.2
/-- The link sent it too. -/
theorem st_next {p : List Int} {n : Nat} (hlg : LogAt W lb B s (whole (ps ++ [p]))) (hlk : Lk.LkG W B la ((0 : Nat) : Int) sl l) (hlen : l.length = ps.length) (hby : ∀ (k : Nat) (t : Lk.Sl) (xs : List Int), l[k]? = some t → ps[k]? = some xs → Row W B 5 t.a t.n t.c (u8s xs)) (hoff : ∀ t ∈ l, ∀ g, blk t.a = some g → blk s.a ≠ some g) (hsm : ∀ p ∈ ps, p.length ≤ 1000 ∧ ∀ x ∈ p, Byte x) (hp : p.length ≤ 1000 ∧ ∀ x ∈ p, Byte x) (hB : B ≤ lb ∧ B ≤ W.heap.size) (h : Lk.PutG W B la ((0 : Nat) : Int) l n p sl.a W') :
    ∃ sl' t, St W' B lb la s sl' (l ++ [t]) (ps ++ [p]) ∧ Below B W W' := by
  obtain ⟨sl', t, k1, k2, k3, k4, k5, k6, k7, k8⟩ := h
  have hla := hlk.blk
  unfold Lk.LkB at hla
  have hkd : ∀ (k : Nat) (cu : Array Value) (T : TypeId), T ≠ 51 → T ≠ 29 → W.heap[k]? = some (.cells cu T (0, 0)) → W'.heap[k]? = W.heap[k]? := fun k cu T t1 t2 e => by
    refine k6 k (Array.getElem?_eq_some_iff.1 e).1 (fun e1 => ?_) fun e1 => ?_
    · subst e1
      exact kind_ne e hla t1
    · obtain ⟨cu2, e2⟩ := hlk.row.kind e1
      exact kind_ne e e2 t2
  refine ⟨sl', t, ⟨hlg.keeps (hkd lb _ 46 (by decide) (by decide) hlg.blk) fun g hg => ?_, k1, by simp [hlen], fun k u xs e1 e2 => ?_, fun u hu g hg => ?_, fun q hq => ?_, hB.1, Nat.le_trans hB.2 k5⟩, k4⟩
  · obtain ⟨cu, e2⟩ := hlg.row.kind hg
    exact hkd g cu 5 (by decide) (by decide) e2
  · rcases Nat.lt_or_ge k l.length with hk' | hk'
    · rw [List.getElem?_append_left hk'] at e1
      rw [List.getElem?_append_left (by omega)] at e2
      have h1 := hby k u xs e1 e2
      exact h1.keeps fun g hg => by obtain ⟨cu, h4⟩ := h1.kind hg; exact hkd g cu 5 (by decide) (by decide) h4
    · have hk2 := (List.getElem?_eq_some_iff.1 e1).1
      simp only [List.length_append, List.length_cons, List.length_nil] at hk2
      obtain rfl : k = l.length := by omega
      rw [List.getElem?_append_right (Nat.le_refl _), Nat.sub_self, List.getElem?_cons_zero, Option.some.injEq] at e1
      rw [hlen, List.getElem?_append_right (Nat.le_refl _), Nat.sub_self, List.getElem?_cons_zero, Option.some.injEq] at e2
      subst e1 e2
      exact k8.base hB.2
  · rcases List.mem_append.1 hu with hu | hu
    · exact hoff u hu g hg
    · simp only [List.mem_cons, List.not_mem_nil, or_false] at hu
      subst hu
      intro e2
      have h1 := (k8.lt hg).1
      have h2 := (hlg.row.lt e2).2
      omega
  · rcases List.mem_append.1 hq with hq | hq
    · exact hsm q hq
    · simp only [List.mem_cons, List.not_mem_nil, or_false] at hq
      subst hq
      exact hp
/-- The second link took what was read. -/
structure Sb (We Wp W : World) (B lb2 n : Nat) (sl : Lk.Sl) (l : List Lk.Sl) (qs : List (List Int)) (i : Nat) : Prop where
  ag : Wp.heap.size ≤ W.heap.size ∧ ∀ k, k < Wp.heap.size → k ≠ lb2 → W.heap[k]? = Wp.heap[k]?
  lk : Lk.LkG W B lb2 ((0 : Nat) : Int) sl l
  len : l.length = i
  byl : ∀ (k : Nat) (t : Lk.Sl) (xs : List Int), l[k]? = some t → qs[k]? = some xs → Row W B 5 t.a t.n t.c (u8s xs)
  own : ∀ g, blk sl.a = some g → Wp.heap.size ≤ g
  bel : Below We.heap.size We W
theorem Sb.below {We Wp : World} {lb2 n i : Nat} {qs : List (List Int)} (h : Sb We Wp W B lb2 n sl l qs i) (hW : We.heap.size ≤ W.heap.size) (hb : Below W.heap.size W W') : Sb We Wp W' B lb2 n sl l qs i :=
  ⟨⟨Nat.le_trans h.ag.1 hb.size, fun k h1 h2 => (hb.block k (Nat.lt_of_lt_of_le h1 h.ag.1)).trans (h.ag.2 k h1 h2)⟩, h.lk.below hb, h.len, fun k t xs e1 e2 => (h.byl k t xs e1 e2).below hb, h.own, h.bel.trans (hb.mono hW)⟩
theorem Sb.next {We Wp : World} {lb2 n i m : Nat} {qs : List (List Int)} {p : List Int} (h : Sb We Wp W B lb2 n sl l qs i) (hi : qs[i]? = some p) (hWe : We.heap.size ≤ lb2) (hWs : We.heap.size ≤ Wp.heap.size) (hB : B ≤ W.heap.size) (hp : Lk.PutG W B lb2 ((0 : Nat) : Int) l m p sl.a W') : ∃ sl' t, Sb We Wp W' B lb2 n sl' (l ++ [t]) qs (i + 1) := by
  obtain ⟨sl', t, k1, k2, k3, k4, k5, k6, k7, k8⟩ := hp
  have hla := h.lk.blk
  unfold Lk.LkB at hla
  have hkd : ∀ (k : Nat) (cu : Array Value), W.heap[k]? = some (.cells cu 5 (0, 0)) → W'.heap[k]? = W.heap[k]? := fun k cu e => by
    refine k6 k (Array.getElem?_eq_some_iff.1 e).1 (fun e1 => ?_) fun e1 => ?_
    · subst e1
      exact kind_ne e hla (by decide)
    · obtain ⟨cu2, e2⟩ := h.lk.row.kind e1
      exact kind_ne e e2 (by decide)
  refine ⟨sl', t, ⟨Nat.le_trans h.ag.1 k5, fun k h1 h2 => (k6 k (Nat.lt_of_lt_of_le h1 h.ag.1) h2 fun e => ?_).trans (h.ag.2 k h1 h2)⟩, k1, by simp [h.len], fun k u xs e1 e2 => ?_, fun g hg => ?_, ?_⟩
  · have := h.own k e
    omega
  · rcases Nat.lt_or_ge k l.length with hk' | hk'
    · rw [List.getElem?_append_left hk'] at e1
      have h1 := h.byl k u xs e1 e2
      exact h1.keeps fun g hg => by obtain ⟨cu, h4⟩ := h1.kind hg; exact hkd g cu h4
    · have hk2 := (List.getElem?_eq_some_iff.1 e1).1
      simp only [List.length_append, List.length_cons, List.length_nil] at hk2
      obtain rfl : k = l.length := by omega
      rw [List.getElem?_append_right (Nat.le_refl _), Nat.sub_self, List.getElem?_cons_zero, Option.some.injEq] at e1
      rw [h.len, hi, Option.some.injEq] at e2
      subst e1 e2
      exact k8.base hB
  · rcases k7 with e | ⟨g', e, h9⟩
    · rw [e] at hg
      exact h.own g hg
    · rw [e] at hg
      simp only [Option.some.injEq] at hg
      have := h.ag.1
      omega
  · refine h.bel.trans ⟨k4.os, k4.tape, k4.output, k5, fun k hk => k6 k (by have := h.ag.1; omega) (by omega) fun e => ?_⟩
    have := h.own k e
    omega
end
end Go.Proofs.Ytopljcabcknaeaa
