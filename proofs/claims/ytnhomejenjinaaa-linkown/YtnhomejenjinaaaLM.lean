/- Same of like bytes; what the statement on messages that are taken once keeps in memory. -/
import Derived.Test.YtnhomejenjinaaaLL
import Derived.Test.YtnhomejenjinaaaLG
namespace Go.Proofs.Ytnhomejenjinaaa
open Go.RowKit
attribute [local go_sem ↓] Go.wp_at_zero Go.wp_at_succ
theorem By.get {w : World} {a : Option Addr} {n c : Nat} {xs : List Int} (h : By w a n c xs) {k : Nat} (hk : k < n) : ∃ b o x, a = some ⟨b, o, none⟩ ∧ w.cell? ⟨b, o + k, none⟩ = some (.int .u8 x) ∧ xs[k]? = some x := by
  rcases h.mem with e | ⟨b, o, e, _, hr⟩
  · omega
  · have hx : k < xs.length := by rw [h.len]; exact hk
    exact ⟨b, o, xs[k], e, hr k _ (by unfold u8s; rw [List.getElem?_map, List.getElem?_eq_getElem hx]; rfl), List.getElem?_eq_getElem hx⟩
set_option maxRecDepth 100000 in
set_option maxHeartbeats 2000000 in
theorem l25 (a a' : Option Addr) (n n' c c' : Nat) (xs : List Int) (w : World) (h : By w a n c xs) (h' : By w a' n' c' xs) (hn : n ≤ 9223372036854775807) :
    Calls Try.prog 25 #[.slice a n c, .slice a' n' c'] w fun e w' => e = .returned (.bool true) ∧ Below w.heap.size w w' := by
  have e1 := h.len
  have e2 := h'.len
  obtain rfl : n' = n := by omega
  have HH : Hid (By w a n' c xs ∧ By w a' n' c' xs) := ⟨h, h'⟩
  clear h h' e1 e2
  go_enter Try.func25, Try.ntmps25
  go_wp2_with fail
  go_loopw [5] (fun i wr => ∃ j : Nat, j ≤ n' ∧ i = .int .i64 j ∧ Hid (Below w.heap.size w wr)) (fun i _ => n' - (intOf i).toNat)
  case atStart => exact ⟨0, Nat.zero_le _, rfl, Below.refl _ _⟩
  case round =>
    obtain ⟨j, hj, rfl, HJ⟩ := hrel
    by_cases hlt : j < n'
    · have hltI : (j : Int) < (n' : Int) := by omega
      have hj0 : (0 : Int) ≤ (j : Int) := by omega
      obtain ⟨b, o, x, rfl, p1, q1⟩ := (HH.out.1.below HJ.out).get hlt
      obtain ⟨b', o', x', rfl, p2, q2⟩ := (HH.out.2.below HJ.out).get hlt
      rw [q1] at q2
      cases q2
      clear q1
      go_wp2_with fail
      go_quiet (fail)
      go_wp2_with fail
      go_roundw
      case rel => exact ⟨j + 1, by omega, by go_num, below_dN HJ.out _⟩
      case measure => simp [intOf]; omega
    · have hltI : ¬ (j : Int) < (n' : Int) := by omega
      go_wp2_with fail
      go_ret
      exact ⟨rfl, HJ.out⟩
/-- A datagram's cells. -/
def encD (k : Nat) (s : Sl) : List Value := [.int .i64 0, .int .i64 1, .bool false, .int .i64 (k : Int), s.v]
def encAll : List Sl → Nat → List Value
  | [], _ => []
  | s :: r, k => encD k s ++ encAll r (k + 1)
theorem encAll_snoc : ∀ (l : List Sl) (k : Nat) (s : Sl), encAll (l ++ [s]) k = encAll l k ++ encD (k + l.length) s
  | [], k, s => by simp [encAll]
  | x :: r, k, s => by
    simp only [List.cons_append, encAll, encAll_snoc r (k + 1) s, List.append_assoc, List.length_cons]
    rw [show k + 1 + r.length = k + (r.length + 1) by omega]
theorem encAll_len : ∀ (l : List Sl) (k : Nat), (encAll l k).length = l.length * 5
  | [], _ => rfl
  | x :: r, k => by
    simp only [encAll, List.length_append, encAll_len r (k + 1), List.length_cons, encD, List.length_nil]
    omega
theorem encAll_get : ∀ (l : List Sl) (k j : Nat) (s : Sl), l[j]? = some s → ∀ i u, (encD (k + j) s)[i]? = some u → (encAll l k)[j * 5 + i]? = some u
  | [], _, _, _, h, _, _, _ => by simp at h
  | x :: r, k, 0, s, h, i, u, hu => by
    simp only [List.getElem?_cons_zero, Option.some.injEq] at h
    subst h
    have hi : i < 5 := by
      have := (List.getElem?_eq_some_iff.1 hu).1
      simpa [encD] using this
    simp only [encAll, Nat.zero_mul, Nat.zero_add]
    rw [List.getElem?_append_left (by simp [encD]; exact hi)]
    simpa using hu
  | x :: r, k, j + 1, s, h, i, u, hu => by
    simp only [List.getElem?_cons_succ] at h
    have h1 := encAll_get r (k + 1) j s h i u (by rw [show k + 1 + j = k + (j + 1) by omega]; exact hu)
    simp only [encAll]
    rw [List.getElem?_append_right (by simp [encD]; omega)]
    have e : (j + 1) * 5 + i - (encD k x).length = j * 5 + i := by simp [encD]; omega
    rw [e]
    exact h1
/-- What is kept: the sender's link, the taker's link, all that was sent, all that was taken. -/
structure Lo (W : World) (B la lb : Nat) (ls : List (List Int)) (fi : Nat) (s : Sl) (l : List Sl) (t : Nat) (av : Value) (ds : List Sl) (ta : Option Addr) (tc : Nat) (ts : List Sl) : Prop where
  lk : LkG W B la (fi : Int) s l
  lw : LwB W lb (t : Int)
  ne : la ≠ lb ∧ B ≤ lb ∧ B ≤ W.heap.size
  all : W.ownsRow B 36 5 av ds.length (encAll ds 0)
  dby : ∀ (k : Nat) (d : Sl) (xs : List Int), ds[k]? = some d → ls[k]? = some xs → Row W B 5 d.a d.n d.c (u8s xs)
  tk : Row W B 34 ta t tc (ts.map Sl.v)
  tby : ∀ (k : Nat) (d : Sl) (xs : List Int), ts[k]? = some d → ls[k]? = some xs → Row W B 5 d.a d.n d.c (u8s xs)
  ap : ∀ g, blk ta = some g → blk s.a ≠ some g
section
variable {W W' : World} {B la lb : Nat} {ls : List (List Int)} {fi : Nat} {s : Sl} {l : List Sl} {t : Nat} {av : Value} {ds : List Sl} {ta : Option Addr} {tc : Nat} {ts : List Sl}
theorem owns_kind {w : World} {B : Nat} {e : TypeId} {sz n : Nat} {v : Value} {xs : List Value} (h : w.ownsRow B e sz v n xs) {g : Nat} (hg : v.ownBlock = some g) : ∃ cu : Array Value, w.heap[g]? = some (.cells cu e (0, 0)) := by
  rcases h.2 with ⟨rfl, _⟩ | ⟨g', cap, cur, rfl, h2, h3, h4⟩
  · simp [Value.ownBlock] at hg
  · simp [Value.ownBlock] at hg
    subst hg
    exact ⟨cur, h3⟩
theorem owns_keeps {w w' : World} {B : Nat} {e : TypeId} {sz n : Nat} {v : Value} {xs : List Value} (h : w.ownsRow B e sz v n xs) (hk : ∀ g, v.ownBlock = some g → w'.heap[g]? = w.heap[g]?) : w'.ownsRow B e sz v n xs := by
  refine ⟨h.1, ?_⟩
  rcases h.2 with h1 | ⟨g', cap, cur, e1, h2, h3, h4⟩
  · exact .inl h1
  · exact .inr ⟨g', cap, cur, e1, h2, (hk g' (by rw [e1]; rfl)).trans h3, h4⟩
theorem Lo.below (h : Lo W B la lb ls fi s l t av ds ta tc ts) (hb : Below W.heap.size W W') : Lo W' B la lb ls fi s l t av ds ta tc ts :=
  ⟨h.lk.below hb, h.lw.below hb, ⟨h.ne.1, h.ne.2.1, Nat.le_trans h.ne.2.2 hb.size⟩, owns_below h.all hb, fun k d xs h1 h2 => (h.dby k d xs h1 h2).below hb, h.tk.below hb, fun k d xs h1 h2 => (h.tby k d xs h1 h2).below hb, h.ap⟩
/-- What is not the sender's stays where its link and its row are written. -/
theorem Lo.sender {fi' : Nat} {s' : Sl} {l' : List Sl} (h : Lo W B la lb ls fi s l t av ds ta tc ts) (hs : W.heap.size ≤ W'.heap.size) (hk : ∀ k, k < W.heap.size → k ≠ la → blk s.a ≠ some k → W'.heap[k]? = W.heap[k]?) (hl : LkG W' B la (fi' : Int) s' l') (ha : blk s'.a = blk s.a ∨ ∃ g, blk s'.a = some g ∧ W.heap.size ≤ g) : Lo W' B la lb ls fi' s' l' t av ds ta tc ts := by
  have hty : ∀ (k : Nat) (cu : Array Value) (e : TypeId), e ≠ 61 → e ≠ 34 → W.heap[k]? = some (.cells cu e (0, 0)) → W'.heap[k]? = W.heap[k]? := fun k cu e h1 h2 hc => by
    refine hk k (Array.getElem?_eq_some_iff.1 hc).1 (fun e3 => ?_) (fun e3 => ?_)
    · have h4 := h.lk.blk
      unfold LkB at h4
      rw [← e3, hc] at h4
      simp only [Option.some.injEq, Obj.cells.injEq] at h4
      exact h1 h4.2.1
    · obtain ⟨cu2, h4⟩ := h.lk.row.kind e3
      rw [hc] at h4
      simp only [Option.some.injEq, Obj.cells.injEq] at h4
      exact h2 h4.2.1
  have hby : ∀ {d : Sl} {xs : List Int}, Row W B 5 d.a d.n d.c (u8s xs) → Row W' B 5 d.a d.n d.c (u8s xs) := fun {d xs} hr => hr.keeps fun g hg => by
    obtain ⟨cu, h4⟩ := hr.kind hg
    exact hty g cu 5 (by decide) (by decide) h4
  refine ⟨hl, ?_, ⟨h.ne.1, h.ne.2.1, Nat.le_trans h.ne.2.2 hs⟩, owns_keeps h.all fun g hg => ?_, fun k d xs h1 h2 => hby (h.dby k d xs h1 h2), h.tk.keeps fun g hg => ?_, fun k d xs h1 h2 => hby (h.tby k d xs h1 h2), fun g hg e => ?_⟩
  · have h5 := h.lw
    unfold LwB at h5
    refine (hk lb (Array.getElem?_eq_some_iff.1 h5).1 (Ne.symm h.ne.1) (fun e => ?_)).trans h5
    obtain ⟨cu2, h4⟩ := h.lk.row.kind e
    rw [h5] at h4
    simp only [Option.some.injEq, Obj.cells.injEq] at h4
    exact absurd h4.2.1 (by decide)
  · obtain ⟨cu, h4⟩ := owns_kind h.all hg
    exact hty g cu 36 (by decide) (by decide) h4
  · refine hk g (h.tk.lt hg).2 (fun e => ?_) (h.ap g hg)
    obtain ⟨cu, h4⟩ := h.tk.kind hg
    have h5 := h.lk.blk
    unfold LkB at h5
    rw [← e, h4] at h5
    simp only [Option.some.injEq, Obj.cells.injEq] at h5
    exact absurd h5.2.1 (by decide)
  · rcases ha with e1 | ⟨g', e1, h6⟩
    · rw [e1] at e
      exact h.ap g hg e
    · rw [e1] at e
      cases e
      have := (h.tk.lt hg).2
      omega
/-- Another row of all that was sent. -/
theorem Lo.sent {av' : Value} {d : Sl} (h : Lo W B la lb ls fi s l t av ds ta tc ts) (hg : W.grownBy W' av.ownBlock) (ha : W'.ownsRow B 36 5 av' (ds.length + 1) (encAll ds 0 ++ encD ds.length d)) (hd : ∀ xs, ls[ds.length]? = some xs → Row W B 5 d.a d.n d.c (u8s xs)) : Lo W' B la lb ls fi s l t av' (ds ++ [d]) ta tc ts := by
  have hty : ∀ (k : Nat) (cu : Array Value) (e : TypeId), e ≠ 36 → W.heap[k]? = some (.cells cu e (0, 0)) → W'.heap[k]? = W.heap[k]? := fun k cu e h1 hc => by
    refine hg.block k (Array.getElem?_eq_some_iff.1 hc).1 fun e3 => ?_
    obtain ⟨cu2, h4⟩ := owns_kind h.all e3.symm
    rw [hc] at h4
    simp only [Option.some.injEq, Obj.cells.injEq] at h4
    exact h1 h4.2.1
  have hby : ∀ {d : Sl} {xs : List Int}, Row W B 5 d.a d.n d.c (u8s xs) → Row W' B 5 d.a d.n d.c (u8s xs) := fun {d xs} hr => hr.keeps fun g hg => by
    obtain ⟨cu, h4⟩ := hr.kind hg
    exact hty g cu 5 (by decide) h4
  refine ⟨⟨(hty la _ 61 (by decide) h.lk.blk).trans h.lk.blk, h.lk.hb, h.lk.row.keeps fun g hg => ?_, fun x hx => ?_⟩, (hty lb _ 61 (by decide) h.lw).trans h.lw, ⟨h.ne.1, h.ne.2.1, Nat.le_trans h.ne.2.2 hg.size⟩, ?_, fun k x xs h1 h2 => ?_, h.tk.keeps fun g hg => ?_, fun k x xs h1 h2 => hby (h.tby k x xs h1 h2), h.ap⟩
  · obtain ⟨cu, h4⟩ := h.lk.row.kind hg
    exact hty g cu 34 (by decide) h4
  · obtain ⟨xs, h1, h2⟩ := h.lk.bys x hx
    exact ⟨xs, hby h1, h2⟩
  · rw [encAll_snoc, Nat.zero_add, List.length_append]
    exact ha
  · by_cases hk : k < ds.length
    · rw [List.getElem?_append_left hk] at h1
      exact hby (h.dby k x xs h1 h2)
    · have h3 := (List.getElem?_eq_some_iff.1 h1).1
      simp only [List.length_append, List.length_singleton] at h3
      obtain rfl : k = ds.length := by omega
      simp at h1
      subst h1
      exact hby (hd xs h2)
  · obtain ⟨cu, h4⟩ := h.tk.kind hg
    exact hty g cu 34 (by decide) h4
/-- Another row of all that was taken. -/
theorem Lo.taken {ta' : Option Addr} {tc' : Nat} {d : Sl} (h : Lo W B la lb ls fi s l t av ds ta tc ts) (hg : W.grownBy W' (blk ta)) (ha : Row W' B 34 ta' (t + 1) tc' (ts.map Sl.v ++ [d.v])) (hor : ta' = ta ∨ ∃ g, ta' = some ⟨g, 0, none⟩ ∧ W.heap.size ≤ g) (hd : ∀ xs, ls[ts.length]? = some xs → Row W B 5 d.a d.n d.c (u8s xs)) (hw : LwB W lb (t : Int)) :
    LkG W' B la (fi : Int) s l ∧ LwB W' lb (t : Int) ∧ B ≤ W'.heap.size ∧ W'.ownsRow B 36 5 av ds.length (encAll ds 0) ∧ (∀ (k : Nat) (d : Sl) (xs : List Int), ds[k]? = some d → ls[k]? = some xs → Row W' B 5 d.a d.n d.c (u8s xs)) ∧ Row W' B 34 ta' (t + 1) tc' ((ts ++ [d]).map Sl.v) ∧ (∀ (k : Nat) (x : Sl) (xs : List Int), (ts ++ [d])[k]? = some x → ls[k]? = some xs → Row W' B 5 x.a x.n x.c (u8s xs)) ∧ ∀ g, blk ta' = some g → blk s.a ≠ some g := by
  have hty : ∀ (k : Nat) (cu : Array Value) (e : TypeId), e ≠ 34 → W.heap[k]? = some (.cells cu e (0, 0)) → W'.heap[k]? = W.heap[k]? := fun k cu e h1 hc => by
    refine hg.block k (Array.getElem?_eq_some_iff.1 hc).1 fun e3 => ?_
    obtain ⟨cu2, h4⟩ := h.tk.kind e3.symm
    rw [hc] at h4
    simp only [Option.some.injEq, Obj.cells.injEq] at h4
    exact h1 h4.2.1
  have hby : ∀ {d : Sl} {xs : List Int}, Row W B 5 d.a d.n d.c (u8s xs) → Row W' B 5 d.a d.n d.c (u8s xs) := fun {d xs} hr => hr.keeps fun g hg => by
    obtain ⟨cu, h4⟩ := hr.kind hg
    exact hty g cu 5 (by decide) h4
  refine ⟨⟨(hty la _ 61 (by decide) h.lk.blk).trans h.lk.blk, h.lk.hb, h.lk.row.keeps fun g hg2 => hg.block g (h.lk.row.lt hg2).2 (fun e => h.ap g e.symm hg2), fun x hx => ?_⟩, (hty lb _ 61 (by decide) hw).trans hw, Nat.le_trans h.ne.2.2 hg.size, owns_keeps h.all fun g hg => ?_, fun k x xs h1 h2 => hby (h.dby k x xs h1 h2), by rw [List.map_append]; exact ha, fun k x xs h1 h2 => ?_, fun g hg2 e => ?_⟩
  · obtain ⟨xs, h1, h2⟩ := h.lk.bys x hx
    exact ⟨xs, hby h1, h2⟩
  · obtain ⟨cu, h4⟩ := owns_kind h.all hg
    exact hty g cu 36 (by decide) h4
  · by_cases hk : k < ts.length
    · rw [List.getElem?_append_left hk] at h1
      exact hby (h.tby k x xs h1 h2)
    · have h3 := (List.getElem?_eq_some_iff.1 h1).1
      simp only [List.length_append, List.length_singleton] at h3
      obtain rfl : k = ts.length := by omega
      simp at h1
      subst h1
      exact hby (hd xs h2)
  · rcases hor with e1 | ⟨g', e1, h6⟩
    · rw [e1] at hg2
      exact h.ap g hg2 e
    · rw [e1] at hg2
      simp only [blk_some, Option.some.injEq] at hg2
      subst hg2
      have := (h.lk.row.lt e).2
      omega
/-- The taker's link notes it. -/
theorem Lo.note (hp : LkG W B la (fi : Int) s l ∧ LwB W lb (t : Int) ∧ B ≤ W.heap.size ∧ W.ownsRow B 36 5 av ds.length (encAll ds 0) ∧ (∀ (k : Nat) (d : Sl) (xs : List Int), ds[k]? = some d → ls[k]? = some xs → Row W B 5 d.a d.n d.c (u8s xs)) ∧ Row W B 34 ta (t + 1) tc (ts.map Sl.v) ∧ (∀ (k : Nat) (x : Sl) (xs : List Int), ts[k]? = some x → ls[k]? = some xs → Row W B 5 x.a x.n x.c (u8s xs)) ∧ ∀ g, blk ta = some g → blk s.a ≠ some g) (hne : la ≠ lb ∧ B ≤ lb) (hw : LwB W' lb ((t : Int) + 1)) (hs : W'.heap.size = W.heap.size) (hk : ∀ k, k ≠ lb → W'.heap[k]? = W.heap[k]?) : Lo W' B la lb ls fi s l (t + 1) av ds ta tc ts := by
  obtain ⟨p1, p2, p3, p4, p5, p6, p7, p8⟩ := hp
  have hnl : ∀ (k : Nat) (cu : Array Value) (e : TypeId), e ≠ 61 → W.heap[k]? = some (.cells cu e (0, 0)) → W'.heap[k]? = W.heap[k]? := fun k cu e h1 hc => hk k fun e3 => by
    have h4 := p2
    unfold LwB at h4
    rw [← e3, hc] at h4
    simp only [Option.some.injEq, Obj.cells.injEq] at h4
    exact h1 h4.2.1
  have hby : ∀ {d : Sl} {xs : List Int}, Row W B 5 d.a d.n d.c (u8s xs) → Row W' B 5 d.a d.n d.c (u8s xs) := fun {d xs} hr => hr.keeps fun g hg => by
    obtain ⟨cu, h4⟩ := hr.kind hg
    exact hnl g cu 5 (by decide) h4
  refine ⟨⟨(hk la hne.1).trans p1.blk, p1.hb, p1.row.keeps fun g hg => ?_, fun x hx => ?_⟩, by rw [show ((t + 1 : Nat) : Int) = (t : Int) + 1 by omega]; exact hw, ⟨hne.1, hne.2, by rw [hs]; exact p3⟩, owns_keeps p4 fun g hg => ?_, fun k x xs h1 h2 => hby (p5 k x xs h1 h2), p6.keeps fun g hg => ?_, fun k x xs h1 h2 => hby (p7 k x xs h1 h2), p8⟩
  · obtain ⟨cu, h4⟩ := p1.row.kind hg
    exact hnl g cu 34 (by decide) h4
  · obtain ⟨xs, h1, h2⟩ := p1.bys x hx
    exact ⟨xs, hby h1, h2⟩
  · obtain ⟨cu, h4⟩ := owns_kind p4 hg
    exact hnl g cu 36 (by decide) h4
  · obtain ⟨cu, h4⟩ := p6.kind hg
    exact hnl g cu 34 (by decide) h4
end
theorem LkG.toO {w : World} {B lb : Nat} {fi : Int} {s : Sl} {l : List Sl} (h : LkG w B lb fi s l) : LkO w lb fi s l := by
  have hlen : l.length = s.n := by have := h.row.len; rw [List.length_map] at this; exact this
  refine ⟨h.blk, hlen.symm, fun k t e => ?_, fun t ht => ?_⟩
  · have hk := (List.getElem?_eq_some_iff.1 e).1
    rcases h.row.mem with ⟨_, e1⟩ | ⟨g, o, e1, _, ⟨cu, e4, _⟩, e3⟩
    · have := h.row.cap; omega
    · exact ⟨g, o, e1, (Array.getElem?_eq_some_iff.1 e4).1, e3 k t.v (by rw [List.getElem?_map, e]; rfl)⟩
  · obtain ⟨xs, k1, k2, k3⟩ := h.bys t ht
    exact ⟨xs, k1.by k2, k3⟩
end Go.Proofs.Ytnhomejenjinaaa
