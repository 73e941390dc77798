/- A row of amounts of the call's own; the plain side of TopShares. -/
import Derived.Test.YtopapmnoepnpcaaDoorCK
namespace Go.Proofs.YtopapmnoepnpcaaDoor
open Go.RowKit
/-- An amount as it lies in a row: units, and where its Bits are. -/
abbrev El := Int × Option Addr × Nat × Nat
def flatA : List El → List Value
  | [] => []
  | x :: l => .int .i64 x.1 :: .slice x.2.1 x.2.2.1 x.2.2.2 :: flatA l
theorem flatA_len : ∀ l : List El, (flatA l).length = l.length * 2
  | [] => rfl
  | _ :: l => by simp only [flatA, List.length_cons]; rw [flatA_len l]; omega
theorem flatA_get : ∀ (l : List El) (i : Nat) (hi : i < l.length), (flatA l)[i * 2]? = some (.int .i64 l[i].1) ∧ (flatA l)[i * 2 + 1]? = some (.slice l[i].2.1 l[i].2.2.1 l[i].2.2.2)
  | x :: l, 0, _ => ⟨rfl, rfl⟩
  | x :: l, i + 1, hi => by
    have h := flatA_get l i (by simpa using hi)
    have e1 : (i + 1) * 2 = i * 2 + 1 + 1 := by omega
    rw [e1]
    simpa [flatA] using h
theorem flatA_append : ∀ (l m : List El), flatA (l ++ m) = flatA l ++ flatA m
  | [], _ => rfl
  | x :: l, m => by simp only [List.cons_append, flatA]; rw [flatA_append l m]
theorem flatA_set : ∀ (l : List El) (i : Nat) (x : El), i < l.length → flatA (l.set i x) = ((flatA l).set (i * 2) (.int .i64 x.1)).set (i * 2 + 1) (.slice x.2.1 x.2.2.1 x.2.2.2)
  | y :: l, 0, x, _ => rfl
  | y :: l, i + 1, x, h => by
    have e1 : (i + 1) * 2 = i * 2 + 1 + 1 := by omega
    rw [e1]
    simp only [List.set_cons_succ, flatA]
    rw [flatA_set l i x (by simpa using h)]
theorem flatA_one (l : List El) : ∀ u ∈ flatA l, u.oneCell' = true := by
  induction l with
  | nil => intro u hu; cases hu
  | cons x l ih =>
    intro u hu
    simp only [flatA, List.mem_cons] at hu
    rcases hu with rfl | rfl | hu
    · rfl
    · rfl
    · exact ih u hu
/-- A row of amounts in a block of the call's own. -/
structure Tp (w0 w : World) (g n c : Nat) (xs : List El) (l : List Amt) : Prop where
  row : w.ownsRow w0.heap.size 24 2 (.slice (some ⟨g, 0, none⟩) n c) n (flatA xs)
  len : xs.length = n
  len' : l.length = n
  el : ∀ i (h : i < xs.length) (h' : i < l.length), xs[i].1 = l[i].1 ∧ Sl w xs[i].2.1 xs[i].2.2.1 xs[i].2.2.2 l[i].2 ∧ blk xs[i].2.1 ≠ some g ∧ ∀ b, blk xs[i].2.1 = some b → b < w.heap.size
  bel : Below w0.heap.size w0 w
section
variable {w0 w w' : World} {g n c : Nat} {xs : List El} {l : List Amt}
theorem Tp.blk (h : Tp w0 w g n c xs l) (_ : 0 < n ∨ True) : ∃ cur, w.heap[g]? = some (.cells cur 24 (0, 0)) ∧ w0.heap.size ≤ g ∧ n ≤ c ∧ c ≤ maxLen ∧ cur.size = c * 2 ∧ cur.toList.take (n * 2) = flatA xs := by
  rcases h.row.2 with ⟨e, _⟩ | ⟨g', cap, cur, e, h1, h2, h3, h4, h5, h6⟩
  · cases e
  · cases e; exact ⟨cur, h2, h1, h3, h4, h5, h6⟩
theorem Tp.lt (h : Tp w0 w g n c xs l) : g < w.heap.size := by
  obtain ⟨cur, h1, _⟩ := h.blk (.inr trivial)
  exact (Array.getElem?_eq_some_iff.1 h1).1
theorem Tp.cells (h : Tp w0 w g n c xs l) {i : Nat} (hi : i < xs.length) : w.cell? ⟨g, i * 2, none⟩ = some (.int .i64 xs[i].1) ∧ w.cell? ⟨g, i * 2 + 1, none⟩ = some (.slice xs[i].2.1 xs[i].2.2.1 xs[i].2.2.2) := by
  obtain ⟨cur, h1, h2, h3, h4, h5, h6⟩ := h.blk (.inr trivial)
  obtain ⟨f1, f2⟩ := flatA_get xs i hi
  have hn := h.len
  have key : ∀ j v, j < n * 2 → (flatA xs)[j]? = some v → w.cell? ⟨g, j, none⟩ = some v := fun j v hj hv => by
    rw [cell_of_row w g j _ 24 (0, 0) h1]
    rw [← h6, List.getElem?_take_of_lt hj] at hv
    simpa using hv
  exact ⟨key _ _ (by omega) f1, key _ _ (by omega) f2⟩
theorem Tp.keeps (h : Tp w0 w g n c xs l) (hk : w'.heap[g]? = w.heap[g]?) (hs : ∀ i (hi : i < xs.length) (h' : i < l.length), Sl w' xs[i].2.1 xs[i].2.2.1 xs[i].2.2.2 l[i].2) (hz : w.heap.size ≤ w'.heap.size) (hb : Below w0.heap.size w0 w') : Tp w0 w' g n c xs l := by
  refine ⟨⟨h.row.1, ?_⟩, h.len, h.len', fun i h1 h2 => ⟨(h.el i h1 h2).1, hs i h1 h2, (h.el i h1 h2).2.2.1, fun b e => Nat.lt_of_lt_of_le ((h.el i h1 h2).2.2.2 b e) hz⟩, hb⟩
  obtain ⟨cur, h1, h2, h3, h4, h5, h6⟩ := h.blk (.inr trivial)
  exact .inr ⟨g, c, cur, rfl, h2, hk.trans h1, h3, h4, h5, h6⟩
theorem Tp.below (h : Tp w0 w g n c xs l) (hb : Below w.heap.size w w') : Tp w0 w' g n c xs l :=
  h.keeps (hb.block g h.lt) (fun i h1 h2 => (h.el i h1 h2).2.1.below hb) hb.size (h.bel.trans (hb.mono h.bel.size))
theorem Tp.amr (h : Tp w0 w g n c xs l) (k : Nat) (hk : k ≤ n) : AmR w (some ⟨g, 0, none⟩) k (l.take k) := by
  have h1 := h.len
  have h2 := h.len'
  refine ⟨by rw [List.length_take]; omega, fun i hi => ?_⟩
  rw [List.length_take] at hi
  obtain ⟨c0, c1⟩ := h.cells (i := i) (by omega)
  obtain ⟨e0, e1, e2, _⟩ := h.el i (by omega) (by omega)
  have hx : i < xs.length := by omega
  refine ⟨g, 0, xs[i].2.1, xs[i].2.2.1, xs[i].2.2.2, rfl, h.lt, ?_, ?_, ?_⟩
  · rw [Nat.zero_add, c0]; simp [e0]
  · rw [Nat.zero_add]; exact c1
  · simpa using e1
theorem sl_set {a : Option Addr} {m k : Nat} {B : List Int} (h : Sl w a m k B) (p : Addr) (v : Value) (hne : Go.Proofs.YtopapmnoepnpcaaDoor.blk a ≠ some p.block) : Sl (w.setCell p v) a m k B := ⟨in_set h.i p v hne, h.max, h.cap, h.nil⟩
theorem Tp.put (h : Tp w0 w g n c xs l) {k : Nat} (hk : k < n) (x : El) (y : Amt) (hx : x.1 = y.1) (hs : Sl w x.2.1 x.2.2.1 x.2.2.2 y.2) (hne : Go.Proofs.YtopapmnoepnpcaaDoor.blk x.2.1 ≠ some g) (hlt : ∀ b, Go.Proofs.YtopapmnoepnpcaaDoor.blk x.2.1 = some b → b < w.heap.size) :
    Tp w0 ((w.setCell ⟨g, k * 2, none⟩ (.int .i64 x.1)).setCell ⟨g, k * 2 + 1, none⟩ (.slice x.2.1 x.2.2.1 x.2.2.2)) g n c (xs.set k x) (l.set k y) := by
  have hn := h.len
  have s1 := h.row.stored (k * 2) (.int .i64 x.1)
  have s2 := s1.1.stored (k * 2 + 1) (.slice x.2.1 x.2.2.1 x.2.2.2)
  obtain ⟨_, _, hg, _⟩ := h.blk (.inr trivial)
  refine ⟨by rw [flatA_set xs k x (by omega)]; exact s2.1, by simp [hn], by simp [h.len'], fun i h1 h2 => ?_, (h.bel.setCell (p := ⟨g, k * 2, none⟩) hg _).setCell (p := ⟨g, k * 2 + 1, none⟩) hg _⟩
  simp only [List.length_set] at h1 h2
  simp only [List.getElem_set]
  by_cases e : k = i
  · simp only [e, if_true]
    exact ⟨hx, sl_set (sl_set hs _ _ hne) _ _ hne, hne, fun b hb => by simpa using hlt b hb⟩
  · simp only [e, if_false]
    obtain ⟨e0, e1, e2, e3⟩ := h.el i h1 h2
    exact ⟨e0, sl_set (sl_set e1 _ _ e2) _ _ e2, e2, fun b hb => by simpa using e3 b hb⟩
theorem sl_keeps {a : Option Addr} {m k : Nat} {B : List Int} (h : Sl w a m k B) (hk : ∀ b, Go.Proofs.YtopapmnoepnpcaaDoor.blk a = some b → w'.heap[b]? = w.heap[b]?) (hz : w.heap.size ≤ w'.heap.size) : Sl w' a m k B := by
  refine ⟨⟨h.i.len, ?_⟩, h.max, h.cap, h.nil⟩
  rcases h.i.mem with e | ⟨b, o, e, hl, hr⟩
  · exact .inl e
  · refine .inr ⟨b, o, e, by omega, fun j u hu => ?_⟩
    have h1 := hr j u hu
    have h2 := hk b (by rw [e]; rfl)
    unfold World.cell? at h1 ⊢
    simp only [h2]
    exact h1
/-- One more behind the last one. -/
theorem Tp.app (h : Tp w0 w g n c xs l) {v' : Value} (x : El) (y : Amt) (hx : x.1 = y.1) (hs : Sl w x.2.1 x.2.2.1 x.2.2.2 y.2) (hne : Go.Proofs.YtopapmnoepnpcaaDoor.blk x.2.1 ≠ some g) (hlt : ∀ b, Go.Proofs.YtopapmnoepnpcaaDoor.blk x.2.1 = some b → b < w.heap.size)
    (hr : w'.ownsRow w0.heap.size 24 2 v' (n + 1) (flatA xs ++ flatA [x])) (hg : w.grownBy w' (some g)) (hor : v'.ownBlock = some g ∨ v'.ownBlock = some w.heap.size) :
    ∃ g' c', v' = .slice (some ⟨g', 0, none⟩) (n + 1) c' ∧ Tp w0 w' g' (n + 1) c' (xs ++ [x]) (l ++ [y]) ∧ (g' = g ∨ g' = w.heap.size) := by
  rcases hr.2 with ⟨_, e⟩ | ⟨g', cap, cur, e, h1, h2, h3, h4, h5, h6⟩
  · omega
  · subst e
    have hgo : g' = g ∨ g' = w.heap.size := by
      rcases hor with e | e
      · exact .inl (by simpa [Value.ownBlock] using e)
      · exact .inr (by simpa [Value.ownBlock] using e)
    have hn := h.len
    have hn' := h.len'
    have kb : ∀ b, b < w.heap.size → b ≠ g → w'.heap[b]? = w.heap[b]? := fun b hb hbg => hg.block b hb (by simpa using hbg)
    have good : ∀ (a : Option Addr) (m k : Nat) (B : List Int), Sl w a m k B → Go.Proofs.YtopapmnoepnpcaaDoor.blk a ≠ some g → (∀ b, Go.Proofs.YtopapmnoepnpcaaDoor.blk a = some b → b < w.heap.size) → Sl w' a m k B ∧ Go.Proofs.YtopapmnoepnpcaaDoor.blk a ≠ some g' ∧ ∀ b, Go.Proofs.YtopapmnoepnpcaaDoor.blk a = some b → b < w'.heap.size := fun a m k B s1 s2 s3 =>
      ⟨sl_keeps s1 (fun b hb => kb b (s3 b hb) fun e => s2 (by rw [hb, e])) hg.size, fun e => by
        rcases hgo with e2 | e2
        · exact s2 (by rw [e, e2])
        · have := s3 g' e; omega, fun b hb => Nat.lt_of_lt_of_le (s3 b hb) hg.size⟩
    obtain ⟨_, _, hgb, _⟩ := h.blk (.inr trivial)
    refine ⟨g', cap, rfl, ⟨by rw [flatA_append]; exact hr, by simp [hn], by simp [hn'], fun i i1 i2 => ?_, h.bel.trans ⟨hg.os, hg.tape, hg.output, hg.size, fun j hj => kb j (Nat.lt_of_lt_of_le hj h.bel.size) (by omega)⟩⟩, hgo⟩
    by_cases hi : i < n
    · obtain ⟨e0, e1, e2, e3⟩ := h.el i (by omega) (by omega)
      obtain ⟨k1, k2, k3⟩ := good _ _ _ _ e1 e2 e3
      rw [List.getElem_append_left (by omega), List.getElem_append_left (by omega)]
      exact ⟨e0, k1, k2, k3⟩
    · obtain rfl : i = n := by simp at i1; omega
      obtain ⟨k1, k2, k3⟩ := good _ _ _ _ hs hne hlt
      rw [List.getElem_append_right (by omega), List.getElem_append_right (by omega)]
      simp only [hn, hn', Nat.sub_self, List.getElem_cons_zero]
      exact ⟨hx, k1, k2, k3⟩
end
theorem valS_append (N : Nat) : ∀ l m : List Amt, valS N (l ++ m) = valS N l + valS N m
  | [], m => by simp [valS]
  | x :: l, m => by simp only [List.cons_append, valS]; rw [valS_append N l m]; omega
theorem valS_set (N : Nat) : ∀ (l : List Amt) (k : Nat) (y : Amt) (hk : k < l.length), valS N (l.set k y) + val N l[k].1 l[k].2 = valS N l + val N y.1 y.2
  | x :: l, 0, y, _ => by simp only [List.set_cons_zero, valS, List.getElem_cons_zero]; omega
  | x :: l, k + 1, y, hk => by
    have := valS_set N l k y (by simpa using hk)
    simp only [List.set_cons_succ, valS, List.getElem_cons_succ]
    omega
theorem valS_reverse (N : Nat) (l : List Amt) : valS N l.reverse = valS N l := by
  induction l with
  | nil => rfl
  | cons x l ih => rw [List.reverse_cons, valS_append, ih]; simp only [valS]; omega
/-- A share of one unit: the unit, or one Bit. -/
def share (k : Int) (x : Amt) : Prop := x = (1, []) ∨ ∃ b, x = (0, [b]) ∧ 1 ≤ b ∧ b ≤ k
theorem share_right {k : Int} (hk : k ≤ 1000) {x : Amt} (h : share k x) : rightB x.1 x.2 = true := by
  rcases h with rfl | ⟨b, rfl, h1, h2⟩
  · decide
  · simp [rightB, riseB]; omega
theorem share_pos (N : Nat) {k : Int} {x : Amt} (h : share k x) : 0 < val N x.1 x.2 := by
  have := pw_pos N 0
  rcases h with rfl | ⟨b, rfl, h1, h2⟩
  · simp only [val, vl]; omega
  · have := pw_pos N b
    simp only [val, vl]; omega
/-- Both halves. -/
def half (x : Amt) : Amt := match x.2 with
  | [] => (0, [1])
  | b :: _ => (0, [b + 1])
theorem share_half {k : Int} (hk : 0 ≤ k) {x : Amt} (h : share k x) : share (k + 1) (half x) ∧ ∀ N : Nat, 1048576 ≤ N → k ≤ 1000 → val N (half x).1 (half x).2 + val N (half x).1 (half x).2 = val N x.1 x.2 := by
  rcases h with rfl | ⟨b, rfl, h1, h2⟩
  · refine ⟨.inr ⟨1, rfl, by omega, by omega⟩, fun N hN _ => ?_⟩
    have := pw_double N 1 (by omega) (by omega)
    simp only [half, val, vl]
    simp only [Int.sub_self] at this
    omega
  · refine ⟨.inr ⟨b + 1, rfl, by omega, by omega⟩, fun N hN hk2 => ?_⟩
    have := pw_double N (b + 1) (by omega) (by omega)
    rw [show b + 1 - 1 = b by omega] at this
    simp only [half, val, vl]
    omega
theorem share_mono {k : Int} {x : Amt} (h : share k x) : share (k + 1) x := by
  rcases h with e | ⟨b, e, h1, h2⟩
  · exact .inl e
  · exact .inr ⟨b, e, h1, by omega⟩
theorem valS_take_lt (N : Nat) {k : Int} (l : List Amt) (h : ∀ x ∈ l, share k x) (i : Nat) (hi : i < l.length) : 0 ≤ valS N (l.take i) ∧ valS N (l.take i) < valS N l := by
  have pos : ∀ m : List Amt, (∀ x ∈ m, share k x) → 0 ≤ valS N m := fun m => by
    induction m with
    | nil => intro _; simp [valS]
    | cons x m ih =>
      intro hm
      have := share_pos N (hm x List.mem_cons_self)
      have := ih fun z hz => hm z (List.mem_cons_of_mem _ hz)
      simp only [valS]; omega
  have e : l = l.take i ++ l[i] :: l.drop (i + 1) := by rw [← List.drop_eq_getElem_cons hi, List.take_append_drop]
  have h1 := pos (l.take i) fun x hx => h x (List.mem_of_mem_take hx)
  have h2 := pos (l.drop (i + 1)) fun x hx => h x (List.mem_of_mem_drop hx)
  have h3 := share_pos N (h l[i] (List.getElem_mem hi))
  have h4 : valS N l = valS N (l.take i) + (val N l[i].1 l[i].2 + valS N (l.drop (i + 1))) := by
    conv => lhs; rw [e]
    rw [valS_append]; rfl
  exact ⟨h1, by omega⟩
end Go.Proofs.YtopapmnoepnpcaaDoor
