/- The reference's Send of a link of two nodes. -/
import Derived.Test.YtnhomejenjinaaaLP
namespace Go.Proofs.Ytnhomejenjinaaa
open Go.RowKit
attribute [local go_sem ↓] Go.wp_at_zero Go.wp_at_succ
theorem step_append_own {P : Program} {ops : Array Oper} {o : Oper} {a : Act} {w : World} {K : Act → World → Prop} {Q : Exit → Act → World → Prop} {E : Prop} (hgd : o.guard = none) (s x : Operand) (t : TypeId)
    (ho : o.op = .call { callee := .builtin .append, args := #[s, x], argTypes := #[t, t] })
    (base : Nat) (e : TypeId) (i : TypeInfo) (z : Value) (size bytes : Nat) (ht : P.underlying t = some (.slice e)) (hi : P.info? e = some i) (hz : i.zero = some z)
    (hsize : i.size = size) (hby : i.bytes = bytes) (hzs : z.cells.size = size) (hsz : 0 < size)
    (v : Value) (n : Nat) (xs : List Value) (hs : a.eval s = v) (hown : w.ownsRow base e size v n xs)
    (ad : Addr) (m c : Nat) (news : List Value) (hx : a.eval x = .slice (some ad) m c) (hl : news.length = m * size) (hnews : ∀ j u, news[j]? = some u → w.cell? (ad.add j) = some u) (h1 : ∀ u ∈ news, u.oneCell' = true)
    (h63 : n + m ≤ maxLen) (hbytes : (n + m) * bytes ≤ 140737488355328) (hbase : base ≤ w.heap.size)
    (h : ∀ v' w', w'.ownsRow base e size v' (n + m) (xs ++ news) → w.grownBy w' v.ownBlock → (v' = .slice none 0 0 ↔ v = .slice none 0 0 ∧ m = 0) → K (a.put o.dst v') w') :
    if Region.wanted o (yielded ops a.tmps) = true then Oper.wp P o a w K Q else E := by
  have hw : Region.wanted o (yielded ops a.tmps) = true := by simp [Region.wanted, hgd]
  rw [if_pos hw]
  exact wp_append_own w s x t ho base e i z size bytes ht hi hz hsize hby hzs hsz v n xs hs hown ad m c news hx hl hnews h1 h63 hbytes hbase h
/-- The reference's link: what it sent, numbered from 0 on. -/
structure RkG (w : World) (B rb : Nat) (ov : Value) (ds : List Sl) (ms : List (List Int)) : Prop where
  blk : RkB w rb (ds.length : Int) ov
  hb : B ≤ rb ∧ B ≤ w.heap.size
  row : w.ownsRow B 36 5 ov ds.length (encAll ds 0)
  len : ds.length = ms.length
  by' : ∀ (k : Nat) (d : Sl) (xs : List Int), ds[k]? = some d → ms[k]? = some xs → Row w B 5 d.a d.n d.c (u8s xs)
theorem RkG.below {w w' : World} {B rb : Nat} {ov : Value} {ds : List Sl} {ms : List (List Int)} (h : RkG w B rb ov ds ms) (hb : Below w.heap.size w w') : RkG w' B rb ov ds ms :=
  ⟨h.blk.below hb, ⟨h.hb.1, Nat.le_trans h.hb.2 hb.size⟩, owns_below h.row hb, h.len, fun k d xs h1 h2 => (h.by' k d xs h1 h2).below hb⟩
/-- Three of the reference's cells, and old memory. -/
abbrev RqS (W0 : World) (rb : Nat) (sn : Int) (ov : Value) (X : World) : Prop := X.cell? ⟨rb, 0, none⟩ = some (.int .i64 0) ∧ X.cell? ⟨rb, 3, none⟩ = some (.int .i64 sn) ∧ X.cell? ⟨rb, 11, none⟩ = some ov ∧ Hid (Below W0.heap.size W0 X)
theorem rq_of {W0 X : World} {rb : Nat} {sn : Int} {ov : Value} (h : RkB W0 rb sn ov) (hb : Below W0.heap.size W0 X) : RqS W0 rb sn ov X := by
  obtain ⟨c0, c1, c3, c7, c10, c11, c12, c13, f3, f11⟩ := (h.below hb).cells
  exact ⟨c0, c3, c11, hb⟩
theorem rk_blk {Y Z w4 : World} {B rb n : Nat} {sn : Int} {ov : Value} {xs : List Value} (h : RkB Y rb sn ov) (hr : Y.ownsRow B 36 5 ov n xs) (hZ : Below Y.heap.size Y Z) (hg : Z.grownBy w4 ov.ownBlock) : RkB w4 rb sn ov := by
  have hl := (Array.getElem?_eq_some_iff.1 h).1
  refine (hg.block rb (Nat.lt_of_lt_of_le hl hZ.size) fun e => ?_).trans ((hZ.block rb hl).trans h)
  obtain ⟨cu, h4⟩ := owns_kind hr e.symm
  unfold RkB at h
  rw [h] at h4
  cases h4
/-- What the reference's Send leaves, ahead of its answer. -/
structure RkE (W X Y w Z : World) (B rb r6 r8 sn : Nat) (ov : Value) (ds : List Sl) (ms : List (List Int)) (va : Option Addr) (vc : Nat) (d : Sl) (xs : List Int) : Prop where
  b8 : Z.heap[r8]? = some (.cells #[.int .i64 0, .int .i64 1, .bool false, .int .i64 (sn : Int), d.v] 36 (0, 0))
  b6 : Z.heap[r6]? = some (.cells dz 36 (0, 0))
  ne : r6 ≠ r8
  fin : ∀ u0 u1 u2 u3 u4 : Value, ∃ ov' d', RkG (((((Z.setCell ⟨r6, 0, none⟩ u0).setCell ⟨r6, 1, none⟩ u1).setCell ⟨r6, 2, none⟩ u2).setCell ⟨r6, 3, none⟩ u3).setCell ⟨r6, 4, none⟩ u4) B rb ov' (ds ++ [d']) (ms ++ [xs]) ∧ Below B w (((((Z.setCell ⟨r6, 0, none⟩ u0).setCell ⟨r6, 1, none⟩ u1).setCell ⟨r6, 2, none⟩ u2).setCell ⟨r6, 3, none⟩ u3).setCell ⟨r6, 4, none⟩ u4) ∧ w.heap.size ≤ (((((Z.setCell ⟨r6, 0, none⟩ u0).setCell ⟨r6, 1, none⟩ u1).setCell ⟨r6, 2, none⟩ u2).setCell ⟨r6, 3, none⟩ u3).setCell ⟨r6, 4, none⟩ u4).heap.size ∧ ∀ k, k < w.heap.size → k ≠ rb → ov.ownBlock ≠ some k → (((((Z.setCell ⟨r6, 0, none⟩ u0).setCell ⟨r6, 1, none⟩ u1).setCell ⟨r6, 2, none⟩ u2).setCell ⟨r6, 3, none⟩ u3).setCell ⟨r6, 4, none⟩ u4).heap[k]? = w.heap[k]?
theorem rk_end {W X Y Z1 w4 w Z : World} {B rb r6 r8 sn : Nat} {ov : Value} {ds : List Sl} {ms : List (List Int)} {va : Option Addr} {vc : Nat} {d : Sl} {xs : List Int} (h : RkG W B rb ov ds ms) (h6 : W.heap[r6]? = some (.cells dz 36 (0, 0))) (hwW : Below w.heap.size w W) (hw6 : w.heap.size = r6) (hB0 : B ≤ w.heap.size) (hov : ∀ g, ov.ownBlock = some g → g < w.heap.size)
    (hX : Below W.heap.size W X) (h8 : X.heap[r8]? = some (.cells #[.int .i64 0, .int .i64 1, .bool false, .int .i64 (sn : Int), d.v] 36 (0, 0))) (hd : Row X W.heap.size 5 d.a d.n d.c (u8s xs)) (hr8 : W.heap.size ≤ r8) (k1 : RkB Y rb ((sn : Int) + 1) ov) (k2 : ∀ k, k ≠ rb → Y.heap[k]? = X.heap[k]?) (k3 : Y.heap.size = X.heap.size) (k4 : Below B w Y) (k5 : rb ≠ r8) (k6 : rb ≠ r6) (k7 : r6 < Y.heap.size) (k8 : r8 < Y.heap.size)
    (hsn : ds.length = sn) (hZ1 : Below Y.heap.size Y Z1) (hg : Z1.grownBy w4 ov.ownBlock) (ho : w4.ownsRow B 36 5 (.slice va (sn + 1) vc) (sn + 1) (encAll ds 0 ++ [.int .i64 0, .int .i64 1, .bool false, .int .i64 (sn : Int), d.v])) (hZ : w4.setCell ⟨rb, 11, none⟩ (.slice va (sn + 1) vc) = Z) :
    RkE W X Y w Z B rb r6 r8 sn ov ds ms va vc d xs := by
  have hrW := h.row
  have hkind : ∀ g, ov.ownBlock = some g → ∃ cu : Array Value, W.heap[g]? = some (.cells cu 36 (0, 0)) := fun g hg => owns_kind hrW hg
  have hbW : RkB W rb (ds.length : Int) ov := h.blk
  have hnr : ∀ g, ov.ownBlock = some g → g ≠ rb := fun g hgo e => by
    obtain ⟨cu, h4⟩ := hkind g hgo
    unfold RkB at hbW
    rw [e, hbW] at h4
    cases h4
  have hrY : Y.ownsRow B 36 5 ov ds.length (encAll ds 0) := owns_keeps hrW fun g hgo => (k2 g (hnr g hgo)).trans (hX.block g (hrW.lt g hgo).2)
  have hb4 := rk_blk k1 hrY hZ1 hg
  have hst : ∀ k, k < Y.heap.size → k ≠ rb → ov.ownBlock ≠ some k → Z.heap[k]? = Y.heap[k]? := fun k hk h1 h2 => by
    rw [← hZ, heap_setCell_other _ _ _ _ h1]
    exact (hg.block k (Nat.lt_of_lt_of_le hk hZ1.size) (Ne.symm h2)).trans (hZ1.block k hk)
  have hblk : ∀ {e : TypeId} {k : Nat} {cu : Array Value}, e ≠ 36 → e ≠ 65 → Y.heap[k]? = some (.cells cu e (0, 0)) → Z.heap[k]? = Y.heap[k]? := fun {e k cu} h1 h2 hc => by
    refine hst k (Array.getElem?_eq_some_iff.1 hc).1 (fun e1 => ?_) (fun e1 => ?_)
    · have h4 := k1
      unfold RkB at h4
      rw [← e1, hc] at h4
      simp only [Option.some.injEq, Obj.cells.injEq] at h4
      exact h2 h4.2.1
    · obtain ⟨cu2, h4⟩ := owns_kind hrY e1
      rw [hc] at h4
      simp only [Option.some.injEq, Obj.cells.injEq] at h4
      exact h1 h4.2.1
  have hXY : ∀ {b : Nat} {e : Sl} {ys : List Int}, Row X b 5 e.a e.n e.c (u8s ys) → Row Z b 5 e.a e.n e.c (u8s ys) := fun {b e ys} hr => by
    have hY : Row Y b 5 e.a e.n e.c (u8s ys) := hr.keeps fun g hgo => k2 g fun e1 => by
      obtain ⟨cu, h4⟩ := hr.kind hgo
      have h5 := hbW.below hX
      unfold RkB at h5
      rw [e1, h5] at h4
      cases h4
    exact hY.keeps fun g hgo => by
      obtain ⟨cu, h4⟩ := hY.kind hgo
      exact hblk (by decide) (by decide) h4
  have h6W : r6 < W.heap.size := (Array.getElem?_eq_some_iff.1 h6).1
  have hov6 : ov.ownBlock ≠ some r6 := fun e => by
    have := hov r6 e
    omega
  have hov8 : ov.ownBlock ≠ some r8 := fun e => by
    have := hov r8 e
    have := hwW.size
    omega
  have hb6Z : Z.heap[r6]? = some (.cells dz 36 (0, 0)) := (hst r6 k7 (Ne.symm k6) hov6).trans ((k2 r6 (Ne.symm k6)).trans ((hX.block r6 h6W).trans h6))
  have hb8Z : Z.heap[r8]? = some (.cells #[.int .i64 0, .int .i64 1, .bool false, .int .i64 (sn : Int), d.v] 36 (0, 0)) := (hst r8 k8 (Ne.symm k5) hov8).trans ((k2 r8 (Ne.symm k5)).trans h8)
  have hrb4 : ∀ g, (Value.slice va (sn + 1) vc).ownBlock = some g → g ≠ rb := fun g hgo e => by
    obtain ⟨cu, h4⟩ := owns_kind ho hgo
    unfold RkB at hb4
    rw [e, hb4] at h4
    cases h4
  have e1 : encD ds.length d = [.int .i64 0, .int .i64 1, .bool false, .int .i64 (sn : Int), d.v] := by simp [encD, hsn]
  have hoZ : Z.ownsRow B 36 5 (.slice va (sn + 1) vc) (sn + 1) (encAll (ds ++ [d]) 0) := by
    rw [encAll_snoc, Nat.zero_add, e1]
    refine owns_keeps ho fun g hgo => ?_
    rw [← hZ]
    exact heap_setCell_other _ _ _ _ (hrb4 g hgo)
  have hv6 : ∀ g, (Value.slice va (sn + 1) vc).ownBlock = some g → g ≠ r6 := fun g hgo e => by
    obtain ⟨d0, hd0⟩ : ∃ d0, (ds ++ [d])[0]? = some d0 := ⟨_, List.getElem?_eq_getElem (by simp)⟩
    have h1 := hoZ.cells (g := g) hgo 1 _ (encAll_get (ds ++ [d]) 0 0 d0 hd0 1 _ rfl)
    rw [Addr.add_mid, Nat.zero_add, e, cell_of_row Z r6 1 _ 36 (0, 0) hb6Z] at h1
    simp at h1
  have hsY := Nat.le_trans hZ1.size hg.size
  have hsZ : Z.heap.size = w4.heap.size := by rw [← hZ]; simp
  have hBY : B ≤ Y.heap.size := Nat.le_trans hB0 k4.size
  have hBZ : Below B w Z := by
    have b1 : Below B w Z1 := k4.trans (hZ1.mono hBY)
    have b2 : Below B w w4 := b1.grown hg (Nat.le_trans hBY hZ1.size) (fun r hr => (hrW.lt r hr).1)
    rw [← hZ]
    exact b2.setCell (p := ⟨rb, 11, none⟩) h.hb.1 _
  have hbZ : RkB Z rb ((sn : Int) + 1) (.slice va (sn + 1) vc) := by
    have e2 := heap_setCell_same w4 rb 11 _ 65 (.slice va (sn + 1) vc) hb4
    show _ = _
    rw [← hZ, e2]
    rfl
  refine ⟨hb8Z, hb6Z, by omega, fun u0 u1 u2 u3 u4 => ?_⟩
  obtain ⟨V, hV⟩ : ∃ V, (((((Z.setCell ⟨r6, 0, none⟩ u0).setCell ⟨r6, 1, none⟩ u1).setCell ⟨r6, 2, none⟩ u2).setCell ⟨r6, 3, none⟩ u3).setCell ⟨r6, 4, none⟩ u4) = V := ⟨_, rfl⟩
  rw [hV]
  have hVk : ∀ k, k ≠ r6 → V.heap[k]? = Z.heap[k]? := fun k hk => by
    rw [← hV, heap_setCell_other _ _ _ _ hk, heap_setCell_other _ _ _ _ hk, heap_setCell_other _ _ _ _ hk, heap_setCell_other _ _ _ _ hk, heap_setCell_other _ _ _ _ hk]
  have hVs : V.heap.size = Z.heap.size := by rw [← hV]; simp
  have hB6 : B ≤ r6 := by omega
  have hBV : Below B w V := by
    rw [← hV]
    exact ((((hBZ.setCell (p := ⟨r6, 0, none⟩) hB6 _).setCell (p := ⟨r6, 1, none⟩) hB6 _).setCell (p := ⟨r6, 2, none⟩) hB6 _).setCell (p := ⟨r6, 3, none⟩) hB6 _).setCell (p := ⟨r6, 4, none⟩) hB6 _
  have h5V : ∀ {b : Nat} {e : Sl} {ys : List Int}, Row Z b 5 e.a e.n e.c (u8s ys) → Row V b 5 e.a e.n e.c (u8s ys) := fun {b e ys} hr => hr.keeps fun g hgo => hVk g fun e1 => by
    obtain ⟨cu, h4⟩ := hr.kind hgo
    rw [e1, hb6Z] at h4
    cases h4
  have hln : (ds ++ [d]).length = sn + 1 := by simp [hsn]
  refine ⟨.slice va (sn + 1) vc, d, ⟨?_, ⟨h.hb.1, Nat.le_trans hB0 hBV.size⟩, ?_, by simp [h.len], fun k e ys h1 h2 => ?_⟩, hBV, hBV.size, fun k hk hk1 hk2 => ?_⟩
  · rw [hln]
    exact (hVk rb k6).trans hbZ
  · rw [hln]
    exact owns_keeps hoZ fun g hgo => hVk g (hv6 g hgo)
  · by_cases hk : k < ds.length
    · rw [List.getElem?_append_left hk] at h1
      rw [List.getElem?_append_left (by rw [← h.len]; exact hk)] at h2
      exact h5V (hXY ((h.by' k e ys h1 h2).below hX))
    · have h3 := (List.getElem?_eq_some_iff.1 h1).1
      rw [hln] at h3
      obtain rfl : k = ds.length := by omega
      simp at h1
      subst h1
      rw [h.len] at h2
      simp at h2
      subst h2
      exact h5V (hXY (hd.base (Nat.le_trans hB0 hwW.size)))
  · have hk6 : k ≠ r6 := by omega
    rw [hVk k hk6, hst k (by rw [k3]; exact Nat.lt_of_lt_of_le (Nat.lt_of_lt_of_le hk hwW.size) hX.size) hk1 hk2, k2 k hk1, hX.block k (Nat.lt_of_lt_of_le hk hwW.size)]
    exact hwW.block k hk
theorem rk_kept {Y Z w4 : World} {B rb n : Nat} {sn : Int} {ov : Value} {xs : List Value} (h : RkB Y rb sn ov) (hr : Y.ownsRow B 36 5 ov n xs) (hZ : Below Y.heap.size Y Z) (hg : Z.grownBy w4 ov.ownBlock) : w4.cell? ⟨rb, 11, none⟩ = some ov ∧ w4.frozen? ⟨rb, 11, none⟩ = false :=
  ⟨(rk_blk h hr hZ hg).cells.c11, (rk_blk h hr hZ hg).cells.f11⟩
set_option maxRecDepth 100000 in
set_option maxHeartbeats 4000000 in
theorem r15 (B rb sn : Nat) (ov : Value) (ds : List Sl) (ms : List (List Int)) (a : Option Addr) (n c : Nat) (xs : List Int) (w : World) (h : RkG w B rb ov ds ms) (hb : By w a n c xs) (hn : n ≤ 65536) (hsn : ds.length = sn) (hs : sn ≤ 1000000) :
    Calls Try.prog 15 #[.pointer (some ⟨rb, 0, none⟩), .int .i64 1, .slice a n c] w fun e w' => ∃ v, e = .returned v ∧ ∃ ov' d, RkG w' B rb ov' (ds ++ [d]) (ms ++ [xs]) ∧ Below B w w' ∧ w.heap.size ≤ w'.heap.size ∧ ∀ k, k < w.heap.size → k ≠ rb → ov.ownBlock ≠ some k → w'.heap[k]? = w.heap[k]? := by
  obtain ⟨i36, hi36, hz36, hs36, hb36⟩ := info36
  obtain ⟨W, hW⟩ : ∃ W, w.alloc (.cells dz 36) = W := ⟨_, rfl⟩
  have HB0 : Hid (B ≤ w.heap.size ∧ ∀ g, ov.ownBlock = some g → g < w.heap.size) := ⟨h.hb.2, fun g hg => (h.row.lt g hg).2⟩
  obtain ⟨r6, hr6⟩ : ∃ r6, w.heap.size = r6 := ⟨_, rfl⟩
  have hbl : Below w.heap.size w W := by rw [← hW]; exact (Below.refl _ w).alloc (Nat.le_refl _) _
  have HW : Hid (RkG W B rb ov ds ms ∧ By W a n c xs ∧ W.heap[r6]? = some (.cells dz 36 (0, 0)) ∧ Below w.heap.size w W ∧ w.heap.size = r6 ∧ r6 < W.heap.size) := ⟨h.below hbl, hb.below hbl, by rw [← hW, ← hr6]; exact heap_alloc_new w _, hbl, hr6, by rw [← hW, ← hr6]; simp⟩
  have H36 : Calls Try.prog 36 #[.pointer (some ⟨rb, 0, none⟩), .int .i64 1] W fun e w' => e = .returned (.bool true) ∧ w' = W := r36 rb (ds.length : Int) ov 1 W HW.out.1.blk
  have H37 : Hid (∀ U, Below W.heap.size W U → Calls Try.prog 37 #[.slice a n c] U fun e w' => ∃ a' c', e = .returned (.slice a' n c') ∧ Hid (Below U.heap.size U w' ∧ Row w' U.heap.size 5 a' n c' (u8s xs))) := fun U hU => by
    refine (r37 a n c xs U (HW.out.2.1.below hU) (by omega)).mono ?_
    rintro e w' ⟨a', c', rfl, hf⟩
    exact ⟨a', c', rfl, hf.2, hf.1⟩
  have HC : Hid (∀ w', Below W.heap.size W w' → RkC w' rb (ds.length : Int) ov) := fun w' hw => (HW.out.1.blk.below hw).cells
  obtain ⟨c0, c1, c3, c7, c10, c11, c12, c13, f3, f11⟩ := HW.out.1.blk.cells
  have hnI : ¬ (65536 : Int) < (n : Int) := by omega
  rw [hsn] at c3 HC
  clear h hb hbl
  go_enter Try.func15, Try.ntmps15
  go_wp2_with fail
  refine H36.mono ?_
  rintro e w' ⟨rfl, hw⟩
  obtain rfl := hw.symm
  clear H36
  clear hW hr6
  go_wp2_with fail
  have HRk : Hid (RkB W rb (sn : Int) ov) := by rw [← hsn]; exact HW.out.1.blk
  refine wp_region_noPanic ?_
  refine wp_region_held_drew (S := RqS W rb (sn : Int) ov) (by kernel_rfl) (rq_of HRk.out (Below.refl _ W).drew) (fun hHeld => ?_)
  have HSd := rq_of HRk.out (Below.refl _ W).drew
  (refine wpAnyH_take (i := 0) (v := ?_) (by simp only [List.getElem?_toArray, List.getElem?_cons_zero]; rfl) (by kernel_rfl) (by kernel_rfl) (by kernel_rfl) (fun _ _ _ h => h) (Or.inl ⟨by rfl, ?_⟩) (by assumption) ?_; rotate_left; (· (intro w hSw; (try dsimp only at hSw); go_simp <;> with_reducible rfl)); try simp only [Act.put, List.setIfInBounds_toArray, List.set_cons_zero, List.set_cons_succ])
  (refine wpAnyH_take (i := 1) (v := ?_) (by simp only [List.getElem?_toArray, List.getElem?_cons_zero, List.getElem?_cons_succ]; rfl) (by kernel_rfl) (by kernel_rfl) (by kernel_rfl) (fun _ _ _ h => h) (Or.inl ⟨by rfl, ?_⟩) (by assumption) ?_; rotate_left; (· (intro w hSw; (try dsimp only at hSw); go_simp <;> with_reducible rfl)); try simp only [Act.put, List.setIfInBounds_toArray, List.set_cons_zero, List.set_cons_succ])
  (refine wpAnyH_take (i := 2) (v := ?_) (by simp only [List.getElem?_toArray, List.getElem?_cons_zero, List.getElem?_cons_succ]; rfl) (by kernel_rfl) (by kernel_rfl) (by kernel_rfl) (fun _ _ _ h => h) (Or.inl ⟨by rfl, ?_⟩) (by assumption) ?_; rotate_left; (· (intro w hSw; (try dsimp only at hSw); go_simp <;> with_reducible rfl)); try simp only [Act.put, List.setIfInBounds_toArray, List.set_cons_zero, List.set_cons_succ])
  (refine wpAnyH_take (i := 3) (v := ?_) (by simp only [List.getElem?_toArray, List.getElem?_cons_zero, List.getElem?_cons_succ]; rfl) (by kernel_rfl) (by kernel_rfl) (by kernel_rfl) (fun _ _ _ h => h) (Or.inl ⟨by rfl, ?_⟩) (by assumption) ?_; rotate_left; (· (intro w hSw; (try dsimp only at hSw); go_simp <;> with_reducible rfl)); try simp only [Act.put, List.setIfInBounds_toArray, List.set_cons_zero, List.set_cons_succ])
  (refine wpAnyH_take (i := 4) (v := ?_) (by simp only [List.getElem?_toArray, List.getElem?_cons_zero, List.getElem?_cons_succ]; rfl) (by kernel_rfl) (by kernel_rfl) (by kernel_rfl) (fun _ _ _ h => h) (Or.inl ⟨by rfl, ?_⟩) (by assumption) ?_; rotate_left; (· (intro w hSw; (try dsimp only at hSw); go_simp <;> with_reducible rfl)); try simp only [Act.put, List.setIfInBounds_toArray, List.set_cons_zero, List.set_cons_succ])
  (refine wpAnyH_take (i := 5) (v := ?_) (by simp only [List.getElem?_toArray, List.getElem?_cons_zero, List.getElem?_cons_succ]; rfl) (by kernel_rfl) (by kernel_rfl) (by kernel_rfl) (fun _ _ _ h => h) (Or.inl ⟨by rfl, ?_⟩) (by assumption) ?_; rotate_left; (· (intro w hSw; (try dsimp only at hSw); go_simp <;> with_reducible rfl)); try simp only [Act.put, List.setIfInBounds_toArray, List.set_cons_zero, List.set_cons_succ])
  (refine wpAnyH_take (i := 6) (v := ?_) (by simp only [List.getElem?_toArray, List.getElem?_cons_zero, List.getElem?_cons_succ]; rfl) (by kernel_rfl) (by kernel_rfl) (by kernel_rfl) (fun _ _ _ h => h) (Or.inl ⟨by rfl, ?_⟩) (by assumption) ?_; rotate_left; (· (intro w hSw; (try dsimp only at hSw); go_simp <;> with_reducible rfl)); try simp only [Act.put, List.setIfInBounds_toArray, List.set_cons_zero, List.set_cons_succ])
  (refine wpAnyH_take (i := 7) (v := ?_) (by simp only [List.getElem?_toArray, List.getElem?_cons_zero, List.getElem?_cons_succ]; rfl) (by kernel_rfl) (by kernel_rfl) (by kernel_rfl) (fun _ _ _ h => h) (Or.inl ⟨by rfl, ?_⟩) (by assumption) ?_; rotate_left; (· (intro w hSw; (try dsimp only at hSw); go_simp <;> with_reducible rfl)); try simp only [Act.put, List.setIfInBounds_toArray, List.set_cons_zero, List.set_cons_succ])
  (refine wpAnyH_take (i := 8) (v := ?_) (by simp only [List.getElem?_toArray, List.getElem?_cons_zero, List.getElem?_cons_succ]; rfl) (by kernel_rfl) (by kernel_rfl) (by kernel_rfl) (fun _ _ _ h => h) (Or.inl ⟨by rfl, ?_⟩) (by assumption) ?_; rotate_left; (· (intro w hSw; (try dsimp only at hSw); go_simp <;> with_reducible rfl)); try simp only [Act.put, List.setIfInBounds_toArray, List.set_cons_zero, List.set_cons_succ])
  (refine wpAnyH_take (i := 9) (v := ?_) (by simp only [List.getElem?_toArray, List.getElem?_cons_zero, List.getElem?_cons_succ]; rfl) (by kernel_rfl) (by kernel_rfl) (by kernel_rfl) (fun _ _ _ h => h) (Or.inl ⟨by rfl, ?_⟩) (by assumption) ?_; rotate_left; (· (intro w hSw; (try dsimp only at hSw); go_simp <;> with_reducible rfl)); try simp only [Act.put, List.setIfInBounds_toArray, List.set_cons_zero, List.set_cons_succ])
  (refine wpAnyH_take (i := 10) (v := ?_) (by simp only [List.getElem?_toArray, List.getElem?_cons_zero, List.getElem?_cons_succ]; rfl) (by kernel_rfl) (by kernel_rfl) (by kernel_rfl) (fun _ _ _ h => h) (Or.inl ⟨by rfl, ?_⟩) (by assumption) ?_; rotate_left; (· (intro w hSw; (try dsimp only at hSw); go_simp <;> with_reducible rfl)); try simp only [Act.put, List.setIfInBounds_toArray, List.set_cons_zero, List.set_cons_succ])
  (refine wpAnyH_take (i := 11) (v := ?_) (by simp only [List.getElem?_toArray, List.getElem?_cons_zero, List.getElem?_cons_succ]; rfl) (by kernel_rfl) (by kernel_rfl) (by kernel_rfl) (fun _ _ _ h => h) (Or.inl ⟨by rfl, ?_⟩) (by assumption) ?_; rotate_left; (· (intro w hSw; (try dsimp only at hSw); go_simp <;> with_reducible rfl)); try simp only [Act.put, List.setIfInBounds_toArray, List.set_cons_zero, List.set_cons_succ])
  refine wpAnyH_ready (rs := [12, 14]) (by kernel_rfl) (by simp) ?_
  refine AllReadyH.cons (by simp only [List.getElem?_toArray, List.getElem?_cons_zero, List.getElem?_cons_succ]; rfl) (fun K hK => ?_) (AllReadyH.cons (by simp only [List.getElem?_toArray, List.getElem?_cons_zero, List.getElem?_cons_succ]; rfl) (fun K hK => ?_) AllReadyH.nil)
  · go_simp
    go_at_call 37
    refine (H37.out W.drew HSd.2.2.2.out).mono ?_
    rintro e w1 ⟨a', c', rfl, HF⟩
    have HB1 : Hid (Below W.heap.size W w1) := HSd.2.2.2.out.trans (HF.out.1.mono HSd.2.2.2.out.size)
    have HS1 := rq_of HRk.out HB1.out
    refine hK.out _ _ ?_ (fun hHeld => ?_)
    · exact HS1
    clear hK K
    try simp only [Act.put, List.setIfInBounds_toArray, List.set_cons_zero, List.set_cons_succ]
    (refine wpAnyH_take (i := 13) (v := ?_) (by simp only [List.getElem?_toArray, List.getElem?_cons_zero, List.getElem?_cons_succ]; rfl) (by kernel_rfl) (by kernel_rfl) (by kernel_rfl) (fun _ _ _ h => h) (Or.inl ⟨by rfl, ?_⟩) (by assumption) ?_; rotate_left; (· (intro w hSw; (try dsimp only at hSw); go_simp <;> with_reducible rfl)); try simp only [Act.put, List.setIfInBounds_toArray, List.set_cons_zero, List.set_cons_succ])
    refine wpAnyH_ready (rs := [14]) (by kernel_rfl) (by simp) ?_
    refine AllReadyH.cons (by simp only [List.getElem?_toArray, List.getElem?_cons_zero, List.getElem?_cons_succ]; rfl) (fun K hK => ?_) AllReadyH.nil
    go_simp
    have HB2 : Hid (Below W.heap.size W (w1.alloc (.cells #[.int .i64 0, .int .i64 0, .bool false, .int .i64 0, .slice none 0 0] 36))) := HB1.out.alloc HB1.out.size _
    have HS2 := rq_of HRk.out HB2.out
    refine hK.out _ _ ?_ (fun hHeld => ?_)
    · exact HS2
    clear hK K
    try simp only [Act.put, List.setIfInBounds_toArray, List.set_cons_zero, List.set_cons_succ]
    refine wpAnyH_ready (rs := [15]) (by kernel_rfl) (by simp) ?_
    refine AllReadyH.cons (by simp only [List.getElem?_toArray, List.getElem?_cons_zero, List.getElem?_cons_succ]; rfl) (fun K hK => ?_) AllReadyH.nil
    obtain ⟨e0, e1, e2, e3, e4, x0, x1, x2, x3, x4⟩ := dg_cells (heap_alloc_new w1 (.cells #[.int .i64 0, .int .i64 0, .bool false, .int .i64 0, .slice none 0 0] 36))
    go_simp
    have HB3 : Hid (Below W.heap.size W (w1.alloc (.cells #[.int .i64 0, .int .i64 1, .bool false, .int .i64 (sn : Int), .slice a' n c'] 36))) := HB1.out.alloc HB1.out.size _
    have HS3 := rq_of HRk.out HB3.out
    refine hK.out _ _ ?_ (fun hHeld => ?_)
    · exact HS3
    clear hK K
    try simp only [Act.put, List.setIfInBounds_toArray, List.set_cons_zero, List.set_cons_succ]
    refine wpAnyH_done (by kernel_rfl) ?_ _
    refine NoPanic.normal ?_
    obtain ⟨X, hX⟩ : ∃ X, w1.alloc (.cells #[.int .i64 0, .int .i64 1, .bool false, .int .i64 (sn : Int), .slice a' n c'] 36) = X := ⟨_, rfl⟩
    obtain ⟨r8, hr8⟩ : ∃ r8, w1.heap.size = r8 := ⟨_, rfl⟩
    have HX : Hid (Below W.heap.size W X ∧ X.heap[r8]? = some (.cells #[.int .i64 0, .int .i64 1, .bool false, .int .i64 (sn : Int), .slice a' n c'] 36 (0, 0)) ∧ Row X W.heap.size 5 a' n c' (u8s xs) ∧ W.heap.size ≤ r8) := by
      have hb : Below w1.heap.size w1 X := by rw [← hX]; exact (Below.refl _ w1).alloc (Nat.le_refl _) _
      exact ⟨by rw [← hX]; exact HB3.out, by rw [← hX, ← hr8]; exact heap_alloc_new w1 _, (HF.out.2.base HSd.2.2.2.out.size).below hb, by rw [← hr8]; exact HB1.out.size⟩
    rw [hX, hr8]
    clear hX hr8 HB1 HB2 HB3 HS1 HS2 HS3 HF e0 e1 e2 e3 e4 x0 x1 x2 x3 x4 HSd c0 c1 c3 c7 c10 c11 c12 c13 f3 f11
    have HSx := HX.out.1
    obtain ⟨c0, c1, c3, c7, c10, c11, c12, c13, f3, f11⟩ := (HRk.out.below HSx).cells
    obtain ⟨b0, b1, b2, b3, b4, y0, y1, y2, y3, y4⟩ := dg_cells HX.out.2.1
    have hs0 : (0 : Int) ≤ (sn : Int) := by omega
    have hs1 : (sn : Int) + 1 ≤ 1000001 := by omega
    have hwr : IntKind.i64.wrap ((sn : Int) + 1) = (sn : Int) + 1 := by rw [IntKind.wrap_i64]; omega
    clear HSx
    go_wp2_with fail
    go_region_law (fail)
    all_goals (
      obtain ⟨Y, hY⟩ : ∃ Y, (X.setCell ⟨rb, 3, none⟩ (.int .i64 ((sn : Int) + 1))).drew = Y := ⟨_, rfl⟩
      rw [hY]
      have HY : Hid (RkB Y rb ((sn : Int) + 1) ov ∧ (∀ k, k ≠ rb → Y.heap[k]? = X.heap[k]?) ∧ Y.heap.size = X.heap.size ∧ Below B w Y ∧ rb ≠ r8 ∧ rb ≠ r6 ∧ r6 < Y.heap.size ∧ r8 < Y.heap.size) := by
        have hbk := HRk.out.below HX.out.1
        have h3 := heap_setCell_same X rb 3 _ 65 (.int .i64 ((sn : Int) + 1)) hbk
        have hne8 : rb ≠ r8 := fun e => by
          have h4 := HX.out.2.1
          unfold RkB at hbk
          rw [← e, hbk] at h4
          cases h4
        have hne6 : rb ≠ r6 := fun e => by
          have h4 := HW.out.2.2.1
          have h5 := HRk.out
          unfold RkB at h5
          rw [← e, h5] at h4
          cases h4
        have hsz : Y.heap.size = X.heap.size := by rw [← hY]; simp
        have hBw := HW.out.1.hb.2
        have hWw := HW.out.2.2.2.1
        have hB0 : B ≤ w.heap.size := HB0.out.1
        have hbX : Below B w X := (hWw.mono hB0).trans (HX.out.1.mono (Nat.le_trans hB0 hWw.size))
        refine ⟨?_, fun k hk => ?_, hsz, ?_, hne8, hne6, ?_, ?_⟩
        · show _ = _
          rw [← hY]
          exact h3.trans rfl
        · rw [← hY]
          exact heap_setCell_other _ _ _ _ hk
        · rw [← hY]
          exact (hbX.setCell (p := ⟨rb, 3, none⟩) HW.out.1.hb.1 _).drew
        · rw [hsz]
          exact Nat.lt_of_lt_of_le HW.out.2.2.2.2.2 HX.out.1.size
        · rw [hsz]
          exact (Array.getElem?_eq_some_iff.1 HX.out.2.1).1
      clear hY c0 c1 c3 c7 c10 c11 c12 c13 f3 f11 b0 b1 b2 b3 b4 y0 y1 y2 y3 y4
      have HYd : Hid (∀ Z, Below Y.heap.size Y Z → RkC Z rb ((sn : Int) + 1) ov ∧ DgC Z r8 0 1 (sn : Int) false (.slice a' n c') ∧ Z.ownsRow B 36 5 ov sn (encAll ds 0) ∧ B ≤ Z.heap.size) := fun Z hZ => by
        obtain ⟨k1, k2, k3, k4, k5, k6, k7, k8⟩ := HY.out
        refine ⟨(k1.below hZ).cells, dg_cells ((hZ.block r8 k8).trans ((k2 r8 (Ne.symm k5)).trans HX.out.2.1)), ?_, ?_⟩
        · have h1 := HW.out.1.row
          rw [hsn] at h1
          refine owns_keeps h1 fun g hg => ?_
          have hlt := (h1.lt g hg).2
          have hgr : g ≠ rb := fun e => by
            obtain ⟨cu, h4⟩ := owns_kind h1 hg
            have h5 := HRk.out
            unfold RkB at h5
            rw [e, h5] at h4
            cases h4
          exact (hZ.block g (by rw [k3]; exact Nat.lt_of_lt_of_le hlt HX.out.1.size)).trans ((k2 g hgr).trans (HX.out.1.block g hlt))
        · exact Nat.le_trans HW.out.1.hb.2 (Nat.le_trans HX.out.1.size (by rw [← k3]; exact hZ.size))
      obtain ⟨⟨c0, c1, c3, c7, c10, c11, c12, c13, f3, f11⟩, ⟨b0, b1, b2, b3, b4, _, _, _, _, _⟩, _, _⟩ := HYd.out Y (Below.refl _ _)
      have HZ1 : Hid (Below Y.heap.size Y (Y.drew.alloc (.cells #[.int .i64 0, .int .i64 1, .bool false, .int .i64 (sn : Int), .slice a' n c'] 36))) := (Below.refl _ Y).drew.alloc (Nat.le_refl _) _
      obtain ⟨⟨_, _, _, _, _, c11', _, _, _, f11'⟩, _, _, _⟩ := HYd.out _ HZ1.out
      obtain ⟨⟨_, _, _, _, _, c11x, _, _, _, f11x⟩, _, _, _⟩ := HYd.out (Y.alloc (.cells #[.int .i64 0, .int .i64 1, .bool false, .int .i64 (sn : Int), .slice a' n c'] 36)) ((Below.refl _ Y).alloc (Nat.le_refl _) _)
      go_wp2_with fail
      go_region_law (first | (refine step_append_own (by rfl) _ _ _ (by rfl) B 36 i36 _ 5 56 Try.underlying51 hi36 hz36 hs36 hb36 rfl (by decide) ov sn (encAll ds 0) (by rfl) (HYd.out _ HZ1.out).2.2.1 ⟨Y.heap.size, 0, none⟩ 1 1 [.int .i64 0, .int .i64 1, .bool false, .int .i64 (sn : Int), .slice a' n c'] (by rfl) rfl (World.news_of_block (cs := #[.int .i64 0, .int .i64 1, .bool false, .int .i64 (sn : Int), .slice a' n c']) (t := 36) (fr := (0, 0)) (heap_alloc_new Y.drew _)) (by simp [Value.oneCell']) (by unfold maxLen; omega) (by omega) (HYd.out _ HZ1.out).2.2.2 ?_; intro v4 w4 ho4 hg4 _; obtain ⟨va, vc, rfl⟩ := owns_slice ho4; obtain ⟨m11, n11⟩ : w4.cell? ⟨rb, 11, none⟩ = some ov ∧ w4.frozen? ⟨rb, 11, none⟩ = false := rk_kept HY.out.1 (HYd.out Y (Below.refl _ _)).2.2.1 HZ1.out hg4))
      all_goals (
        obtain ⟨Z, hZ⟩ : ∃ Z, w4.setCell ⟨rb, 11, none⟩ (.slice va (sn + 1) vc) = Z := ⟨_, rfl⟩
        rw [hZ]
        have HE : Hid (RkE W X Y w Z B rb r6 r8 sn ov ds ms va vc ⟨a', n, c'⟩ xs) := rk_end HW.out.1 HW.out.2.2.1 HW.out.2.2.2.1 HW.out.2.2.2.2.1 HB0.out.1 HB0.out.2 HX.out.1 HX.out.2.1 HX.out.2.2.1 HX.out.2.2.2 HY.out.1 HY.out.2.1 HY.out.2.2.1 HY.out.2.2.2.1 HY.out.2.2.2.2.1 HY.out.2.2.2.2.2.1 HY.out.2.2.2.2.2.2.1 HY.out.2.2.2.2.2.2.2 hsn HZ1.out hg4 ho4 hZ
        clear hZ ho4 hg4 m11 n11 c0 c1 c3 c7 c10 c11 c12 c13 f3 f11 b0 b1 b2 b3 b4 c11' f11' c11x f11x HYd HZ1
        obtain ⟨e0, e1, e2, e3, e4, _, _, _, _, _⟩ := dg_cells HE.out.b8
        obtain ⟨q0, q1, q2, q3, q4, z0, z1, z2, z3, z4⟩ := dg_cells HE.out.b6
        have hr68 : r6 ≠ r8 := HE.out.ne
        go_wp2_with fail
        refine bodyPost_ret (v := .tuple #[.agg #[.int .i64 0, .int .i64 1, .bool false, .int .i64 (sn : Int), .slice a' n c'], .int .i64 0]) (by simp [results, Try.results15, go_sem, q0, q1, q2, q3, q4]) rfl ⟨_, rfl, ?_⟩
        exact HE.out.fin _ _ _ _ _))
  · go_simp
    have HB1 : Hid (Below W.heap.size W (W.alloc (.cells #[.int .i64 0, .int .i64 0, .bool false, .int .i64 0, .slice none 0 0] 36)).drew) := ((Below.refl _ W).alloc (Nat.le_refl _) _).drew
    have HS1 := rq_of HRk.out HB1.out
    refine hK.out _ _ ?_ (fun hHeld => ?_)
    · exact HS1
    clear hK K
    try simp only [Act.put, List.setIfInBounds_toArray, List.set_cons_zero, List.set_cons_succ]
    refine wpAnyH_ready (rs := [12]) (by kernel_rfl) (by simp) ?_
    refine AllReadyH.cons (by simp only [List.getElem?_toArray, List.getElem?_cons_zero, List.getElem?_cons_succ]; rfl) (fun K hK => ?_) AllReadyH.nil
    go_simp
    go_at_call 37
    refine (H37.out _ HB1.out).mono ?_
    rintro e w1 ⟨a', c', rfl, HF⟩
    have HB2 : Hid (Below W.heap.size W w1) := HB1.out.trans (HF.out.1.mono HB1.out.size)
    have HS2 := rq_of HRk.out HB2.out
    refine hK.out _ _ ?_ (fun hHeld => ?_)
    · exact HS2
    clear hK K
    try simp only [Act.put, List.setIfInBounds_toArray, List.set_cons_zero, List.set_cons_succ]
    (refine wpAnyH_take (i := 13) (v := ?_) (by simp only [List.getElem?_toArray, List.getElem?_cons_zero, List.getElem?_cons_succ]; rfl) (by kernel_rfl) (by kernel_rfl) (by kernel_rfl) (fun _ _ _ h => h) (Or.inl ⟨by rfl, ?_⟩) (by assumption) ?_; rotate_left; (· (intro w hSw; (try dsimp only at hSw); go_simp <;> with_reducible rfl)); try simp only [Act.put, List.setIfInBounds_toArray, List.set_cons_zero, List.set_cons_succ])
    refine wpAnyH_ready (rs := [15]) (by kernel_rfl) (by simp) ?_
    refine AllReadyH.cons (by simp only [List.getElem?_toArray, List.getElem?_cons_zero, List.getElem?_cons_succ]; rfl) (fun K hK => ?_) AllReadyH.nil
    have hc8 : w1.heap[W.heap.size]? = some (.cells #[.int .i64 0, .int .i64 0, .bool false, .int .i64 0, .slice none 0 0] 36 (0, 0)) := (HF.out.1.block W.heap.size (by simp)).trans (heap_alloc_new W _)
    obtain ⟨e0, e1, e2, e3, e4, x0, x1, x2, x3, x4⟩ := dg_cells hc8
    go_simp
    obtain ⟨X, hX⟩ : ∃ X, (((((w1.setCell ⟨W.heap.size, 0, none⟩ (.int .i64 0)).setCell ⟨W.heap.size, 1, none⟩ (.int .i64 1)).setCell ⟨W.heap.size, 2, none⟩ (.bool false)).setCell ⟨W.heap.size, 3, none⟩ (.int .i64 (sn : Int))).setCell ⟨W.heap.size, 4, none⟩ (.slice a' n c')) = X := ⟨_, rfl⟩
    rw [hX]
    have HX : Hid (Below W.heap.size W X ∧ X.heap[W.heap.size]? = some (.cells #[.int .i64 0, .int .i64 1, .bool false, .int .i64 (sn : Int), .slice a' n c'] 36 (0, 0)) ∧ Row X W.heap.size 5 a' n c' (u8s xs) ∧ W.heap.size ≤ W.heap.size) := by
      have h0 := Nat.le_refl W.heap.size
      have hne : blk a' ≠ some W.heap.size := fun e => by
        have h1 := (HF.out.2.lt e).1
        have h2 : W.heap.size < (W.alloc (.cells #[.int .i64 0, .int .i64 0, .bool false, .int .i64 0, .slice none 0 0] 36)).drew.heap.size := by simp
        omega
      refine ⟨?_, ?_, ?_, h0⟩
      · rw [← hX]
        exact ((((HB2.out.setCell h0 _).setCell h0 _).setCell h0 _).setCell h0 _).setCell h0 _
      · have k1 := heap_setCell_same _ W.heap.size 0 _ 36 (.int .i64 0) hc8
        have k2 := heap_setCell_same _ W.heap.size 1 _ 36 (.int .i64 1) k1
        have k3 := heap_setCell_same _ W.heap.size 2 _ 36 (.bool false) k2
        have k4 := heap_setCell_same _ W.heap.size 3 _ 36 (.int .i64 (sn : Int)) k3
        have k5 := heap_setCell_same _ W.heap.size 4 _ 36 (.slice a' n c') k4
        rw [← hX, k5]
        rfl
      · rw [← hX]
        exact (((((HF.out.2.base HB1.out.size).other (p := ⟨W.heap.size, _, none⟩) _ hne).other (p := ⟨W.heap.size, _, none⟩) _ hne).other (p := ⟨W.heap.size, _, none⟩) _ hne).other (p := ⟨W.heap.size, _, none⟩) _ hne).other (p := ⟨W.heap.size, _, none⟩) _ hne
    have HS3 := rq_of HRk.out HX.out.1
    refine hK.out _ _ ?_ (fun hHeld => ?_)
    · exact HS3
    clear hK K
    try simp only [Act.put, List.setIfInBounds_toArray, List.set_cons_zero, List.set_cons_succ]
    refine wpAnyH_done (by kernel_rfl) ?_ _
    refine NoPanic.normal ?_
    obtain ⟨r8, hr8⟩ : ∃ r8, W.heap.size = r8 := ⟨_, rfl⟩
    have HX : Hid (Below W.heap.size W X ∧ X.heap[r8]? = some (.cells #[.int .i64 0, .int .i64 1, .bool false, .int .i64 (sn : Int), .slice a' n c'] 36 (0, 0)) ∧ Row X W.heap.size 5 a' n c' (u8s xs) ∧ W.heap.size ≤ r8) := by rw [← hr8]; exact HX.out
    rw [hr8]
    clear hX hr8 HB1 HB2 HS1 HS2 HS3 HF hc8 e0 e1 e2 e3 e4 x0 x1 x2 x3 x4 HSd c0 c1 c3 c7 c10 c11 c12 c13 f3 f11
    have HSx := HX.out.1
    obtain ⟨c0, c1, c3, c7, c10, c11, c12, c13, f3, f11⟩ := (HRk.out.below HSx).cells
    obtain ⟨b0, b1, b2, b3, b4, y0, y1, y2, y3, y4⟩ := dg_cells HX.out.2.1
    have hs0 : (0 : Int) ≤ (sn : Int) := by omega
    have hs1 : (sn : Int) + 1 ≤ 1000001 := by omega
    have hwr : IntKind.i64.wrap ((sn : Int) + 1) = (sn : Int) + 1 := by rw [IntKind.wrap_i64]; omega
    clear HSx
    go_wp2_with fail
    go_region_law (fail)
    all_goals (
      obtain ⟨Y, hY⟩ : ∃ Y, (X.setCell ⟨rb, 3, none⟩ (.int .i64 ((sn : Int) + 1))).drew = Y := ⟨_, rfl⟩
      rw [hY]
      have HY : Hid (RkB Y rb ((sn : Int) + 1) ov ∧ (∀ k, k ≠ rb → Y.heap[k]? = X.heap[k]?) ∧ Y.heap.size = X.heap.size ∧ Below B w Y ∧ rb ≠ r8 ∧ rb ≠ r6 ∧ r6 < Y.heap.size ∧ r8 < Y.heap.size) := by
        have hbk := HRk.out.below HX.out.1
        have h3 := heap_setCell_same X rb 3 _ 65 (.int .i64 ((sn : Int) + 1)) hbk
        have hne8 : rb ≠ r8 := fun e => by
          have h4 := HX.out.2.1
          unfold RkB at hbk
          rw [← e, hbk] at h4
          cases h4
        have hne6 : rb ≠ r6 := fun e => by
          have h4 := HW.out.2.2.1
          have h5 := HRk.out
          unfold RkB at h5
          rw [← e, h5] at h4
          cases h4
        have hsz : Y.heap.size = X.heap.size := by rw [← hY]; simp
        have hBw := HW.out.1.hb.2
        have hWw := HW.out.2.2.2.1
        have hB0 : B ≤ w.heap.size := HB0.out.1
        have hbX : Below B w X := (hWw.mono hB0).trans (HX.out.1.mono (Nat.le_trans hB0 hWw.size))
        refine ⟨?_, fun k hk => ?_, hsz, ?_, hne8, hne6, ?_, ?_⟩
        · show _ = _
          rw [← hY]
          exact h3.trans rfl
        · rw [← hY]
          exact heap_setCell_other _ _ _ _ hk
        · rw [← hY]
          exact (hbX.setCell (p := ⟨rb, 3, none⟩) HW.out.1.hb.1 _).drew
        · rw [hsz]
          exact Nat.lt_of_lt_of_le HW.out.2.2.2.2.2 HX.out.1.size
        · rw [hsz]
          exact (Array.getElem?_eq_some_iff.1 HX.out.2.1).1
      clear hY c0 c1 c3 c7 c10 c11 c12 c13 f3 f11 b0 b1 b2 b3 b4 y0 y1 y2 y3 y4
      have HYd : Hid (∀ Z, Below Y.heap.size Y Z → RkC Z rb ((sn : Int) + 1) ov ∧ DgC Z r8 0 1 (sn : Int) false (.slice a' n c') ∧ Z.ownsRow B 36 5 ov sn (encAll ds 0) ∧ B ≤ Z.heap.size) := fun Z hZ => by
        obtain ⟨k1, k2, k3, k4, k5, k6, k7, k8⟩ := HY.out
        refine ⟨(k1.below hZ).cells, dg_cells ((hZ.block r8 k8).trans ((k2 r8 (Ne.symm k5)).trans HX.out.2.1)), ?_, ?_⟩
        · have h1 := HW.out.1.row
          rw [hsn] at h1
          refine owns_keeps h1 fun g hg => ?_
          have hlt := (h1.lt g hg).2
          have hgr : g ≠ rb := fun e => by
            obtain ⟨cu, h4⟩ := owns_kind h1 hg
            have h5 := HRk.out
            unfold RkB at h5
            rw [e, h5] at h4
            cases h4
          exact (hZ.block g (by rw [k3]; exact Nat.lt_of_lt_of_le hlt HX.out.1.size)).trans ((k2 g hgr).trans (HX.out.1.block g hlt))
        · exact Nat.le_trans HW.out.1.hb.2 (Nat.le_trans HX.out.1.size (by rw [← k3]; exact hZ.size))
      obtain ⟨⟨c0, c1, c3, c7, c10, c11, c12, c13, f3, f11⟩, ⟨b0, b1, b2, b3, b4, _, _, _, _, _⟩, _, _⟩ := HYd.out Y (Below.refl _ _)
      have HZ1 : Hid (Below Y.heap.size Y (Y.drew.alloc (.cells #[.int .i64 0, .int .i64 1, .bool false, .int .i64 (sn : Int), .slice a' n c'] 36))) := (Below.refl _ Y).drew.alloc (Nat.le_refl _) _
      obtain ⟨⟨_, _, _, _, _, c11', _, _, _, f11'⟩, _, _, _⟩ := HYd.out _ HZ1.out
      obtain ⟨⟨_, _, _, _, _, c11x, _, _, _, f11x⟩, _, _, _⟩ := HYd.out (Y.alloc (.cells #[.int .i64 0, .int .i64 1, .bool false, .int .i64 (sn : Int), .slice a' n c'] 36)) ((Below.refl _ Y).alloc (Nat.le_refl _) _)
      go_wp2_with fail
      go_region_law (first | (refine step_append_own (by rfl) _ _ _ (by rfl) B 36 i36 _ 5 56 Try.underlying51 hi36 hz36 hs36 hb36 rfl (by decide) ov sn (encAll ds 0) (by rfl) (HYd.out _ HZ1.out).2.2.1 ⟨Y.heap.size, 0, none⟩ 1 1 [.int .i64 0, .int .i64 1, .bool false, .int .i64 (sn : Int), .slice a' n c'] (by rfl) rfl (World.news_of_block (cs := #[.int .i64 0, .int .i64 1, .bool false, .int .i64 (sn : Int), .slice a' n c']) (t := 36) (fr := (0, 0)) (heap_alloc_new Y.drew _)) (by simp [Value.oneCell']) (by unfold maxLen; omega) (by omega) (HYd.out _ HZ1.out).2.2.2 ?_; intro v4 w4 ho4 hg4 _; obtain ⟨va, vc, rfl⟩ := owns_slice ho4; obtain ⟨m11, n11⟩ : w4.cell? ⟨rb, 11, none⟩ = some ov ∧ w4.frozen? ⟨rb, 11, none⟩ = false := rk_kept HY.out.1 (HYd.out Y (Below.refl _ _)).2.2.1 HZ1.out hg4))
      all_goals (
        obtain ⟨Z, hZ⟩ : ∃ Z, w4.setCell ⟨rb, 11, none⟩ (.slice va (sn + 1) vc) = Z := ⟨_, rfl⟩
        rw [hZ]
        have HE : Hid (RkE W X Y w Z B rb r6 r8 sn ov ds ms va vc ⟨a', n, c'⟩ xs) := rk_end HW.out.1 HW.out.2.2.1 HW.out.2.2.2.1 HW.out.2.2.2.2.1 HB0.out.1 HB0.out.2 HX.out.1 HX.out.2.1 HX.out.2.2.1 HX.out.2.2.2 HY.out.1 HY.out.2.1 HY.out.2.2.1 HY.out.2.2.2.1 HY.out.2.2.2.2.1 HY.out.2.2.2.2.2.1 HY.out.2.2.2.2.2.2.1 HY.out.2.2.2.2.2.2.2 hsn HZ1.out hg4 ho4 hZ
        clear hZ ho4 hg4 m11 n11 c0 c1 c3 c7 c10 c11 c12 c13 f3 f11 b0 b1 b2 b3 b4 c11' f11' c11x f11x HYd HZ1
        obtain ⟨e0, e1, e2, e3, e4, _, _, _, _, _⟩ := dg_cells HE.out.b8
        obtain ⟨q0, q1, q2, q3, q4, z0, z1, z2, z3, z4⟩ := dg_cells HE.out.b6
        have hr68 : r6 ≠ r8 := HE.out.ne
        go_wp2_with fail
        refine bodyPost_ret (v := .tuple #[.agg #[.int .i64 0, .int .i64 1, .bool false, .int .i64 (sn : Int), .slice a' n c'], .int .i64 0]) (by simp [results, Try.results15, go_sem, q0, q1, q2, q3, q4]) rfl ⟨_, rfl, ?_⟩
        exact HE.out.fin _ _ _ _ _))
end Go.Proofs.Ytnhomejenjinaaa
