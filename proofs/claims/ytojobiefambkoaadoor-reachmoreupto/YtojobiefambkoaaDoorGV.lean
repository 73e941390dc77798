/- The statement that more roots and more values reach more: it returns true. -/
import Derived.Test.YtojobiefambkoaaDoorGU
namespace Go.Proofs.YtojobiefambkoaaDoor
open Go.RowKit
attribute [local go_sem ↓] Go.wp_at_zero Go.wp_at_succ
section
variable {P : Program}
/-- An append in a region of whatever slice, nil too, to a row of one's own. -/
theorem stepH_append_any {w : World} {ops : Array Oper} {o : Oper} {a : Act} {K : Act → World → Prop} {Q : Exit → Act → World → Prop} {E : Prop} (hgd : o.guard = none) (s x : Operand) (t : TypeId)
    (ho : o.op = .call { callee := .builtin .append, args := #[s, x], argTypes := #[t, t] })
    (base : Nat) (e : TypeId) (i : TypeInfo) (z : Value) (size bytes : Nat) (ht : P.underlying t = some (.slice e)) (hi : P.info? e = some i) (hz : i.zero = some z)
    (hsize : i.size = size) (hby : i.bytes = bytes) (hzs : z.cells.size = size) (hsz : 0 < size)
    (v : Value) (n : Nat) (xs : List Value) (hs : a.eval s = v) (hown : w.ownsRow base e size v n xs)
    (ax : Option Addr) (m c : Nat) (news : List Value) (hx : a.eval x = .slice ax m c) (hl : news.length = m * size) (hnews : m = 0 ∨ ∃ ad, ax = some ad ∧ ∀ j u, news[j]? = some u → w.cell? (ad.add j) = some u) (h1 : ∀ u ∈ news, u.oneCell' = true)
    (h63 : n + m ≤ maxLen) (hbytes : (n + m) * bytes ≤ 140737488355328) (hbase : base ≤ w.heap.size)
    (h : ∀ a' c' w', w'.ownsRow base e size (.slice a' (n + m) c') (n + m) (xs ++ news) → w.grownBy w' v.ownBlock → K (a.put o.dst (.slice a' (n + m) c')) w') :
    if Region.wanted o (yielded ops a.tmps) = true then Oper.wp P o a w K Q else E := by
  cases ax with
  | some ad =>
    refine stepH_append hgd s x t ho base e i z size bytes ht hi hz hsize hby hzs hsz v n xs hs hown ad m c news hx hl ?_ h1 h63 hbytes hbase fun v' w' h2 h3 _ => ?_
    · rcases hnews with e | ⟨ad', e, h2⟩
      · intro j u hu
        have : news = [] := List.eq_nil_of_length_eq_zero (by rw [hl, e, Nat.zero_mul])
        rw [this] at hu; simp at hu
      · cases e; exact h2
    · obtain ⟨a', c', rfl⟩ := owns_form h2
      exact h a' c' w' h2 h3
  | none =>
    have hm : m = 0 := by
      rcases hnews with e | ⟨ad', e, _⟩
      · exact e
      · cases e
    subst hm
    obtain rfl : news = [] := List.eq_nil_of_length_eq_zero (by rw [hl, Nat.zero_mul])
    obtain ⟨a', c', rfl⟩ := owns_form hown
    have hle : n ≤ c' := by
      rcases hown.2 with ⟨h1, h2⟩ | ⟨g, cap, cur, h1, _, _, h4, _⟩
      · cases h1; omega
      · cases h1; exact h4
    have hrun := run_append_nothing w t t o.type e i ht hi a' n c' hle (.slice none 0 c) (Src.ofNil w ht c)
    have hw : Region.wanted o (yielded ops a.tmps) = true := by simp [Region.wanted, hgd]
    rw [if_pos hw]
    unfold Oper.wp
    simp [execOp, ho, resolve, invoke, builtin, hs, hx, hrun, Result.andThen, Oper.upon]
    exact h a' c' w (by simpa using hown) ⟨rfl, rfl, rfl, Nat.le_refl _, fun _ _ _ => rfl⟩
end
theorem rowB_one (l : List Bn) : ∀ u ∈ l.flatMap encB, u.oneCell' = true := by
  intro u hu
  rw [List.mem_flatMap] at hu
  obtain ⟨b, _, hb⟩ := hu
  simp only [encB, List.mem_cons, List.not_mem_nil, or_false] at hb
  rcases hb with rfl | rfl | rfl <;> rfl
/-- A row of bindings in memory of the call's own. -/
theorem bd_own {w W : World} {a : Option Addr} {n : Nat} {c base : Nat} {bs : List Bn} (hb : Below w.heap.size w W) (hn : bs.length = n) (ho : W.ownsRow base 47 3 (.slice a n c) n (bs.flatMap encB)) (hel : ∀ b ∈ bs, TermAt w b.v b.l ∧ wfN b.x ∧ (∀ c ∈ b.l, wfN (c.vn, c.vk)) ∧ b.l.length * 48 ≤ 140737488355328) : BdRow W a n bs := by
  refine ⟨⟨hn, ?_⟩, fun b hbm => ?_⟩
  · obtain ⟨a', c', e, _, h⟩ := own_sl ho
    simp only [Value.slice.injEq] at e
    obtain ⟨rfl, _, _⟩ := e
    exact h
  · obtain ⟨h1, h2⟩ := hel b hbm
    exact ⟨h1.below hb, h2⟩
theorem news_of {w W : World} {a : Option Addr} {n : Nat} {bs : List Bn} (h : Bs w a n bs) (hb : Below w.heap.size w W) : n = 0 ∨ ∃ ad, a = some ad ∧ ∀ j u, (bs.flatMap encB)[j]? = some u → W.cell? (ad.add j) = some u := by
  rcases h.mem with e | ⟨b, o, e, h1, h2⟩
  · exact .inl e
  · exact .inr ⟨_, e, fun j u hu => by rw [Addr.add_mid]; exact range_below h2 h1 hb j u hu⟩
theorem newsN_of {w W : World} {a : Option Addr} {n c : Nat} {l : List Nm} (h : NamesAt w (.slice a n c) l) (hb : Below w.heap.size w W) : n = 0 ∨ ∃ ad, a = some ad ∧ ∀ j u, (flatN l)[j]? = some u → W.cell? (ad.add j) = some u := by
  rcases (h.below hb).2 with ⟨e, ad, e2⟩ | ⟨b', o', c', e, h3, _⟩
  · simp only [Value.slice.injEq] at e2
    exact .inl e2.2.1
  · simp only [Value.slice.injEq] at e
    exact .inr ⟨_, e.1, fun j u hu => by rw [Addr.add_mid]; exact h3 j u hu⟩
/-- What stays readable while rows of names are joined. -/
abbrev RmS (W4 : World) (bx : Nat) (pv qv : Value) (W : World) : Prop := W.cell? ⟨bx, 0, none⟩ = some pv ∧ W.cell? ⟨bx, 1, none⟩ = some qv ∧ Hid (Below W4.heap.size W4 W ∧ bx < W4.heap.size)
theorem rmS_to {W4 W : World} {bx : Nat} {pv qv : Value} (hb : Below W4.heap.size W4 W) (h : W4.heap[bx]? = some (.cells #[pv, qv] 24 (0, 0))) : RmS W4 bx pv qv W := by
  have h1 := (hb.block bx (Array.getElem?_eq_some_iff.1 h).1).trans h
  exact ⟨by rw [cell_of_row W bx 0 _ 24 (0, 0) h1]; rfl, by rw [cell_of_row W bx 1 _ 24 (0, 0) h1]; rfl, hb, (Array.getElem?_eq_some_iff.1 h).1⟩
set_option maxRecDepth 100000 in
set_option maxHeartbeats 8000000 in
theorem r3 (b0 : Option Addr) (n0 c0 : Nat) (bs0 : List Bn) (b1 : Option Addr) (n1 c1 : Nat) (bs1 : List Bn) (pa : Option Addr) (pn pc : Nat) (ps : List Nm) (qa : Option Addr) (qn qc : Nat) (qs : List Nm) (w : World) (hA : BdRow w b0 n0 bs0) (hA1 : BdRow w b1 n1 bs1) (hn : n0 ≤ 2000000) (hn1 : n1 ≤ 2000000)
    (hp : NamesAt w (.slice pa pn pc) ps) (hq : NamesAt w (.slice qa qn qc) qs) (hpn : pn ≤ 10000000) (hqn : qn ≤ 10000000) (hpw : ∀ x ∈ ps, wfN x) (hqw : ∀ x ∈ qs, wfN x) (hS : Signs w) :
    Calls Tryd.prog 3 #[.slice b0 n0 c0, .slice b1 n1 c1, .agg #[.slice pa pn pc, .slice qa qn qc]] w fun e w' => e = .returned (.bool true) ∧ Below w.heap.size w w' := by
  obtain ⟨i0, hi, hz, hs, hby⟩ := infoB
  obtain ⟨iN, hiN, hzN, hsN, hbyN⟩ := info23
  have HX : Hid (BdRow w b0 n0 bs0 ∧ BdRow w b1 n1 bs1 ∧ NamesAt w (.slice pa pn pc) ps ∧ NamesAt w (.slice qa qn qc) qs ∧ (∀ x ∈ ps, wfN x) ∧ (∀ x ∈ qs, wfN x) ∧ Signs w ∧ ps.length = pn ∧ qs.length = qn) := ⟨hA, hA1, hp, hq, hpw, hqw, hS, names_len hp rfl, names_len hq rfl⟩
  obtain ⟨m, HM⟩ : ∃ m, Hid (foldB bs0 = m) := ⟨_, rfl⟩
  obtain ⟨m', HM'⟩ : ∃ m', Hid (foldB (bs0 ++ bs1) = m') := ⟨_, rfl⟩
  have hl0 : (bs0.flatMap encB).length = n0 * 3 := by rw [encB_len, hA.row.len]
  have hl1 : (bs1.flatMap encB).length = n1 * 3 := by rw [encB_len, hA1.row.len]
  have HL : Hid ((flatN ps).length = pn * 2 ∧ (flatN qs).length = qn * 2) := ⟨by rw [flatN_length, names_len hp rfl], by rw [flatN_length, names_len hq rfl]⟩
  have HB0 : Hid (Below w.heap.size w (w.alloc (.cells #[.slice pa pn pc, .slice qa qn qc] 24)) ∧ (w.alloc (.cells #[.slice pa pn pc, .slice qa qn qc] 24)).heap[w.heap.size]? = some (.cells #[.slice pa pn pc, .slice qa qn qc] 24 (0, 0))) := ⟨below_alloc _ _, heap_alloc_new w _⟩
  have H7 := f7 _ (hS.below HB0.out.1)
  clear hA hA1 hp hq hpw hqw hS
  go_enter Tryd.func3, Tryd.ntmps3
  go_wp2_with fail
  obtain ⟨W0, hW0⟩ : ∃ W0, w.alloc (.cells #[.slice pa pn pc, .slice qa qn qc] 24) = W0 := ⟨_, rfl⟩
  obtain ⟨bx, hbx⟩ : ∃ bx, w.heap.size = bx := ⟨_, rfl⟩
  rw [hW0] at H7 HB0 ⊢
  try rw [hbx]
  have HBX : Hid (W0.heap[bx]? = some (.cells #[.slice pa pn pc, .slice qa qn qc] 24 (0, 0))) := by rw [← hbx]; exact HB0.out.2
  clear hW0 hbx
  refine H7.mono ?_
  rintro e w1 ⟨rfl, h1⟩
  have HB1 : Hid (Below w.heap.size w w1 ∧ w1.heap[bx]? = some (.cells #[.slice pa pn pc, .slice qa qn qc] 24 (0, 0))) := ⟨HB0.out.1.trans (h1.mono HB0.out.1.size), (h1.block bx (Array.getElem?_eq_some_iff.1 HBX.out).1).trans HBX.out⟩
  clear H7 h1 HB0 HBX
  have H8 : Calls Tryd.prog 8 #[.slice b0 n0 c0] w1 fun e w' => ∃ hb M rt, e = .returned (.tuple #[.pointer (some ⟨hb, 0, none⟩), .pointer (some ⟨rt, 0, none⟩)]) ∧ Hid (St w1 hb M n0 m w') := by
    have h := st8 b0 n0 c0 bs0 w1 (bd_below HX.out.1 HB1.out.1) (by omega) (HX.out.2.2.2.2.2.2.1.below HB1.out.1)
    rw [HM.out] at h
    exact h
  go_wp2_with fail
  refine H8.mono ?_
  rintro e w2 ⟨hb, M, rt, rfl, HS2⟩
  clear H8
  have HB2 : Hid (Below w.heap.size w w2 ∧ w2.heap[bx]? = some (.cells #[.slice pa pn pc, .slice qa qn qc] 24 (0, 0))) := ⟨HB1.out.1.trans (HS2.out.bel.mono HB1.out.1.size), (HS2.out.bel.block bx (Array.getElem?_eq_some_iff.1 HB1.out.2).1).trans HB1.out.2⟩
  have HO : Hid ((w2.alloc (.cells #[] 47)).ownsRow w2.heap.size 47 3 (.slice (some ⟨w2.heap.size, 0, none⟩) 0 0) 0 []) := ⟨rfl, .inr ⟨w2.heap.size, 0, #[], rfl, Nat.le_refl _, heap_alloc_new w2 _, Nat.le_refl _, by simp, rfl, rfl⟩⟩
  have HW : Hid (Below w2.heap.size w2 (w2.alloc (.cells #[] 47))) := below_alloc _ _
  have HN : Hid (n0 = 0 ∨ ∃ ad, b0 = some ad ∧ ∀ j u, (bs0.flatMap encB)[j]? = some u → (w2.alloc (.cells #[] 47)).cell? (ad.add j) = some u) := news_of HX.out.1.row (HB2.out.1.trans (HW.out.mono HB2.out.1.size))
  go_wp2_with (at_builtin; refine wpList_append_any _ rfl _ _ 22 rfl w2.heap.size 47 i0 (.agg #[.int .i64 0, .int .i64 0, .slice none 0 0]) 3 40 Tryd.underlying22 hi hz hs hby rfl (by decide) _ _ _ rfl HO.out b0 n0 c0 (bs0.flatMap encB) rfl hl0 HN.out (rowB_one _) (by unfold maxLen; omega) (by omega) (by simp) ?_)
  intro ja jc w3 hown hgr
  have H2 : Hid (w3.ownsRow w2.heap.size 47 3 (.slice ja n0 jc) n0 (bs0.flatMap encB) ∧ Below w2.heap.size w2 w3) := ⟨hown, HW.out.grown hgr (by simp) (fun g hg => (HO.out.lt g hg).1)⟩
  clear hown hgr HO HW HN
  have HN : Hid (n1 = 0 ∨ ∃ ad, b1 = some ad ∧ ∀ j u, (bs1.flatMap encB)[j]? = some u → w3.cell? (ad.add j) = some u) := news_of HX.out.2.1.row (HB2.out.1.trans (H2.out.2.mono HB2.out.1.size))
  go_wp2_with (at_builtin; refine wpList_append_any _ rfl _ _ 22 rfl w2.heap.size 47 i0 (.agg #[.int .i64 0, .int .i64 0, .slice none 0 0]) 3 40 Tryd.underlying22 hi hz hs hby rfl (by decide) _ _ _ rfl H2.out.1 b1 n1 c1 (bs1.flatMap encB) rfl hl1 HN.out (rowB_one _) (by unfold maxLen; omega) (by omega) H2.out.2.size ?_)
  intro ka kc w4 hown hgr
  have H3 : Hid (w4.ownsRow w2.heap.size 47 3 (.slice ka (n0 + n1) kc) (n0 + n1) (bs0.flatMap encB ++ bs1.flatMap encB) ∧ Below w2.heap.size w2 w4 ∧ Below w.heap.size w w4) := by
    have h1 := H2.out.2.grown hgr H2.out.2.size (fun g hg => (H2.out.1.lt g hg).1)
    exact ⟨hown, h1, HB2.out.1.trans (h1.mono HB2.out.1.size)⟩
  clear hown hgr H2 HN hl0 hl1
  have H8 : Calls Tryd.prog 8 #[.slice ka (n0 + n1) kc] w4 fun e w' => ∃ hb M rt, e = .returned (.tuple #[.pointer (some ⟨hb, 0, none⟩), .pointer (some ⟨rt, 0, none⟩)]) ∧ Hid (St w4 hb M (n0 + n1) m' w') := by
    have h := st8 ka (n0 + n1) kc (bs0 ++ bs1) w4 (bd_own (c := kc) (base := w2.heap.size) H3.out.2.2 ?_ ?_ fun b hb => ?_) (by omega) (HX.out.2.2.2.2.2.2.1.below H3.out.2.2)
    · rw [HM'.out] at h
      exact h
    · rw [List.length_append, HX.out.1.row.len, HX.out.2.1.row.len]
    · rw [List.flatMap_append]
      exact H3.out.1
    · rcases List.mem_append.1 hb with hb | hb
      · exact HX.out.1.el b hb
      · exact HX.out.2.1.el b hb
  go_wp2_with fail
  refine H8.mono ?_
  rintro e w5 ⟨hb', M', rt', rfl, HS5'⟩
  clear H8
  have HB5 : Hid (Below w2.heap.size w2 w5 ∧ Below w.heap.size w w5) := ⟨H3.out.2.1.trans (HS5'.out.bel.mono H3.out.2.1.size), H3.out.2.2.trans (HS5'.out.bel.mono H3.out.2.2.size)⟩
  have HS5 : Hid (St w1 hb M n0 m w5 ∧ St w4 hb' M' (n0 + n1) m' w5) := ⟨HS2.out.below HB5.out.1, HS5'.out⟩
  have HBX5 : Hid (w5.heap[bx]? = some (.cells #[.slice pa pn pc, .slice qa qn qc] 24 (0, 0))) := (HB5.out.1.block bx (Array.getElem?_eq_some_iff.1 HB2.out.2).1).trans HB2.out.2
  have HSub : Hid (SubH m m') := by
    intro y l hl
    rw [← HM.out] at hl
    rw [← HM'.out]
    exact foldB_sub bs0 bs1 y l hl
  clear HS2 HS5' H3 HB2 HB1
  obtain ⟨x0, x1⟩ : w5.cell? ⟨bx, 0, none⟩ = some (.slice pa pn pc) ∧ w5.cell? ⟨bx, 1, none⟩ = some (.slice qa qn qc) := ⟨by rw [cell_of_row w5 bx 0 _ 24 (0, 0) HBX5.out]; rfl, by rw [cell_of_row w5 bx 1 _ 24 (0, 0) HBX5.out]; rfl⟩
  have H9 := st9 HS5.out.1 ps pa pn pc (HX.out.2.2.1.below HB5.out.2) HX.out.2.2.2.2.1 (by have := HX.out.2.2.2.2.2.2.2.1; omega)
  go_wp2_with fail
  refine H9.mono ?_
  rintro e W4 ⟨xs, xa, xn, xc, rfl, HXS⟩
  clear H9 x0 x1
  have HB6 : Hid (Below w.heap.size w W4 ∧ W4.heap[bx]? = some (.cells #[.slice pa pn pc, .slice qa qn qc] 24 (0, 0))) := ⟨HB5.out.2.trans (HXS.out.2.2.2.2.1.mono HB5.out.2.size), (HXS.out.2.2.2.2.1.block bx (Array.getElem?_eq_some_iff.1 HBX5.out).1).trans HBX5.out⟩
  have HS6 : Hid (St w1 hb M n0 m W4 ∧ St w4 hb' M' (n0 + n1) m' W4) := ⟨HS5.out.1.below HXS.out.2.2.2.2.1, HS5.out.2.below HXS.out.2.2.2.2.1⟩
  have hS5 : RmS W4 bx (.slice pa pn pc) (.slice qa qn qc) W4.drew := rmS_to (Below.refl _ W4).drew HB6.out.2
  obtain ⟨W5, hW5⟩ : ∃ W, W4.drew = W := ⟨_, rfl⟩
  have HD : Hid (Below W4.heap.size W4 W5) := by rw [← hW5]; exact (Below.refl _ W4).drew
  have HE0 : Hid (RmS W4 bx (.slice pa pn pc) (.slice qa qn qc) (W5.alloc (.cells #[] 34)) ∧ (W5.alloc (.cells #[] 34)).ownsRow W4.heap.size 34 2 (.slice (some ⟨W5.heap.size, 0, none⟩) 0 0) 0 [] ∧ (pn = 0 ∨ ∃ ad, pa = some ad ∧ ∀ j u, (flatN ps)[j]? = some u → (W5.alloc (.cells #[] 34)).cell? (ad.add j) = some u) ∧ W4.heap.size ≤ (W5.alloc (.cells #[] 34)).heap.size ∧ Below W4.heap.size W4 (W5.alloc (.cells #[] 34))) := by
    have h1 : Below W4.heap.size W4 (W5.alloc (.cells #[] 34)) := HD.out.alloc HD.out.size _
    exact ⟨rmS_to h1 HB6.out.2, ⟨rfl, .inr ⟨W5.heap.size, 0, #[], rfl, HD.out.size, heap_alloc_new W5 _, Nat.le_refl _, by simp, rfl, rfl⟩⟩, newsN_of HX.out.2.2.1 (HB6.out.1.trans (h1.mono HB6.out.1.size)), h1.size, h1⟩
  have HE1f : Hid (∀ (da : Option Addr) (dc : Nat) (u5 : World), u5.ownsRow W4.heap.size 34 2 (.slice da (0 + pn) dc) (0 + pn) ([] ++ flatN ps) → (W5.alloc (.cells #[] 34)).grownBy u5 (Value.slice (some ⟨W5.heap.size, 0, none⟩) 0 0).ownBlock → Hid (RmS W4 bx (.slice pa pn pc) (.slice qa qn qc) u5 ∧ u5.ownsRow W4.heap.size 34 2 (.slice da (0 + pn) dc) (0 + pn) ([] ++ flatN ps) ∧ (qn = 0 ∨ ∃ ad, qa = some ad ∧ ∀ j u, (flatN qs)[j]? = some u → u5.cell? (ad.add j) = some u) ∧ W4.heap.size ≤ u5.heap.size ∧ Below W4.heap.size W4 u5)) := fun da dc u5 hown hgr => by
    have h1 : Below W4.heap.size W4 u5 := HE0.out.2.2.2.2.grown hgr HE0.out.2.2.2.1 (fun g hg => (HE0.out.2.1.lt g hg).1)
    exact ⟨rmS_to h1 HB6.out.2, hown, newsN_of HX.out.2.2.2.1 (HB6.out.1.trans (h1.mono HB6.out.1.size)), h1.size, h1⟩
  have HE2f : Hid (∀ (ea : Option Addr) (ec : Nat) (da : Option Addr) (dc : Nat) (u5 u6 : World), u5.ownsRow W4.heap.size 34 2 (.slice da (0 + pn) dc) (0 + pn) ([] ++ flatN ps) → Below W4.heap.size W4 u5 → u6.ownsRow W4.heap.size 34 2 (.slice ea (0 + pn + qn) ec) (0 + pn + qn) ([] ++ flatN ps ++ flatN qs) → u5.grownBy u6 (Value.slice da (0 + pn) dc).ownBlock → Hid (RmS W4 bx (.slice pa pn pc) (.slice qa qn qc) u6 ∧ NamesAt u6 (.slice ea (0 + pn + qn) ec) (ps ++ qs) ∧ Below W4.heap.size W4 u6)) := fun ea ec da dc u5 u6 ho hb hown hgr => by
    have h1 : Below W4.heap.size W4 u6 := hb.grown hgr hb.size (fun g hg => (ho.lt g hg).1)
    refine ⟨rmS_to h1 HB6.out.2, ?_, h1⟩
    have e1 := HX.out.2.2.2.2.2.2.2.1
    have e2 := HX.out.2.2.2.2.2.2.2.2
    have e3 : (ps ++ qs).length = 0 + pn + qn := by rw [List.length_append, e1, e2]; omega
    refine namesAt_of_owns (base := W4.heap.size) ?_ (by rw [e3]; unfold maxLen; omega)
    unfold OwnN
    rw [flatN_append, e3]
    simpa using hown
  clear HD
  go_wp2_with fail
  refine wp_region_noPanic ?_
  refine wp_region_held_drew (S := RmS W4 bx (.slice pa pn pc) (.slice qa qn qc)) (by kernel_rfl) hS5 (fun hHeld => ?_)
  refine wpAnyH_take (i := 1) (v := ?_) (by simp only [List.getElem?_toArray, List.getElem?_cons_zero, List.getElem?_cons_succ]; rfl) (by kernel_rfl) (by kernel_rfl) (by kernel_rfl) (fun _ _ _ h => h) (Or.inl ⟨by rfl, ?_⟩) (by assumption) ?_; rotate_left; (· (intro w hSw; (try dsimp only at hSw); go_simp <;> with_reducible rfl)); try simp only [Act.put, List.setIfInBounds_toArray, List.set_cons_zero, List.set_cons_succ]
  refine wpAnyH_take (i := 2) (v := ?_) (by simp only [List.getElem?_toArray, List.getElem?_cons_zero, List.getElem?_cons_succ]; rfl) (by kernel_rfl) (by kernel_rfl) (by kernel_rfl) (fun _ _ _ h => h) (Or.inl ⟨by rfl, ?_⟩) (by assumption) ?_; rotate_left; (· (intro w hSw; (try dsimp only at hSw); go_simp <;> with_reducible rfl)); try simp only [Act.put, List.setIfInBounds_toArray, List.set_cons_zero, List.set_cons_succ]
  refine wpAnyH_take (i := 4) (v := ?_) (by simp only [List.getElem?_toArray, List.getElem?_cons_zero, List.getElem?_cons_succ]; rfl) (by kernel_rfl) (by kernel_rfl) (by kernel_rfl) (fun _ _ _ h => h) (Or.inl ⟨by rfl, ?_⟩) (by assumption) ?_; rotate_left; (· (intro w hSw; (try dsimp only at hSw); go_simp <;> with_reducible rfl)); try simp only [Act.put, List.setIfInBounds_toArray, List.set_cons_zero, List.set_cons_succ]
  refine wpAnyH_take (i := 5) (v := ?_) (by simp only [List.getElem?_toArray, List.getElem?_cons_zero, List.getElem?_cons_succ]; rfl) (by kernel_rfl) (by kernel_rfl) (by kernel_rfl) (fun _ _ _ h => h) (Or.inl ⟨by rfl, ?_⟩) (by assumption) ?_; rotate_left; (· (intro w hSw; (try dsimp only at hSw); go_simp <;> with_reducible rfl)); try simp only [Act.put, List.setIfInBounds_toArray, List.set_cons_zero, List.set_cons_succ]
  refine wpAnyH_ready (rs := [0]) (by kernel_rfl) (by simp) ?_
  refine AllReadyH.cons (by simp only [List.getElem?_toArray, List.getElem?_cons_zero]; rfl) (fun K hK => ?_) AllReadyH.nil
  go_simp
  refine hK.out _ _ HE0.out.1 (fun hHeld => ?_)
  clear hK K
  try simp only [Act.put, List.setIfInBounds_toArray, List.set_cons_zero, List.set_cons_succ]
  refine wpAnyH_ready (rs := [3]) (by kernel_rfl) (by simp) ?_
  refine AllReadyH.cons (by simp only [List.getElem?_toArray, List.getElem?_cons_zero, List.getElem?_cons_succ]; rfl) (fun K hK => ?_) AllReadyH.nil
  refine stepH_append_any (by rfl) _ _ 23 (by rfl) W4.heap.size 34 iN (.agg #[.int .i64 0, .int .i64 0]) 2 16 Tryd.underlying23 hiN hzN hsN hbyN rfl (by decide) _ _ _ (by rfl) HE0.out.2.1 pa pn pc (flatN ps) (by rfl) HL.out.1 HE0.out.2.2.1 (flatN_one ps) (by unfold maxLen; omega) (by omega) HE0.out.2.2.2.1 ?_
  intro da dc w5 hown hgr
  have HE1 := HE1f.out da dc w5 hown hgr
  refine hK.out _ _ HE1.out.1 (fun hHeld => ?_)
  clear hown hgr
  clear hK K
  try simp only [Act.put, List.setIfInBounds_toArray, List.set_cons_zero, List.set_cons_succ]
  refine wpAnyH_ready (rs := [6]) (by kernel_rfl) (by simp) ?_
  refine AllReadyH.cons (by simp only [List.getElem?_toArray, List.getElem?_cons_zero, List.getElem?_cons_succ]; rfl) (fun K hK => ?_) AllReadyH.nil
  refine stepH_append_any (by rfl) _ _ 23 (by rfl) W4.heap.size 34 iN (.agg #[.int .i64 0, .int .i64 0]) 2 16 Tryd.underlying23 hiN hzN hsN hbyN rfl (by decide) _ _ _ (by rfl) HE1.out.2.1 qa qn qc (flatN qs) (by rfl) HL.out.2 HE1.out.2.2.1 (flatN_one qs) (by unfold maxLen; omega) (by omega) HE1.out.2.2.2.1 ?_
  intro ea ec w6 hown hgr
  have HE2 := HE2f.out ea ec da dc w5 w6 HE1.out.2.1 HE1.out.2.2.2.2 hown hgr
  refine hK.out _ _ HE2.out.1 (fun hHeld => ?_)
  clear hown hgr
  clear hK K
  try simp only [Act.put, List.setIfInBounds_toArray, List.set_cons_zero, List.set_cons_succ]
  refine wpAnyH_take (i := 7) (v := ?_) (by simp only [List.getElem?_toArray, List.getElem?_cons_zero, List.getElem?_cons_succ]; rfl) (by kernel_rfl) (by kernel_rfl) (by kernel_rfl) (fun _ _ _ h => h) (Or.inl ⟨by rfl, ?_⟩) (by assumption) ?_; rotate_left; (· (intro w hSw; (try dsimp only at hSw); go_simp <;> with_reducible rfl)); try simp only [Act.put, List.setIfInBounds_toArray, List.set_cons_zero, List.set_cons_succ]
  refine wpAnyH_done (by kernel_rfl) ?_ _
  refine NoPanic.normal ?_
  have HF : Hid (NamesAt w6 (.slice ea (pn + qn) ec) (ps ++ qs) ∧ Below W4.heap.size W4 w6) := by
    have h := HE2.out.2
    rw [Nat.zero_add] at h
    exact h
  have HY : Hid (∀ W, Below w6.heap.size w6 W → St w1 hb M n0 m W ∧ St w4 hb' M' (n0 + n1) m' W ∧ NamesAt W (.slice xa xn xc) xs ∧ NamesAt W (.slice ea (pn + qn) ec) (ps ++ qs) ∧ NamesAt W (.slice pa pn pc) ps ∧ Below w.heap.size w W ∧ W.cell? ⟨bx, 0, none⟩ = some (.slice pa pn pc)) := fun W h => by
    have h1 : Below W4.heap.size W4 W := HF.out.2.trans (h.mono HF.out.2.size)
    have h2 : Below w.heap.size w W := HB6.out.1.trans (h1.mono HB6.out.1.size)
    exact ⟨HS6.out.1.below h1, HS6.out.2.below h1, HXS.out.2.2.2.1.below h1, HF.out.1.below h, HX.out.2.2.1.below h2, h2, (rmS_to h1 HB6.out.2).1⟩
  have HWx : Hid ((∀ x ∈ xs, wfN x) ∧ (∀ x ∈ ps ++ qs, wfN x) ∧ xs.length ≤ 1000000000 ∧ (ps ++ qs).length ≤ 1000000000 ∧ ps.length ≤ 1000000000) := by
    have e1 := HX.out.2.2.2.2.2.2.2.1
    have e2 := HX.out.2.2.2.2.2.2.2.2
    have e3 := HXS.out.2.2.2.2.2.1
    refine ⟨HXS.out.2.2.2.2.2.2, fun x hx => ?_, by omega, by rw [List.length_append]; omega, by omega⟩
    rcases List.mem_append.1 hx with h | h
    · exact HX.out.2.2.2.2.1 x h
    · exact HX.out.2.2.2.2.2.1 x h
  have HU : Hid (UpN (Rch m ps) xs) := HXS.out.1
  clear HE0 HE1f HE2f HE1 HE2 hS5 HXS HB5 HS5 HBX5 hHeld hW5 HL HB6 HS6 HF
  have H9 : Calls Tryd.prog 9 #[.pointer (some ⟨hb, 0, none⟩), .slice xa xn xc] w6 fun e w' => ∃ a j c, e = .returned (.slice a j c) ∧ Hid (NamesAt w' (.slice a j c) xs ∧ Below w6.heap.size w6 w') := by
    obtain ⟨g1, g2, g3, _⟩ := HY.out w6 (Below.refl _ _)
    refine (st9 g1 xs xa xn xc g3 HWx.out.1 HWx.out.2.2.1).mono ?_
    rintro e w' ⟨ys, a, j, c, rfl, h1, _, _, h4, h5, _⟩
    rw [upn_idem HU.out h1] at h4
    exact ⟨a, j, c, rfl, h4, h5⟩
  go_wp2_with fail
  refine H9.mono ?_
  rintro e w7 ⟨ya, yn, yc, rfl, H7⟩
  clear H9
  have H10 : Calls Tryd.prog 10 #[.slice ya yn yc, .slice xa xn xc] w7 fun e w' => e = .returned (.bool true) ∧ Hid (Below w6.heap.size w6 w') := by
    have h := f10 xs xs _ _ w7 H7.out.1 (HY.out w7 H7.out.2).2.2.1
    rw [show eqNs xs xs = true by simp [eqNs]] at h
    exact h.mono fun e w' h => ⟨h.1, H7.out.2.trans (h.2.mono H7.out.2.size)⟩
  go_wp2_with fail
  refine H10.mono ?_
  rintro e w8 ⟨rfl, H8⟩
  clear H10
  have H9 : Calls Tryd.prog 9 #[.pointer (some ⟨hb, 0, none⟩), .slice ea (pn + qn) ec] w8 fun e w' => ∃ a j c, e = .returned (.slice a j c) ∧ Hid (Below w6.heap.size w6 w' ∧ ∃ zs, NamesAt w' (.slice a j c) zs ∧ ∀ x ∈ xs, x ∈ zs) := by
    obtain ⟨g1, g2, g3, g4, _⟩ := HY.out w8 H8.out
    refine (st9 g1 (ps ++ qs) ea (pn + qn) ec g4 HWx.out.2.1 HWx.out.2.2.2.1).mono ?_
    rintro e w' ⟨zs, a, j, c, rfl, h1, _, _, h4, h5, _⟩
    exact ⟨a, j, c, rfl, H8.out.trans (h5.mono H8.out.size), zs, h4, fun x hx => (h1.all x).2 (((HU.out.all x).1 hx).mono fun y hy => List.mem_append.2 (.inl hy))⟩
  go_wp2_with fail
  refine H9.mono ?_
  rintro e w9 ⟨za, zn, zc, rfl, H9'⟩
  clear H9
  have H11 : Calls Tryd.prog 11 #[.slice xa xn xc, .slice za zn zc] w9 fun e w' => e = .returned (.bool true) ∧ Hid (Below w6.heap.size w6 w') := by
    obtain ⟨h1, zs, h2, h3⟩ := H9'.out
    have h := f11 xs zs _ _ w9 (HY.out w9 h1).2.2.1 h2
    rw [all_has h3] at h
    exact h.mono fun e w' h => ⟨h.1, h1.trans (h.2.mono h1.size)⟩
  go_wp2_with fail
  refine H11.mono ?_
  rintro e w10 ⟨rfl, H10⟩
  clear H11
  have x0 := (HY.out w10 H10.out).2.2.2.2.2.2
  have H9 : Calls Tryd.prog 9 #[.pointer (some ⟨hb', 0, none⟩), .slice pa pn pc] w10 fun e w' => ∃ a j c, e = .returned (.slice a j c) ∧ Hid (Below w6.heap.size w6 w' ∧ ∃ zs, NamesAt w' (.slice a j c) zs ∧ ∀ x ∈ xs, x ∈ zs) := by
    obtain ⟨g1, g2, g3, g4, g5, _⟩ := HY.out w10 H10.out
    refine (st9 g2 ps pa pn pc g5 HX.out.2.2.2.2.1 HWx.out.2.2.2.2).mono ?_
    rintro e w' ⟨zs, a, j, c, rfl, h1, _, _, h4, h5, _⟩
    exact ⟨a, j, c, rfl, H10.out.trans (h5.mono H10.out.size), zs, h4, fun x hx => (h1.all x).2 (((HU.out.all x).1 hx).more HSub.out)⟩
  go_wp2_with fail
  refine H9.mono ?_
  rintro e w11 ⟨ua, un, uc, rfl, H11'⟩
  clear H9 x0
  have H11 : Calls Tryd.prog 11 #[.slice xa xn xc, .slice ua un uc] w11 fun e w' => e = .returned (.bool true) ∧ Hid (Below w6.heap.size w6 w') := by
    obtain ⟨h1, zs, h2, h3⟩ := H11'.out
    have h := f11 xs zs _ _ w11 (HY.out w11 h1).2.2.1 h2
    rw [all_has h3] at h
    exact h.mono fun e w' h => ⟨h.1, h1.trans (h.2.mono h1.size)⟩
  go_wp2_with fail
  refine H11.mono ?_
  rintro e w12 ⟨rfl, H12⟩
  clear H11
  have x0 := (HY.out w12 H12.out).2.2.2.2.2.2
  have H11 : Calls Tryd.prog 11 #[.slice pa pn pc, .slice xa xn xc] w12 fun e w' => e = .returned (.bool true) ∧ Hid (Below w.heap.size w w') := by
    obtain ⟨g1, g2, g3, g4, g5, g6, _⟩ := HY.out w12 H12.out
    have h := f11 ps xs _ _ w12 g5 g3
    rw [all_has fun x hx => (HU.out.all x).2 (.root hx)] at h
    exact h.mono fun e w' h => ⟨h.1, g6.trans (h.2.mono g6.size)⟩
  go_wp2_with fail
  refine H11.mono ?_
  rintro e w13 ⟨rfl, H13⟩
  clear H11 x0
  go_wp2_with fail
  go_ret
  exact ⟨rfl, H13.out⟩
end Go.Proofs.YtojobiefambkoaaDoor
