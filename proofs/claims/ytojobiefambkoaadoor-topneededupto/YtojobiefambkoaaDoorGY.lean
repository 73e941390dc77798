/- The statement that what is dropped, as it is not needed, changes no term that is: it returns true. -/
import Derived.Test.YtojobiefambkoaaDoorGU
namespace Go.Proofs.YtojobiefambkoaaDoor
open Go.RowKit
attribute [local go_sem ↓] Go.wp_at_zero Go.wp_at_succ
theorem at_cells {w : World} {b o : Nat} {l : List C} (h : w.rangeAt b o (flat l)) (hl : l ≠ []) : ∃ cu t f, w.heap[b]? = some (.cells cu t f) := by
  obtain ⟨c, r, rfl⟩ := List.exists_cons_of_ne_nil hl
  have h0 := h 0 (.int .u8 c.k) rfl
  unfold World.cell? at h0
  cases hb : w.heap[b]? with
  | none => simp [hb] at h0
  | some ob =>
    cases ob with
    | cells cu t f => exact ⟨cu, t, f, rfl⟩
    | _ => simp [hb] at h0
theorem TermAt.but {w w' : World} {v : Value} {l : List C} {M : Nat} {es : Array MapEntry} {ck : Nat} (h : TermAt w v l) (hM : w.heap[M]? = some (.map es ck)) (hk : KeepsBut M w w') : TermAt w' v l := by
  by_cases hl : l = []
  · subst hl
    refine ⟨h.1, ?_⟩
    rcases h.2 with h2 | ⟨b, o, cap, h1, h2, h3, h4, h5⟩
    · exact .inl h2
    · exact .inr ⟨b, o, cap, h1, h2, h3, fun j u hu => by simp [flat] at hu, Nat.lt_of_lt_of_le h5 hk.2.2.2.1⟩
  · rcases h.2 with ⟨e, _⟩ | ⟨b, o, cap, h1, h2, h3, h4, h5⟩
    · exact absurd e hl
    · refine h.keeps fun g hg => ?_
      rw [h1] at hg
      cases hg
      refine hk.2.2.2.2 b h5 fun e => ?_
      obtain ⟨cu, t, f, hc⟩ := at_cells h4 hl
      rw [e, hM] at hc
      cases hc
theorem HpAt.but {w w' : World} {hb M n M2 : Nat} {D : DataW Value} {m : Hp} {es : Array MapEntry} {ck : Nat} (h : HpAt w hb M n D m) (hM : w.heap[M2]? = some (.map es ck)) (hne : M ≠ M2) (hk : KeepsBut M2 w w') : HpAt w' hb M n D m := by
  have hbl := h.blk
  refine ⟨(hk.2.2.2.2 hb (Array.getElem?_eq_some_iff.1 hbl).1 fun e => by rw [e, hM] at hbl; cases hbl).trans hbl, ?_, h.no, fun x l hx hl => ?_, h.desc, h.wf⟩
  · obtain ⟨es', ck', k1, k2⟩ := h.map
    exact ⟨es', ck', (hk.2.2.2.2 M (Array.getElem?_eq_some_iff.1 k1).1 hne).trans k1, k2⟩
  · obtain ⟨v, k1, k2⟩ := h.yes x l hx hl
    exact ⟨v, k1, k2.but hM hk⟩
/-- What Resolve tells: its error, and the cells. -/
def RsT (m : Hp) (t : List C) (c : Int) (o : List C) : Prop := (c = (if rightB t = true then 5 else 6) ∧ o = [] ∧ (rightB t = true → ∀ o', Ex m t o' → 256 < o'.length)) ∨ (c = 0 ∧ Ex m t o ∧ rightB t = true ∧ o.length ≤ 256)
theorem rs_same {m m' : Hp} {t o o' : List C} {c c' : Int} (hx : ∀ o, Ex m t o ↔ Ex m' t o) (h : RsT m t c o) (h' : RsT m' t c' o') : c = c' ∧ o = o' := by
  rcases h with ⟨h1, h2, h3⟩ | ⟨h1, h2, h3, h4⟩ <;> rcases h' with ⟨k1, k2, k3⟩ | ⟨k1, k2, k3, k4⟩
  · exact ⟨h1.trans k1.symm, h2.trans k2.symm⟩
  · exact absurd (h3 k3 o' ((hx o').2 k2)) (by omega)
  · exact absurd (k3 h3 o ((hx o).1 h2)) (by omega)
  · exact ⟨h1.trans k1.symm, h2.uniq ((hx o').2 k2)⟩
theorem ex_both {m m' : Hp} {rs : List Nm} (hs : ∀ x, Rch m rs x → lookH m' x = lookH m x) {t : List C} (ht : ∀ x ∈ varsOf t, Rch m rs x) (o : List C) : Ex m t o ↔ Ex m' t o :=
  ⟨fun h => ex_same hs h ht, fun h => ex_same (rs := rs) (fun x hx => (hs x ((Rch.same hs).1 hx)).symm) h fun x hx => (Rch.same hs).2 (ht x hx)⟩
theorem rs_len {m : Hp} {t o : List C} {c : Int} (h : RsT m t c o) : o.length ≤ 256 := by
  rcases h with ⟨_, h, _⟩ | ⟨_, _, _, h⟩
  · rw [h]; simp
  · exact h
section
variable {w W : World} {hb M k : Nat} {m : Hp}
theorem st22 (h : St w hb M k m W) (t : List C) (v : Value) (hT : TermAt W v t) (hW : ∀ c ∈ t, wfN (c.vn, c.vk)) (hS : Signs W) : Calls Tryd.prog 22 #[.pointer (some ⟨hb, 0, none⟩), v] W fun e w' => ∃ c o a k', e = .returned (.tuple #[.slice a (List.length (α := C) o) k', .int .i64 c]) ∧ Hid (RsT m t c o ∧ TermAt w' (.slice a o.length k') o ∧ Below W.heap.size W w') := by
  obtain ⟨n, D, _, hp⟩ := h.hp
  refine (i16 m hb M n D t v W hp (fun x l hl => (h.good x l hl).2) hT hW hS).mono ?_
  rintro e w' (⟨c, hc, rfl, hb, h3⟩ | ⟨o, fa, fc, rfl, h1, h2, h3⟩)
  · exact ⟨c, [], none, 0, rfl, .inl ⟨hc, rfl, h3⟩, ⟨⟨by simp, fun c hc => by cases hc⟩, .inl ⟨rfl, none, rfl⟩⟩, hb⟩
  · exact ⟨0, o, fa, fc, rfl, .inr ⟨rfl, h1, h2, h3.le⟩, h3.term, h3.bel⟩
theorem st20 (h : St w hb M k m W) (hk : k < 1000) (x : Nm) (l : List C) (v : Value) (hx : wfN x) (hT : TermAt W v l) (hW : ∀ c ∈ l, wfN (c.vn, c.vk)) (hS : Signs W) (hby : l.length * 48 ≤ 140737488355328) : Calls Tryd.prog 20 #[.pointer (some ⟨hb, 0, none⟩), .agg #[.int .i64 x.1, .int .i64 x.2], v] W fun e w' => ∃ u, e = .returned (.int .i64 u) ∧ Hid (St w hb M (k + 1) (bindH m x l) w' ∧ Below w.heap.size w w') := by
  obtain ⟨n, D, hn, hp⟩ := h.hp
  refine (h11 m hb M n D x l v W hp hx hT hW hS hby (by unfold maxLen; omega)).mono ?_
  rintro e w' ⟨rfl, n', D', k1, k2, k3, _⟩
  have hb := h.bel.trans (k3.below h.low h.bel.size)
  have hl := bind_len (m := m) (x := x) (l := l)
  have := h.len
  refine ⟨_, rfl, ⟨⟨n', D', by omega, k1⟩, rises_bind h.up, len_bind h.good hby, fun y l' hy => ?_, by omega, hb, h.low, by omega⟩, hb⟩
  rcases bind_mem (look_mem hy) with e | e
  · cases e
    exact ⟨hx, hW⟩
  · exact h.wf y l' ((look_mem_iff m h.up y l').2 e)
theorem st21 (h : St w hb M k m W) : Calls Tryd.prog 21 #[.pointer (some ⟨hb, 0, none⟩)] W fun e w' => ∃ hb2 M2, e = .returned (.pointer (some ⟨hb2, 0, none⟩)) ∧ Hid (St w hb2 M2 k m w' ∧ Below W.heap.size W w' ∧ M ≠ M2 ∧ W.heap.size ≤ M2) := by
  obtain ⟨n, D, hn, hp⟩ := h.hp
  refine (z18 m hb M n D W hp).mono ?_
  rintro e w' ⟨hb2, M2, rfl, h1, h2, h3, h4⟩
  have hM : M < W.heap.size := hp.map.lt
  exact ⟨hb2, M2, rfl, ⟨⟨n, D, hn, h1⟩, h.up, h.good, h.wf, h.len, h.bel.trans (h2.mono h.bel.size), by have := h.bel.size; omega, h.le⟩, h2, by omega, h4⟩
theorem St.but {W' : World} {hb2 M2 k2 : Nat} {m2 : Hp} (h : St w hb M k m W) (h2 : St w hb2 M2 k2 m2 W) (hne : M ≠ M2) (hk : KeepsBut M2 W W') : St w hb M k m W' := by
  obtain ⟨n, D, hn, hp⟩ := h.hp
  obtain ⟨_, _, _, hp2⟩ := h2.hp
  obtain ⟨es, ck, hM, _⟩ := hp2.map
  exact ⟨⟨n, D, hn, hp.but hM hne hk⟩, h.up, h.good, h.wf, h.len, h.bel.trans (hk.below h2.low h.bel.size), h.low, h.le⟩
end
theorem st18n {w W : World} {hb M k : Nat} {m : Hp} (h : St w hb M k m W) : Calls Tryd.prog 18 #[.pointer (some ⟨hb, 0, none⟩)] W fun e w' => ∃ a c, e = .returned (.slice a m.length c) ∧ Hid (Below W.heap.size W w') := by
  refine (st18 h).mono ?_
  rintro e w' ⟨bs, a, j, c, rfl, h1, h2, h3, _⟩
  have h4 := h2.len
  have h5 : m.length = j := by rw [← h1]; simp [hpOf]; exact h4
  rw [h5]
  exact ⟨a, c, rfl, h3⟩
theorem term_at {w : World} {a : Option Addr} {n c : Nat} {l : List C} (h : TermAt w (.slice a n c) l) {i : Nat} (hi : i < l.length) : ∃ b o, a = some ⟨b, o, none⟩ ∧ w.cell? ⟨b, o + i * 5, none⟩ = some (.int .u8 l[i].k) ∧ w.cell? ⟨b, o + i * 5 + 1, none⟩ = some (.string l[i].t) ∧ w.cell? ⟨b, o + i * 5 + 2, none⟩ = some (.int .i64 l[i].n) ∧ w.cell? ⟨b, o + i * 5 + 3, none⟩ = some (.int .i64 l[i].vn) ∧ w.cell? ⟨b, o + i * 5 + 4, none⟩ = some (.int .i64 l[i].vk) := by
  obtain ⟨_, ⟨e, _⟩ | ⟨b, o, cap, e, _, _, hr, _⟩⟩ := h
  · rw [e] at hi; simp at hi
  · simp only [Value.slice.injEq] at e
    exact ⟨b, o, e.1, term_cells hr i hi⟩
set_option maxRecDepth 100000 in
set_option maxHeartbeats 8000000 in
theorem r6 (b0 : Option Addr) (n0 c0 : Nat) (bs : List Bn) (ra : Option Addr) (rn rc : Nat) (rs : List Nm) (w : World) (hA : BdRow w b0 n0 bs) (hr : NamesAt w (.slice ra rn rc) rs) (hrn : rn ≤ 100000000) (hrw : ∀ x ∈ rs, wfN x) (hS : Signs w) :
    Calls Tryd.prog 6 #[.slice b0 n0 c0, .slice ra rn rc] w fun e w' => e = .returned (.bool true) ∧ Below w.heap.size w w' := by
  have HV : Hid (BdRow w b0 n0 bs ∧ NamesAt w (.slice ra rn rc) rs ∧ (∀ x ∈ rs, wfN x) ∧ Signs w ∧ rs.length = rn) := ⟨hA, hr, hrw, hS, names_len hr rfl⟩
  have H19 : Calls Tryd.prog 19 #[] w fun e w' => ∃ hb M, e = .returned (.pointer (some ⟨hb, 0, none⟩)) ∧ Hid (St w hb M 0 (foldB (bs.take 0)) w') := by
    refine (h26 w).mono ?_
    rintro e w' ⟨rfl, h1, h2⟩
    exact ⟨_, _, rfl, ⟨⟨0, _, Nat.le_refl _, h1⟩, List.Pairwise.nil, (fun x l h => by cases h), (fun x l h => by cases h), Nat.le_refl _, h2, Nat.le_refl _, by omega⟩⟩
  clear hA hr hrw hS
  go_enter Tryd.func6, Tryd.ntmps6
  go_wp2_with fail
  refine H19.mono ?_
  rintro e w1 ⟨hb, M, rfl, HS0⟩
  clear H19
  go_wp2_with fail
  go_loopw [6] (fun iv wr => ∃ k : Nat, k ≤ n0 ∧ k ≤ 60 ∧ iv = .int .i64 k ∧ Hid (St w hb M k (foldB (bs.take k)) wr)) (fun iv _ => n0 - (intOf iv).toNat)
  case atStart => exact ⟨0, Nat.zero_le _, by omega, rfl, HS0⟩
  case round =>
    clear HS0
    obtain ⟨k, hk, hk6, rfl, HK⟩ := hrel
    by_cases hc : k < n0 ∧ k < 60
    · obtain ⟨hlt, hlt6⟩ := hc
      have hltI : (k : Int) < (n0 : Int) := by omega
      have hltI6 : (k : Int) < 60 := by omega
      have hk0 : (0 : Int) ≤ (k : Int) := by omega
      obtain ⟨b, o, hx, rfl, hbl, c0', c1', c2'⟩ := HV.out.1.row.at hlt
      obtain ⟨e1, e2, e3, e4⟩ := HV.out.1.el _ (List.getElem_mem hx)
      have HQ : Hid (foldB (bs.take (k + 1)) = bindH (foldB (bs.take k)) bs[k].x bs[k].l) := by
        show _ = _
        rw [List.take_succ_eq_append_getElem hx, foldB_snoc]
      generalize bs[k] = q at *
      obtain ⟨⟨x1, x2⟩, la, ln, lc, ll⟩ := q
      simp only [Bn.v] at c0' c1' c2' e1 e2 e3 e4 HQ
      have hbw := HK.out.bel
      have p0 := (hbw.cell (p := ⟨b, o + k * 3, none⟩) hbl).trans c0'
      have p1 := (hbw.cell (p := ⟨b, o + k * 3 + 1, none⟩) hbl).trans c1'
      have p2 := (hbw.cell (p := ⟨b, o + k * 3 + 2, none⟩) hbl).trans c2'
      have HX : Hid (TermAt w (.slice la ln lc) ll ∧ wfN (x1, x2) ∧ (∀ c ∈ ll, wfN (c.vn, c.vk)) ∧ ll.length * 48 ≤ 140737488355328) := ⟨e1, e2, e3, e4⟩
      have H20 : ∀ W, Hid (Below wr.heap.size wr W) → Calls Tryd.prog 20 #[.pointer (some ⟨hb, 0, none⟩), .agg #[.int .i64 x1, .int .i64 x2], .slice la ln lc] W fun e w' => ∃ u, e = .returned (.int .i64 u) ∧ Hid (St w hb M (k + 1) (foldB (bs.take (k + 1))) w' ∧ Below w.heap.size w w') := fun W hW => by
        have h0 := HK.out.below hW.out
        rw [HQ.out]
        exact st20 h0 (by omega) (x1, x2) ll _ HX.out.2.1 (HX.out.1.below h0.bel) HX.out.2.2.1 (HV.out.2.2.2.1.below h0.bel) HX.out.2.2.2
      clear c0' c1' c2' e1 e2 e3 e4 hbw HQ hbl
      go_wp2_with fail
      go_region_with (go_at_call 20; refine (H20 _ (Below.drew (Below.refl _ _))).mono ?_; rintro e w3 ⟨u, rfl, H3⟩)
      all_goals (
        have HF : Hid (St w hb M (k + 1) (foldB (bs.take (k + 1))) w3) := H3.out.1
        go_wp2_with fail
        go_roundw
        case rel => exact ⟨k + 1, by omega, by omega, by go_num, HF⟩
        case measure => simp [intOf]; omega)
    · have HEND : True := trivial
      obtain ⟨m, hm⟩ : ∃ m, foldB (bs.take k) = m := ⟨_, rfl⟩
      rw [hm] at HK
      clear hm
      rcases (show ¬ k < n0 ∨ (k < n0 ∧ ¬ k < 60) by omega) with hlt | ⟨hlt, hlt6⟩
      · have hltI : ¬ (k : Int) < (n0 : Int) := by omega
        have hbz := below_alloc wr (.cells #[.int .i64 0, .int .i64 0] 34)
        have hNz : NamesAt (wr.alloc (.cells #[.int .i64 0, .int .i64 0] 34)) (.slice (some ⟨wr.heap.size, 0, none⟩) 1 1) [(0, 0)] := ⟨by decide, .inr ⟨wr.heap.size, 0, 1, rfl, range_new wr [.int .i64 0, .int .i64 0] 34, by simp⟩⟩
        have H9 : Calls Tryd.prog 9 #[.pointer (some ⟨hb, 0, none⟩), .slice (some ⟨wr.heap.size, 0, none⟩) 1 1] (wr.alloc (.cells #[.int .i64 0, .int .i64 0] 34)) fun e w' => ∃ a j c, e = .returned (.slice a (j + 1) c) ∧ Hid (Below wr.heap.size wr w') := by
          refine (st9 (HK.out.below hbz) [(0, 0)] _ 1 1 hNz (fun x hx => by rw [List.mem_singleton.1 hx]; constructor <;> decide) (by decide)).mono ?_
          rintro e w' ⟨xs, a, j, c, rfl, h1, h2, _, _, h5, _⟩
          have h6 : (0, 0) ∈ xs := (h1.all _).2 (.root (by simp))
          cases j with
          | zero => rw [List.eq_nil_of_length_eq_zero h2] at h6; cases h6
          | succ j => exact ⟨a, j, c, rfl, hbz.trans (h5.mono hbz.size)⟩
        clear hbz hNz
        go_wp2_with fail
        refine H9.mono ?_
        rintro e w2 ⟨za, zj, zc, rfl, H2⟩
        clear H9
        have hz0 : (((zj + 1 : Nat) : Int) == 0) = false := by simp; omega
        have H21 := st21 (HK.out.below H2.out)
        go_wp2_with fail
        refine H21.mono ?_
        rintro e w3 ⟨hb2, M2, rfl, H3⟩
        clear H21
        have HS3 : Hid (St w hb M k m w3 ∧ St w hb2 M2 k m w3 ∧ M ≠ M2) := ⟨(HK.out.below H2.out).below H3.out.2.1, H3.out.1, H3.out.2.2.1⟩
        clear H2 H3 HK
        have H16 := st16 HS3.out.1 rs ra rn rc (HV.out.2.1.below HS3.out.1.bel) HV.out.2.2.1 (by have := HV.out.2.2.2.2; omega)
        go_wp2_with fail
        refine H16.mono ?_
        rintro e w4 ⟨xs, ga, gn, gc, rfl, HG⟩
        clear H16
        have HS4 : Hid (St w hb M k m w4 ∧ St w hb2 M2 k m w4 ∧ M ≠ M2) := ⟨HS3.out.1.below HG.out.2.2.2.2.1, HS3.out.2.1.below HG.out.2.2.2.2.1, HS3.out.2.2⟩
        have H17 := st17 HS4.out.2.1 xs (.slice ga gn gc) _ HG.out.2.2.1 HG.out.2.2.2.1 HG.out.2.2.2.2.2
        clear HS3
        go_wp2_with fail
        refine H17.mono ?_
        rintro e w5 ⟨rfl, H5⟩
        clear H17
        have HS5 : Hid (St w hb M k m w5 ∧ St w hb2 M2 k (dropH m (garbF m xs)) w5 ∧ Below w.heap.size w w5) := by
          have h := HS4.out.1.but HS4.out.2.1 HS4.out.2.2 H5.out.2
          exact ⟨h, H5.out.1, h.bel⟩
        have HUP : Hid (UpN (Rch m rs) xs) := HG.out.1
        have HLK : Hid (∀ x, Rch m rs x → lookH (dropH m (garbF m xs)) x = lookH m x) := fun x hx => garb_look ((HUP.out.all x).2 hx)
        have HGN : Hid (garbF (dropH m (garbF m xs)) xs = [] ∧ (dropH m (garbF m xs)).length ≤ m.length) := ⟨garb_none, garb_len⟩
        generalize dropH m (garbF m xs) = m' at *
        clear HS4 H5 HG
        go_wp2_with fail
        go_loopw [8] (fun iv wr => ∃ j : Nat, j ≤ rn ∧ iv = .int .i64 j ∧ Hid (Below w5.heap.size w5 wr)) (fun iv _ => rn - (intOf iv).toNat)
        case atStart => exact ⟨0, Nat.zero_le _, rfl, Below.refl _ _⟩
        case round =>
          obtain ⟨j, hj, rfl, HJ⟩ := hrel
          by_cases hjt : j < rn
          · have hjI : (j : Int) < (rn : Int) := by omega
            have hj0 : (0 : Int) ≤ (j : Int) := by omega
            have hbw : Below w.heap.size w wr := HS5.out.2.2.trans (HJ.out.mono HS5.out.2.2.size)
            obtain ⟨b, o, hx, rfl, hbl, p0, p1⟩ := names_at (HV.out.2.1.below hbw) hjt
            have HR : Hid (wfN rs[j] ∧ rs[j] ∈ rs) := ⟨HV.out.2.2.1 _ (List.getElem_mem hx), List.getElem_mem hx⟩
            generalize rs[j] = r at *
            obtain ⟨r1, r2⟩ := r
            simp only at p0 p1
            have hT := termAt_new wr ⟨4, ⟨#[]⟩, 0, r1, r2⟩ (Nat.zero_le _)
            have hb1 := below_alloc wr (.cells #[.int .u8 4, .string ⟨#[]⟩, .int .i64 0, .int .i64 r1, .int .i64 r2] 54)
            have HT : Hid (TermAt (wr.alloc (.cells #[.int .u8 4, .string ⟨#[]⟩, .int .i64 0, .int .i64 r1, .int .i64 r2] 54)) (.slice (some ⟨wr.heap.size, 0, none⟩) 1 1) [⟨4, ⟨#[]⟩, 0, r1, r2⟩] ∧ Below w5.heap.size w5 (wr.alloc (.cells #[.int .u8 4, .string ⟨#[]⟩, .int .i64 0, .int .i64 r1, .int .i64 r2] 54))) := ⟨hT, HJ.out.trans (hb1.mono HJ.out.size)⟩
            have HWf : Hid ((∀ c ∈ [(⟨4, ⟨#[]⟩, 0, r1, r2⟩ : C)], wfN (c.vn, c.vk)) ∧ ∀ o, Ex m [⟨4, ⟨#[]⟩, 0, r1, r2⟩] o ↔ Ex m' [⟨4, ⟨#[]⟩, 0, r1, r2⟩] o) := by
              refine ⟨fun c hc => by rw [List.mem_singleton.1 hc]; exact HR.out.1, ex_both HLK.out fun x hx => ?_⟩
              have hx : x = (r1, r2) := by simpa [varsOf] using hx
              rw [hx]
              exact .root HR.out.2
            have H22 := st22 (HS5.out.1.below HT.out.2) _ _ HT.out.1 HWf.out.1 (HV.out.2.2.2.1.below (HS5.out.2.2.trans (HT.out.2.mono HS5.out.2.2.size)))
            obtain ⟨W1, hW1⟩ : ∃ W, wr.alloc (.cells #[.int .u8 4, .string ⟨#[]⟩, .int .i64 0, .int .i64 r1, .int .i64 r2] 54) = W := ⟨_, rfl⟩
            obtain ⟨z1, hz1⟩ : ∃ z, wr.heap.size = z := ⟨_, rfl⟩
            clear hT hb1 hbw hbl
            go_wp2_with fail
            rw [hW1, hz1] at H22 HT
            try rw [hW1]
            try rw [hz1]
            refine H22.mono ?_
            rintro e w6 ⟨c, o, oa, oc, rfl, H6⟩
            clear H22 p0 p1 hW1 hz1
            have HB6 : Hid (Below w5.heap.size w5 w6 ∧ TermAt w6 (.slice (some ⟨z1, 0, none⟩) 1 1) [⟨4, ⟨#[]⟩, 0, r1, r2⟩]) := ⟨HT.out.2.trans (H6.out.2.2.mono HT.out.2.size), HT.out.1.below H6.out.2.2⟩
            have H22 := st22 (HS5.out.2.1.below HB6.out.1) _ _ HB6.out.2 HWf.out.1 (HV.out.2.2.2.1.below (HS5.out.2.2.trans (HB6.out.1.mono HS5.out.2.2.size)))
            go_wp2_with fail
            refine H22.mono ?_
            rintro e w7 ⟨c', o', oa', oc', rfl, H7⟩
            clear H22
            obtain ⟨rfl, rfl⟩ : c = c' ∧ o = o' := rs_same HWf.out.2 H6.out.1 H7.out.1
            have HO : Hid (TermAt w7 (.slice oa o.length oc) o ∧ TermAt w7 (.slice oa' o.length oc') o ∧ Below w5.heap.size w5 w7) := ⟨H6.out.2.1.below H7.out.2.2, H7.out.2.1, HB6.out.1.trans (H7.out.2.2.mono HB6.out.1.size)⟩
            have hol : o.length ≤ 256 := rs_len H6.out.1
            have hcc : (c != c) = false := by simp
            have hll : (((o.length : Nat) : Int) != (o.length : Int)) = false := by simp
            clear H6 H7 HB6 HT HWf
            go_wp2_with fail
            go_loopw [14] (fun iv wr => ∃ i : Nat, i ≤ o.length ∧ iv = .int .i64 i ∧ Hid (Below w7.heap.size w7 wr)) (fun iv _ => o.length - (intOf iv).toNat)
            case atStart => exact ⟨0, Nat.zero_le _, rfl, Below.refl _ _⟩
            case round =>
              obtain ⟨i, hi, rfl, HI⟩ := hrel
              by_cases hit : i < o.length
              · have hiI : (i : Int) < (o.length : Int) := by omega
                have hi0 : (0 : Int) ≤ (i : Int) := by omega
                obtain ⟨ba, ofa, rfl, p0, p1, p2, p3, p4⟩ := term_at (HO.out.1.below HI.out) hit
                obtain ⟨bb, ofb, rfl, q0, q1, q2, q3, q4⟩ := term_at (HO.out.2.1.below HI.out) hit
                have hN := neq60 o[i].k o[i].t o[i].n o[i].vn o[i].vk o[i].k o[i].t o[i].n o[i].vn o[i].vk
                rw [show eqCells o[i].k o[i].t o[i].n o[i].vn o[i].vk o[i].k o[i].t o[i].n o[i].vn o[i].vk = true from eqC_refl o[i]] at hN
                generalize o[i].k = yk at *
                generalize o[i].t = yt at *
                generalize o[i].n = yn at *
                generalize o[i].vn = yvn at *
                generalize o[i].vk = yvk at *
                go_wp2_with fail
                go_quiet (fail)
                go_wp2_with fail
                go_roundw
                case rel => exact ⟨i + 1, by omega, by go_num, below_drewN HI.out _⟩
                case measure => simp [intOf]; omega
              · have hiI : ¬ (i : Int) < (o.length : Int) := by omega
                have HF : Hid (Below w5.heap.size w5 wr) := HO.out.2.2.trans (HI.out.mono HO.out.2.2.size)
                go_wp2_with fail
                go_roundw
                case rel => exact ⟨j + 1, by omega, by go_num, HF⟩
                case measure => simp [intOf]; omega
          · have hjI : ¬ (j : Int) < (rn : Int) := by omega
            have HS6 : Hid (St w hb M k m wr ∧ St w hb2 M2 k m' wr) := ⟨HS5.out.1.below HJ.out, HS5.out.2.1.below HJ.out⟩
            have H18 := st18n HS6.out.2
            go_wp2_with fail
            refine H18.mono ?_
            rintro e w6 ⟨ba, bc, rfl, H6⟩
            clear H18
            have H18 := st18n (HS6.out.1.below H6.out)
            go_wp2_with fail
            refine H18.mono ?_
            rintro e w7 ⟨da, dc, rfl, H7⟩
            clear H18
            have hleI : ((m'.length : Nat) : Int) ≤ (m.length : Int) := by have := HGN.out.2; omega
            have HS7 : Hid (St w hb2 M2 k m' w7) := (HS6.out.2.below H6.out).below H7.out
            have H16 : Calls Tryd.prog 16 #[.pointer (some ⟨hb2, 0, none⟩), .slice ra rn rc] w7 fun e w' => ∃ a c, e = .returned (.slice a 0 c) ∧ Hid (Below w.heap.size w w') := by
              refine (st16 HS7.out rs ra rn rc (HV.out.2.1.below HS7.out.bel) HV.out.2.2.1 (by have := HV.out.2.2.2.2; omega)).mono ?_
              rintro e w' ⟨ys, a, j, c, rfl, h1, h2, _, _, h5, _⟩
              rw [upn_same HLK.out HUP.out h1, HGN.out.1] at h2
              have h3 : 0 = j := h2
              subst h3
              exact ⟨a, c, rfl, HS7.out.bel.trans (h5.mono HS7.out.bel.size)⟩
            go_wp2_with fail
            refine H16.mono ?_
            rintro e w8 ⟨ea, ec, rfl, H8⟩
            clear H16
            go_wp2_with fail
            go_ret
            exact ⟨rfl, H8.out⟩
      · have hltI : (k : Int) < (n0 : Int) := by omega
        have hltI6 : ¬ (k : Int) < 60 := by omega
        have hbz := below_alloc wr (.cells #[.int .i64 0, .int .i64 0] 34)
        have hNz : NamesAt (wr.alloc (.cells #[.int .i64 0, .int .i64 0] 34)) (.slice (some ⟨wr.heap.size, 0, none⟩) 1 1) [(0, 0)] := ⟨by decide, .inr ⟨wr.heap.size, 0, 1, rfl, range_new wr [.int .i64 0, .int .i64 0] 34, by simp⟩⟩
        have H9 : Calls Tryd.prog 9 #[.pointer (some ⟨hb, 0, none⟩), .slice (some ⟨wr.heap.size, 0, none⟩) 1 1] (wr.alloc (.cells #[.int .i64 0, .int .i64 0] 34)) fun e w' => ∃ a j c, e = .returned (.slice a (j + 1) c) ∧ Hid (Below wr.heap.size wr w') := by
          refine (st9 (HK.out.below hbz) [(0, 0)] _ 1 1 hNz (fun x hx => by rw [List.mem_singleton.1 hx]; constructor <;> decide) (by decide)).mono ?_
          rintro e w' ⟨xs, a, j, c, rfl, h1, h2, _, _, h5, _⟩
          have h6 : (0, 0) ∈ xs := (h1.all _).2 (.root (by simp))
          cases j with
          | zero => rw [List.eq_nil_of_length_eq_zero h2] at h6; cases h6
          | succ j => exact ⟨a, j, c, rfl, hbz.trans (h5.mono hbz.size)⟩
        clear hbz hNz
        go_wp2_with fail
        refine H9.mono ?_
        rintro e w2 ⟨za, zj, zc, rfl, H2⟩
        clear H9
        have hz0 : (((zj + 1 : Nat) : Int) == 0) = false := by simp; omega
        have H21 := st21 (HK.out.below H2.out)
        go_wp2_with fail
        refine H21.mono ?_
        rintro e w3 ⟨hb2, M2, rfl, H3⟩
        clear H21
        have HS3 : Hid (St w hb M k m w3 ∧ St w hb2 M2 k m w3 ∧ M ≠ M2) := ⟨(HK.out.below H2.out).below H3.out.2.1, H3.out.1, H3.out.2.2.1⟩
        clear H2 H3 HK
        have H16 := st16 HS3.out.1 rs ra rn rc (HV.out.2.1.below HS3.out.1.bel) HV.out.2.2.1 (by have := HV.out.2.2.2.2; omega)
        go_wp2_with fail
        refine H16.mono ?_
        rintro e w4 ⟨xs, ga, gn, gc, rfl, HG⟩
        clear H16
        have HS4 : Hid (St w hb M k m w4 ∧ St w hb2 M2 k m w4 ∧ M ≠ M2) := ⟨HS3.out.1.below HG.out.2.2.2.2.1, HS3.out.2.1.below HG.out.2.2.2.2.1, HS3.out.2.2⟩
        have H17 := st17 HS4.out.2.1 xs (.slice ga gn gc) _ HG.out.2.2.1 HG.out.2.2.2.1 HG.out.2.2.2.2.2
        clear HS3
        go_wp2_with fail
        refine H17.mono ?_
        rintro e w5 ⟨rfl, H5⟩
        clear H17
        have HS5 : Hid (St w hb M k m w5 ∧ St w hb2 M2 k (dropH m (garbF m xs)) w5 ∧ Below w.heap.size w w5) := by
          have h := HS4.out.1.but HS4.out.2.1 HS4.out.2.2 H5.out.2
          exact ⟨h, H5.out.1, h.bel⟩
        have HUP : Hid (UpN (Rch m rs) xs) := HG.out.1
        have HLK : Hid (∀ x, Rch m rs x → lookH (dropH m (garbF m xs)) x = lookH m x) := fun x hx => garb_look ((HUP.out.all x).2 hx)
        have HGN : Hid (garbF (dropH m (garbF m xs)) xs = [] ∧ (dropH m (garbF m xs)).length ≤ m.length) := ⟨garb_none, garb_len⟩
        generalize dropH m (garbF m xs) = m' at *
        clear HS4 H5 HG
        go_wp2_with fail
        go_loopw [8] (fun iv wr => ∃ j : Nat, j ≤ rn ∧ iv = .int .i64 j ∧ Hid (Below w5.heap.size w5 wr)) (fun iv _ => rn - (intOf iv).toNat)
        case atStart => exact ⟨0, Nat.zero_le _, rfl, Below.refl _ _⟩
        case round =>
          obtain ⟨j, hj, rfl, HJ⟩ := hrel
          by_cases hjt : j < rn
          · have hjI : (j : Int) < (rn : Int) := by omega
            have hj0 : (0 : Int) ≤ (j : Int) := by omega
            have hbw : Below w.heap.size w wr := HS5.out.2.2.trans (HJ.out.mono HS5.out.2.2.size)
            obtain ⟨b, o, hx, rfl, hbl, p0, p1⟩ := names_at (HV.out.2.1.below hbw) hjt
            have HR : Hid (wfN rs[j] ∧ rs[j] ∈ rs) := ⟨HV.out.2.2.1 _ (List.getElem_mem hx), List.getElem_mem hx⟩
            generalize rs[j] = r at *
            obtain ⟨r1, r2⟩ := r
            simp only at p0 p1
            have hT := termAt_new wr ⟨4, ⟨#[]⟩, 0, r1, r2⟩ (Nat.zero_le _)
            have hb1 := below_alloc wr (.cells #[.int .u8 4, .string ⟨#[]⟩, .int .i64 0, .int .i64 r1, .int .i64 r2] 54)
            have HT : Hid (TermAt (wr.alloc (.cells #[.int .u8 4, .string ⟨#[]⟩, .int .i64 0, .int .i64 r1, .int .i64 r2] 54)) (.slice (some ⟨wr.heap.size, 0, none⟩) 1 1) [⟨4, ⟨#[]⟩, 0, r1, r2⟩] ∧ Below w5.heap.size w5 (wr.alloc (.cells #[.int .u8 4, .string ⟨#[]⟩, .int .i64 0, .int .i64 r1, .int .i64 r2] 54))) := ⟨hT, HJ.out.trans (hb1.mono HJ.out.size)⟩
            have HWf : Hid ((∀ c ∈ [(⟨4, ⟨#[]⟩, 0, r1, r2⟩ : C)], wfN (c.vn, c.vk)) ∧ ∀ o, Ex m [⟨4, ⟨#[]⟩, 0, r1, r2⟩] o ↔ Ex m' [⟨4, ⟨#[]⟩, 0, r1, r2⟩] o) := by
              refine ⟨fun c hc => by rw [List.mem_singleton.1 hc]; exact HR.out.1, ex_both HLK.out fun x hx => ?_⟩
              have hx : x = (r1, r2) := by simpa [varsOf] using hx
              rw [hx]
              exact .root HR.out.2
            have H22 := st22 (HS5.out.1.below HT.out.2) _ _ HT.out.1 HWf.out.1 (HV.out.2.2.2.1.below (HS5.out.2.2.trans (HT.out.2.mono HS5.out.2.2.size)))
            obtain ⟨W1, hW1⟩ : ∃ W, wr.alloc (.cells #[.int .u8 4, .string ⟨#[]⟩, .int .i64 0, .int .i64 r1, .int .i64 r2] 54) = W := ⟨_, rfl⟩
            obtain ⟨z1, hz1⟩ : ∃ z, wr.heap.size = z := ⟨_, rfl⟩
            clear hT hb1 hbw hbl
            go_wp2_with fail
            rw [hW1, hz1] at H22 HT
            try rw [hW1]
            try rw [hz1]
            refine H22.mono ?_
            rintro e w6 ⟨c, o, oa, oc, rfl, H6⟩
            clear H22 p0 p1 hW1 hz1
            have HB6 : Hid (Below w5.heap.size w5 w6 ∧ TermAt w6 (.slice (some ⟨z1, 0, none⟩) 1 1) [⟨4, ⟨#[]⟩, 0, r1, r2⟩]) := ⟨HT.out.2.trans (H6.out.2.2.mono HT.out.2.size), HT.out.1.below H6.out.2.2⟩
            have H22 := st22 (HS5.out.2.1.below HB6.out.1) _ _ HB6.out.2 HWf.out.1 (HV.out.2.2.2.1.below (HS5.out.2.2.trans (HB6.out.1.mono HS5.out.2.2.size)))
            go_wp2_with fail
            refine H22.mono ?_
            rintro e w7 ⟨c', o', oa', oc', rfl, H7⟩
            clear H22
            obtain ⟨rfl, rfl⟩ : c = c' ∧ o = o' := rs_same HWf.out.2 H6.out.1 H7.out.1
            have HO : Hid (TermAt w7 (.slice oa o.length oc) o ∧ TermAt w7 (.slice oa' o.length oc') o ∧ Below w5.heap.size w5 w7) := ⟨H6.out.2.1.below H7.out.2.2, H7.out.2.1, HB6.out.1.trans (H7.out.2.2.mono HB6.out.1.size)⟩
            have hol : o.length ≤ 256 := rs_len H6.out.1
            have hcc : (c != c) = false := by simp
            have hll : (((o.length : Nat) : Int) != (o.length : Int)) = false := by simp
            clear H6 H7 HB6 HT HWf
            go_wp2_with fail
            go_loopw [14] (fun iv wr => ∃ i : Nat, i ≤ o.length ∧ iv = .int .i64 i ∧ Hid (Below w7.heap.size w7 wr)) (fun iv _ => o.length - (intOf iv).toNat)
            case atStart => exact ⟨0, Nat.zero_le _, rfl, Below.refl _ _⟩
            case round =>
              obtain ⟨i, hi, rfl, HI⟩ := hrel
              by_cases hit : i < o.length
              · have hiI : (i : Int) < (o.length : Int) := by omega
                have hi0 : (0 : Int) ≤ (i : Int) := by omega
                obtain ⟨ba, ofa, rfl, p0, p1, p2, p3, p4⟩ := term_at (HO.out.1.below HI.out) hit
                obtain ⟨bb, ofb, rfl, q0, q1, q2, q3, q4⟩ := term_at (HO.out.2.1.below HI.out) hit
                have hN := neq60 o[i].k o[i].t o[i].n o[i].vn o[i].vk o[i].k o[i].t o[i].n o[i].vn o[i].vk
                rw [show eqCells o[i].k o[i].t o[i].n o[i].vn o[i].vk o[i].k o[i].t o[i].n o[i].vn o[i].vk = true from eqC_refl o[i]] at hN
                generalize o[i].k = yk at *
                generalize o[i].t = yt at *
                generalize o[i].n = yn at *
                generalize o[i].vn = yvn at *
                generalize o[i].vk = yvk at *
                go_wp2_with fail
                go_quiet (fail)
                go_wp2_with fail
                go_roundw
                case rel => exact ⟨i + 1, by omega, by go_num, below_drewN HI.out _⟩
                case measure => simp [intOf]; omega
              · have hiI : ¬ (i : Int) < (o.length : Int) := by omega
                have HF : Hid (Below w5.heap.size w5 wr) := HO.out.2.2.trans (HI.out.mono HO.out.2.2.size)
                go_wp2_with fail
                go_roundw
                case rel => exact ⟨j + 1, by omega, by go_num, HF⟩
                case measure => simp [intOf]; omega
          · have hjI : ¬ (j : Int) < (rn : Int) := by omega
            have HS6 : Hid (St w hb M k m wr ∧ St w hb2 M2 k m' wr) := ⟨HS5.out.1.below HJ.out, HS5.out.2.1.below HJ.out⟩
            have H18 := st18n HS6.out.2
            go_wp2_with fail
            refine H18.mono ?_
            rintro e w6 ⟨ba, bc, rfl, H6⟩
            clear H18
            have H18 := st18n (HS6.out.1.below H6.out)
            go_wp2_with fail
            refine H18.mono ?_
            rintro e w7 ⟨da, dc, rfl, H7⟩
            clear H18
            have hleI : ((m'.length : Nat) : Int) ≤ (m.length : Int) := by have := HGN.out.2; omega
            have HS7 : Hid (St w hb2 M2 k m' w7) := (HS6.out.2.below H6.out).below H7.out
            have H16 : Calls Tryd.prog 16 #[.pointer (some ⟨hb2, 0, none⟩), .slice ra rn rc] w7 fun e w' => ∃ a c, e = .returned (.slice a 0 c) ∧ Hid (Below w.heap.size w w') := by
              refine (st16 HS7.out rs ra rn rc (HV.out.2.1.below HS7.out.bel) HV.out.2.2.1 (by have := HV.out.2.2.2.2; omega)).mono ?_
              rintro e w' ⟨ys, a, j, c, rfl, h1, h2, _, _, h5, _⟩
              rw [upn_same HLK.out HUP.out h1, HGN.out.1] at h2
              have h3 : 0 = j := h2
              subst h3
              exact ⟨a, c, rfl, HS7.out.bel.trans (h5.mono HS7.out.bel.size)⟩
            go_wp2_with fail
            refine H16.mono ?_
            rintro e w8 ⟨ea, ec, rfl, H8⟩
            clear H16
            go_wp2_with fail
            go_ret
            exact ⟨rfl, H8.out⟩
end Go.Proofs.YtojobiefambkoaaDoor
