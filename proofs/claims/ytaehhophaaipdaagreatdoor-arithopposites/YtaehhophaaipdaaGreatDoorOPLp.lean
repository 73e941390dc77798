/- Contract of the statement on opposite guards. -/
import Derived.Test.YtaehhophaaipdaaGreatDoorOPBp
namespace Go.Proofs.YtaehhophaaipdaaGreatDoor
open Go.RowKit
attribute [local go_sem ↓] Go.wp_at_zero Go.wp_at_succ
/-- What is asked of both maps, and of the two terms. -/
structure Eo (w1 : World) (hb rt : Nat) (m : Hp) (lx ly : List C) (xa : Option Addr) (xc : Nat) (ya : Option Addr) (yc : Nat) : Prop where
  tx : TermAt w1 (.slice xa lx.length xc) lx
  ty : TermAt w1 (.slice ya ly.length yc) ly
  wx : ∀ c ∈ lx, wfN (c.vn, c.vk)
  wy : ∀ c ∈ ly, wfN (c.vn, c.vk)
  rg : RgH m
  de : DescH m
  c18 : ∀ W g u v, Below w1.heap.size w1 W → Gv m g u → TermAt W v g → (∀ c ∈ g, wfN (c.vn, c.vk)) → Calls Tryz.prog 18 #[pv hb, v] W (GnPost u W)
  dr : DerG w1 (some ⟨rt, 0, none⟩) m
  c9 : ∀ cells : List C, ∃ (d : Nat) (v : V3), (rightB cells = true → Rs m d cells v) ∧ ∀ W val, Below w1.heap.size w1 W → TermAt W val cells → (∀ c ∈ cells, wfN (c.vn, c.vk)) → Calls Tryz.prog 9 #[pv hb, val] W (RvPost (valR v (rightB cells)) W)
theorem right_ne {l : List C} (h : rightB l = true) : l ≠ [] := fun e => by
  rw [e] at h
  cases h
theorem bd_below {w W : World} {a : Option Addr} {n : Nat} {bs : List Bn} (h : BdRow w a n bs) (hb : Below w.heap.size w W) : BdRow W a n bs := by
  refine ⟨⟨h.row.len, ?_⟩, fun b hb' => ⟨(h.el b hb').1.below hb, (h.el b hb').2⟩⟩
  rcases h.row.mem with e | ⟨b, o, e, h1, h2⟩
  · exact .inl e
  · exact .inr ⟨b, o, e, Nat.lt_of_lt_of_le h1 hb.size, range_below h2 h1 hb⟩
theorem twoE_cases (x y : List C) : twoE x y = 0 ∨ twoE x y = 5 ∨ twoE x y = 6 := by
  unfold twoE
  split
  · split
    · exact .inr (.inl rfl)
    · exact .inl rfl
  · exact .inr (.inr rfl)
theorem names_of {w : World} {base : Nat} {q : Option Addr} {c : Nat} {n : List Nm} (h : OwnN w base (.slice q n.length c) n) (hl : n.length ≤ 999999999) : NamesAt w (.slice q n.length c) n := namesAt_of_owns h (by unfold maxLen; omega)
theorem own_wf {m : Nat} {t : ByteArray} {x y : List C} (hx : ∀ c ∈ x, wfN (c.vn, c.vk)) (hy : ∀ c ∈ y, wfN (c.vn, c.vk)) : ∀ c ∈ ownC t m :: (x ++ y), wfN (c.vn, c.vk) := fun c hc => by
  rcases List.mem_cons.1 hc with rfl | hc
  · exact ⟨(by decide : (Lit.int .i64 0).wf = true), (by decide : (Lit.int .i64 0).wf = true)⟩
  · rcases List.mem_append.1 hc with hc | hc
    · exact hx c hc
    · exact hy c hc
/-- The sum of a right term by the program. -/
theorem Eo.val {w1 : World} {hb rt : Nat} {m : Hp} {lx ly : List C} {xa : Option Addr} {xc : Nat} {ya : Option Addr} {yc : Nat} (h : Eo w1 hb rt m lx ly xa xc ya yc) {cells : List C} {u : V3} {d : Nat} (hr : rightB cells = true) (hu : Rs m d cells u) {W : World} {val : Value} (hb' : Below w1.heap.size w1 W) (hT : TermAt W val cells) (hW : ∀ c ∈ cells, wfN (c.vn, c.vk)) : Calls Tryz.prog 9 #[pv hb, val] W (RvPost u W) := by
  obtain ⟨d', v, h1, h2⟩ := h.c9 cells
  have e := rs_uniq (h1 hr) hu
  have h3 := h2 W val hb' hT hW
  rw [hr] at h3
  rw [e] at h3
  exact h3
theorem eo_of {wB w1 : World} {hb M rt k : Nat} {m : Hp} (h : BmF wB w1 hb M rt k m) (hk : k ≤ 3518437208780) {lx ly : List C} {xa : Option Addr} {xc : Nat} {ya : Option Addr} {yc : Nat} (hx : TermAt wB (.slice xa lx.length xc) lx) (hy : TermAt wB (.slice ya ly.length yc) ly) (wx : ∀ c ∈ lx, wfN (c.vn, c.vk)) (wy : ∀ c ∈ ly, wfN (c.vn, c.vk)) (hS : Signs wB) : Eo w1 hb rt m lx ly xa xc ya yc := by
  obtain ⟨G, bs, h1, h2, h3, h4⟩ := h
  obtain ⟨n, D, V, k1, k2, k3, k4⟩ := h1.hp
  have hR : RgH m := fun x l h => (h1.len x l h).2
  have hok : HpOk m := fun x l h => ⟨(h1.len x l h).2.1, (h1.len x l h).1⟩
  have hS1 := hS.below h1.bel
  refine ⟨hx.below h1.bel, hy.below h1.bel, wx, wy, hR, k1.desc, fun W g u v hb' hg hT hW => g18 m hok _ g u v W (.inr ⟨hb, M, n, D, rfl, k1.below hb'⟩) hg hT (hS1.below hb') hW, ?_, fun cells => ?_⟩
  · subst h2
    exact derG_rf h1.rf h3 k1.desc k1.wf (by omega)
  · obtain ⟨d, v, j1, j2⟩ := both_vals m hR k1.desc cells
    exact ⟨d, v, j1, fun W val hb' hT hW => j2 _ val W hT (hS1.below hb') (.inr ⟨hb, M, n, D, rfl, k1.below hb'⟩) hW⟩
/-- One of the three comparisons, with its opposite. -/
structure O3 (W0 : World) (ob k : Nat) (m : Hp) (lx ly : List C) (u v : V3) (tx ty : ByteArray) (K : Nat) : Prop where
  cell : ∀ W, Below W0.heap.size W0 W → W.cell? ⟨ob, k, none⟩ = some (.string tx)
  c24 : ∀ W, Calls Tryz.prog 24 #[.string tx] W fun e w' => e = .returned (.string ty) ∧ w' = W
  e1 : makeE tx [lx, ly] = 0 ∧ makeL tx [lx, ly] = ownC tx 2 :: (lx ++ ly) ∧ tx.size ≤ maxLen
  e2 : makeE ty [lx, ly] = 0 ∧ makeL ty [lx, ly] = ownC ty 2 :: (lx ++ ly) ∧ ty.size ≤ maxLen
  g1 : Gv m (ownC tx 2 :: (lx ++ ly)) (cmpR K [u, v])
  g2 : Gv m (ownC ty 2 :: (lx ++ ly)) (cmpR (opK K) [u, v])
  ks : K = 1 ∨ K = 2 ∨ K = 5
  ne : (tx.toList == [101, 113, 117, 97, 108]) = false
theorem o3_of {W0 : World} {ob : Nat} {m : Hp} {lx ly : List C} {u v : V3} {a b : C} {r s : List C} (h : Tw m lx ly u v a b r s) (hE : twoE lx ly = 0) (hc : ∀ W, Below W0.heap.size W0 W → W.cell? ⟨ob, 0, none⟩ = some (.string ⟨#[60]⟩) ∧ W.cell? ⟨ob, 1, none⟩ = some (.string ⟨#[61, 60]⟩) ∧ W.cell? ⟨ob, 2, none⟩ = some (.string ⟨#[61, 58, 61]⟩) ∧ W.cell? ⟨ob, 3, none⟩ = some (.string ⟨#[101, 113, 117, 97, 108]⟩)) : ∀ k, k < 3 → ∃ tx ty K, O3 W0 ob k m lx ly u v tx ty K := by
  intro k hk
  rcases (show k = 0 ∨ k = 1 ∨ k = 2 by omega) with rfl | rfl | rfl
  · exact ⟨⟨#[60]⟩, ⟨#[62, 61]⟩, 1, fun W hW => (hc W hW).1, x24_lt, ⟨(two_make (k := 1) (by omega) (by omega)).trans hE, two_list (k := 1) (by omega) (by omega) hE, by decide⟩, ⟨(two_make (k := 4) (by omega) (by omega)).trans hE, two_list (k := 4) (by omega) (by omega) hE, by decide⟩, h.cmp 1 (by omega) (by omega), h.cmp 4 (by omega) (by omega), by omega, by rw [ByteArray.toList_eq]; decide⟩
  · exact ⟨⟨#[61, 60]⟩, ⟨#[62]⟩, 2, fun W hW => (hc W hW).2.1, x24_le, ⟨(two_make (k := 2) (by omega) (by omega)).trans hE, two_list (k := 2) (by omega) (by omega) hE, by decide⟩, ⟨(two_make (k := 3) (by omega) (by omega)).trans hE, two_list (k := 3) (by omega) (by omega) hE, by decide⟩, h.cmp 2 (by omega) (by omega), h.cmp 3 (by omega) (by omega), by omega, by rw [ByteArray.toList_eq]; decide⟩
  · exact ⟨⟨#[61, 58, 61]⟩, ⟨#[61, 92, 61]⟩, 5, fun W hW => (hc W hW).2.2.1, x24_eq, ⟨(two_make (k := 5) (by omega) (by omega)).trans hE, two_list (k := 5) (by omega) (by omega) hE, by decide⟩, ⟨(two_make (k := 6) (by omega) (by omega)).trans hE, two_list (k := 6) (by omega) (by omega) hE, by decide⟩, h.cmp 5 (by omega) (by omega), h.cmp 6 (by omega) (by omega), by omega, by rw [ByteArray.toList_eq]; decide⟩
/-- What two opposite comparisons tell, in two ways. -/
theorem cmp_two {k : Nat} (hk : k = 1 ∨ k = 2 ∨ k = 5) (u v : V3) :
    (∃ n, cmpR k [u, v] = (3, n) ∧ cmpR (opK k) [u, v] = (3, n)) ∨
    (∃ o p, cmpR k [u, v] = (o, []) ∧ cmpR (opK k) [u, v] = (p, []) ∧ ¬ o = 3 ∧ ¬ p = 3 ∧ (((u.2.1 = 2 ∨ v.2.1 = 2) ∧ o = 2 ∧ p = 2) ∨ (u.2.1 ≠ 2 ∧ v.2.1 ≠ 2 ∧ (o = 1 ∧ p = 2 ∨ o = 2 ∧ p = 1)))) := by
  rcases cmp_opp hk u v with ⟨hf, e1, e2⟩ | ⟨_, _, n, e1, e2⟩ | ⟨f1, f2, e1, e2⟩ | ⟨f1, f2, e1, e2⟩
  · exact .inr ⟨2, 2, e1, e2, by decide, by decide, .inl ⟨hf, rfl, rfl⟩⟩
  · exact .inl ⟨n, e1, e2⟩
  · exact .inr ⟨1, 2, e1, e2, by decide, by decide, .inr ⟨f1, f2, .inl ⟨rfl, rfl⟩⟩⟩
  · exact .inr ⟨2, 1, e1, e2, by decide, by decide, .inr ⟨f1, f2, .inr ⟨rfl, rfl⟩⟩⟩
theorem lik_two {a b : C} {r s : List C} (ra : rightB (a :: r) = true) (rb : rightB (b :: s) = true) :
    (eqT (a :: r) (b :: s) = true ∧ (∃ n, likR 11 a b = (3, n)) ∧ likR 12 a b = (2, [])) ∨
    (∃ n, likR 11 a b = (3, n) ∧ likR 12 a b = (3, n)) ∨
    (∃ o p, likR 11 a b = (o, []) ∧ likR 12 a b = (p, []) ∧ ¬ o = 3 ∧ ¬ p = 3 ∧ (((a.k = 3 ∧ b.k = 3) ∧ o = 2 ∧ p = 2) ∨ ((a.k ≠ 3 ∨ b.k ≠ 3) ∧ (o = 1 ∧ p = 2 ∨ o = 2 ∧ p = 1)))) := by
  rcases lik_opp ra rb with h | h | ⟨h, e1, e2⟩ | ⟨h, e1, e2⟩ | ⟨h, e1, e2⟩
  · exact .inl h
  · exact .inr (.inl h)
  · exact .inr (.inr ⟨2, 2, e1, e2, by decide, by decide, .inl ⟨h, rfl, rfl⟩⟩)
  · exact .inr (.inr ⟨1, 2, e1, e2, by decide, by decide, .inr ⟨h, .inl ⟨rfl, rfl⟩⟩⟩)
  · exact .inr (.inr ⟨2, 1, e1, e2, by decide, by decide, .inr ⟨h, .inr ⟨rfl, rfl⟩⟩⟩)
set_option maxRecDepth 100000 in
set_option maxHeartbeats 40000000 in
theorem l6 (b0 : Option Addr) (n0 c0 : Nat) (bs0 : List Bn) (lx ly : List C) (v1 v2 : Value) (w : World) (hA : BdRow w b0 n0 bs0) (hn : n0 ≤ 3518437208780) (hT : TermAt w v1 lx) (hW : ∀ c ∈ lx, wfN (c.vn, c.vk)) (hT2 : TermAt w v2 ly) (hW2 : ∀ c ∈ ly, wfN (c.vn, c.vk)) (hS : Signs w) :
    Calls Tryz.prog 6 #[.slice b0 n0 c0, v1, v2] w fun e w' => e = .returned (.bool true) ∧ Below w.heap.size w w' := by
  obtain ⟨xa, xc, hv1⟩ := hT.form
  obtain ⟨ya, yc, hv2⟩ := hT2.form
  subst hv1 hv2
  have H11 := h19 w hS
  have HX : Hid (TermAt w (.slice xa lx.length xc) lx ∧ TermAt w (.slice ya ly.length yc) ly ∧ (∀ c ∈ lx, wfN (c.vn, c.vk)) ∧ (∀ c ∈ ly, wfN (c.vn, c.vk)) ∧ Signs w ∧ BdRow w b0 n0 bs0) := ⟨hT, hT2, hW, hW2, hS, hA⟩
  clear hA hT hT2 hW hW2 hS
  go_enter Tryz.func6, Tryz.ntmps6
  go_wp2_with fail
  refine H11.mono ?_
  rintro e w0 ⟨rfl, b0'⟩
  have HB0 : Hid (Below w.heap.size w w0) := b0'
  clear b0' H11
  have H7 := i7f b0 n0 c0 bs0 w0 (bd_below HX.out.2.2.2.2.2 HB0.out) hn (HX.out.2.2.2.2.1.below HB0.out)
  go_wp2_with fail
  refine H7.mono ?_
  rintro e w1 ⟨hb, M, rt, rfl, H1⟩
  clear H7
  have HB1 : Hid (Below w.heap.size w w1) := by
    obtain ⟨G, bs, h1, _⟩ := H1.out
    exact HB0.out.trans (h1.bel.mono HB0.out.size)
  have HE : Hid (Eo w1 hb rt (foldB bs0) lx ly xa xc ya yc) := eo_of H1.out hn (HX.out.1.below HB0.out) (HX.out.2.1.below HB0.out) HX.out.2.2.1 HX.out.2.2.2.1 (HX.out.2.2.2.2.1.below HB0.out)
  clear H1 HB0
  generalize foldB bs0 = m at *
  have HO : Hid (∀ W, Below (w1.heap.size + 1) (w1.alloc (.cells #[.string ⟨#[60]⟩, .string ⟨#[61, 60]⟩, .string ⟨#[61, 58, 61]⟩, .string ⟨#[101, 113, 117, 97, 108]⟩] 9)) W → W.cell? ⟨w1.heap.size, 0, none⟩ = some (.string ⟨#[60]⟩) ∧ W.cell? ⟨w1.heap.size, 1, none⟩ = some (.string ⟨#[61, 60]⟩) ∧ W.cell? ⟨w1.heap.size, 2, none⟩ = some (.string ⟨#[61, 58, 61]⟩) ∧ W.cell? ⟨w1.heap.size, 3, none⟩ = some (.string ⟨#[101, 113, 117, 97, 108]⟩)) := fun W hW => by
    have h0 := range_new w1 [.string ⟨#[60]⟩, .string ⟨#[61, 60]⟩, .string ⟨#[61, 58, 61]⟩, .string ⟨#[101, 113, 117, 97, 108]⟩] 9
    have hl : w1.heap.size < w1.heap.size + 1 := by omega
    have q := fun j v (hv : ([.string ⟨#[60]⟩, .string ⟨#[61, 60]⟩, .string ⟨#[61, 58, 61]⟩, .string ⟨#[101, 113, 117, 97, 108]⟩] : List Value)[j]? = some v) => (hW.cell (p := ⟨w1.heap.size, 0 + j, none⟩) hl).trans (h0 j v hv)
    exact ⟨q 0 _ rfl, q 1 _ rfl, q 2 _ rfl, q 3 _ rfl⟩
  obtain ⟨W0, hW0⟩ : ∃ W0, w1.alloc (.cells #[.string ⟨#[60]⟩, .string ⟨#[61, 60]⟩, .string ⟨#[61, 58, 61]⟩, .string ⟨#[101, 113, 117, 97, 108]⟩] 9) = W0 := ⟨_, rfl⟩
  have HS : Hid (W0.heap.size = w1.heap.size + 1 ∧ Below w1.heap.size w1 W0) := by
    rw [← hW0]
    exact ⟨by simp, below_alloc _ _⟩
  rw [hW0] at HO
  obtain ⟨ob, hob⟩ : ∃ ob, w1.heap.size = ob := ⟨_, rfl⟩
  have HP : Hid (∀ W, Below W0.heap.size W0 W → W.cell? ⟨ob, 0, none⟩ = some (.string ⟨#[60]⟩) ∧ W.cell? ⟨ob, 1, none⟩ = some (.string ⟨#[61, 60]⟩) ∧ W.cell? ⟨ob, 2, none⟩ = some (.string ⟨#[61, 58, 61]⟩) ∧ W.cell? ⟨ob, 3, none⟩ = some (.string ⟨#[101, 113, 117, 97, 108]⟩)) := fun W hW => by
    rw [← hob]
    exact HO.out W (by rw [← HS.out.1]; exact hW)
  have HQ : Hid (∀ W, Below W0.heap.size W0 W → Below w1.heap.size w1 W ∧ Below w.heap.size w W) := fun W hW => by
    have h1 := HS.out.2.trans (hW.mono HS.out.2.size)
    exact ⟨h1, HB1.out.trans (h1.mono HB1.out.size)⟩
  have HR : Hid (∀ W, Below W0.heap.size W0 W → RowAt (W.alloc (.cells #[.slice xa lx.length xc, .slice ya ly.length yc] 24)) (.slice (some ⟨W.heap.size, 0, none⟩) 2 2) [lx, ly] ∧ Below W0.heap.size W0 (W.alloc (.cells #[.slice xa lx.length xc, .slice ya ly.length yc] 24))) := fun W hW => ⟨row_two W _ _ _ _ (HE.out.tx.below (HQ.out W hW).1) (HE.out.ty.below (HQ.out W hW).1), hW.alloc hW.size _⟩
  clear HO HS HB1
  go_wp2_with fail
  clear hW0 hob
  rcases twoE_cases lx ly with hE | hE | hE
  · obtain ⟨rx, ry, hl⟩ := two_ok hE
    obtain ⟨u, v, a, b, r, s, HTw⟩ : ∃ u v a b r s, Hid (Tw m lx ly u v a b r s) := tw_of HE.out.rg HE.out.de rx ry hl
    obtain ⟨u1, u2', u3⟩ := u
    obtain ⟨z1, z2, z3⟩ := v
    have HRR : Hid (rightB lx = true ∧ rightB ly = true) := ⟨rx, ry⟩
    clear rx ry hl
    go_loopw [10] (fun iv wr => ∃ k : Nat, k ≤ 4 ∧ iv = .int .i64 k ∧ Hid (Below W0.heap.size W0 wr)) (fun iv _ => 4 - (intOf iv).toNat)
    case atStart => exact ⟨0, by omega, rfl, Below.refl _ _⟩
    case round =>
      obtain ⟨k, hk, rfl, HK⟩ := hrel
      by_cases hk3 : k < 3
      · as_aux_lemma =>
          obtain ⟨tx, ty, K, HO3⟩ : ∃ tx ty K, Hid (O3 W0 ob k m lx ly (u1, u2', u3) (z1, z2, z3) tx ty K) := o3_of HTw.out hE HP.out k hk3
          have hne := HO3.out.ne
          have hki : (0 : Int) ≤ (k : Int) := by omega
          have hk4 : (k : Int) < 4 := by omega
          have p0 := HO3.out.cell wr HK.out
          have H23 := x23 tx [lx, ly] _ _ (HR.out wr HK.out).1 HO3.out.e1.2.2
          rw [HO3.out.e1.1, HO3.out.e1.2.1] at H23
          go_wp2_with fail
          refine H23.mono ?_
          rintro e w2 ⟨u2, rfl, hT2, hb2⟩
          have HK2 : Hid (TermAt w2 u2 (ownC tx 2 :: (lx ++ ly)) ∧ Below W0.heap.size W0 w2) := by
            have h1 := (HR.out wr HK.out).2
            exact ⟨hT2, h1.trans (hb2.mono h1.size)⟩
          clear hT2 hb2 H23 p0
          have p0 := HO3.out.cell w2 HK2.out.2
          have H24 := HO3.out.c24 w2
          go_wp2_with fail
          refine H24.mono ?_
          rintro e w2' ⟨rfl, hw2⟩
          obtain rfl := hw2.symm
          clear H24
          have H23 := x23 ty [lx, ly] _ _ (HR.out w2 HK2.out.2).1 HO3.out.e2.2.2
          rw [HO3.out.e2.1, HO3.out.e2.2.1] at H23
          go_wp2_with fail
          refine H23.mono ?_
          rintro e w3 ⟨u3', rfl, hT3, hb3⟩
          have HK3 : Hid (TermAt w3 u2 (ownC tx 2 :: (lx ++ ly)) ∧ TermAt w3 u3' (ownC ty 2 :: (lx ++ ly)) ∧ Below W0.heap.size W0 w3) := by
            have h1 := (HR.out w2 HK2.out.2).2
            have h2 := (below_alloc w2 (.cells #[.slice xa lx.length xc, .slice ya ly.length yc] 24)).trans (hb3.mono (by simp))
            exact ⟨HK2.out.1.below h2, hT3, h1.trans (hb3.mono h1.size)⟩
          clear hT3 hb3 H23 HK2 p0
          have H18 := HE.out.c18 w3 _ _ u2 (HQ.out w3 HK3.out.2.2).1 HO3.out.g1 HK3.out.1 (own_wf HE.out.wx HE.out.wy)
          have K18 : Hid (∀ W, Below w3.heap.size w3 W → Calls Tryz.prog 18 #[pv hb, u3'] W (GnPost (cmpR (opK K) [(u1, u2', u3), (z1, z2, z3)]) W)) := fun W hW => HE.out.c18 W _ _ u3' ((HQ.out w3 HK3.out.2.2).1.trans (hW.mono (HQ.out w3 HK3.out.2.2).1.size)) HO3.out.g2 (HK3.out.2.1.below hW) (own_wf HE.out.wx HE.out.wy)
          rcases cmp_two HO3.out.ks (u1, u2', u3) (z1, z2, z3) with ⟨n, e1, e2⟩ | ⟨o, p, e1, e2, ho, hp, hop⟩
          · as_aux_lemma =>
              rw [e1] at H18
              rw [e2] at K18
              clear e1 e2
              go_wp2_with fail
              refine H18.mono ?_
              rintro e w4 ⟨q4, c4, rfl, hN4, hb4, hw4⟩
              have HK4 : Hid (NamesAt w4 (.slice q4 n.length c4) n ∧ Below w3.heap.size w3 w4) := ⟨names_of (n := n) hN4 hw4.2, hb4⟩
              have H18 := K18.out w4 hb4
              clear hN4 hb4 hw4
              dsimp only [List.length_nil]
              go_wp2_with fail
              refine H18.mono ?_
              rintro e w5 ⟨q5, c5, rfl, hN5, hb5, hw5⟩
              have HK5 : Hid (NamesAt w5 (.slice q4 n.length c4) n ∧ NamesAt w5 (.slice q5 n.length c5) n ∧ Below W0.heap.size W0 w5) := by
                have h1 := HK4.out.2.trans (hb5.mono HK4.out.2.size)
                exact ⟨HK4.out.1.below hb5, names_of (n := n) hN5 hw5.2, HK3.out.2.2.trans (h1.mono HK3.out.2.2.size)⟩
              clear hN5 hb5 hw5 H18 K18 HK4 HK3
              have p0 := HO3.out.cell w5 HK5.out.2.2
              dsimp only [List.length_nil]
              have H12 := c33 n n (.slice q4 n.length c4) (.slice q5 n.length c5) w5 HK5.out.1 HK5.out.2.1
              rw [eqNs_refl] at H12
              go_wp2_with fail
              refine H12.mono ?_
              rintro e w6 ⟨rfl, hb6⟩
              have HK6 : Hid (Below W0.heap.size W0 w6) := HK5.out.2.2.trans (hb6.mono HK5.out.2.2.size)
              clear hb6 H12 HK5 p0
              have p0 := HO3.out.cell w6 HK6.out
              go_wp2_with fail
              go_roundw
              case rel => exact ⟨k + 1, by omega, by go_num, HK6⟩
              case measure => simp [intOf]; omega
          · as_aux_lemma =>
              rw [e1] at H18
              rw [e2] at K18
              clear e1 e2
              have ho2 : (o == 3) = false := by simpa using ho
              have hp2 : (p == 3) = false := by simpa using hp
              go_wp2_with fail
              refine H18.mono ?_
              rintro e w4 ⟨q4, c4, rfl, hN4, hb4, hw4⟩
              have HK4 : Hid (NamesAt w4 (.slice q4 0 c4) ([] : List Nm) ∧ Below w3.heap.size w3 w4) := ⟨names_of (n := ([] : List Nm)) hN4 hw4.2, hb4⟩
              have H18 := K18.out w4 hb4
              clear hN4 hb4 hw4
              dsimp only [List.length_nil]
              go_wp2_with fail
              refine H18.mono ?_
              rintro e w5 ⟨q5, c5, rfl, hN5, hb5, hw5⟩
              have HK5 : Hid (NamesAt w5 (.slice q4 0 c4) ([] : List Nm) ∧ NamesAt w5 (.slice q5 0 c5) ([] : List Nm) ∧ Below W0.heap.size W0 w5) := by
                have h1 := HK4.out.2.trans (hb5.mono HK4.out.2.size)
                exact ⟨HK4.out.1.below hb5, names_of (n := ([] : List Nm)) hN5 hw5.2, HK3.out.2.2.trans (h1.mono HK3.out.2.2.size)⟩
              clear hN5 hb5 hw5 H18 K18 HK4 HK3
              have p0 := HO3.out.cell w5 HK5.out.2.2
              dsimp only [List.length_nil]
              have H12 := c33 ([] : List Nm) ([] : List Nm) (.slice q4 0 c4) (.slice q5 0 c5) w5 HK5.out.1 HK5.out.2.1
              rw [eqNs_refl] at H12
              go_wp2_with fail
              refine H12.mono ?_
              rintro e w6 ⟨rfl, hb6⟩
              have HK6 : Hid (Below W0.heap.size W0 w6) := HK5.out.2.2.trans (hb6.mono HK5.out.2.2.size)
              clear hb6 H12 HK5 p0
              have p0 := HO3.out.cell w6 HK6.out
              obtain ⟨dx, hsx⟩ := HTw.out.sx
              have H9 := HE.out.val HRR.out.1 hsx (HQ.out w6 HK6.out).1 (HE.out.tx.below (HQ.out w6 HK6.out).1) HE.out.wx
              clear hsx dx
              go_wp2_with fail
              refine H9.mono ?_
              rintro e w7 ⟨q7, c7, rfl, _, hb7⟩
              have HK7 : Hid (Below W0.heap.size W0 w7) := HK6.out.trans (hb7.mono HK6.out.size)
              clear hb7 H9 HK6 p0
              obtain ⟨dy, hsy⟩ := HTw.out.sy
              have H9 := HE.out.val HRR.out.2 hsy (HQ.out w7 HK7.out).1 (HE.out.ty.below (HQ.out w7 HK7.out).1) HE.out.wy
              clear hsy dy
              dsimp only
              go_wp2_with fail
              refine H9.mono ?_
              rintro e w8 ⟨q8, c8, rfl, _, hb8⟩
              have HK8 : Hid (Below W0.heap.size W0 w8) := HK7.out.trans (hb8.mono HK7.out.size)
              clear hb8 H9 HK7
              dsimp only
              rcases hop with ⟨hf, rfl, rfl⟩ | ⟨f1, f2, ⟨rfl, rfl⟩ | ⟨rfl, rfl⟩⟩
              · clear ho hp ho2 hp2
                by_cases g1 : u2' = 2
                · subst g1
                  go_wp2_with fail
                  go_roundw
                  case rel => exact ⟨k + 1, by omega, by go_num, HK8⟩
                  case measure => simp [intOf]; omega
                · obtain rfl : z2 = 2 := by rcases hf with h | h; exact absurd h g1; exact h
                  go_wp2_with fail
                  go_roundw
                  case rel => exact ⟨k + 1, by omega, by go_num, HK8⟩
                  case measure => simp [intOf]; omega
              · clear ho hp ho2 hp2
                have g1 : ¬ u2' = 2 := f1
                have g2 : ¬ z2 = 2 := f2
                go_wp2_with fail
                go_roundw
                case rel => exact ⟨k + 1, by omega, by go_num, HK8⟩
                case measure => simp [intOf]; omega
              · clear ho hp ho2 hp2
                have g1 : ¬ u2' = 2 := f1
                have g2 : ¬ z2 = 2 := f2
                go_wp2_with fail
                go_roundw
                case rel => exact ⟨k + 1, by omega, by go_num, HK8⟩
                case measure => simp [intOf]; omega
      · rcases (show k = 3 ∨ k = 4 by omega) with rfl | rfl
        · as_aux_lemma =>
            have p3 := (HP.out wr HK.out).2.2.2
            have H23 := x23 ⟨#[101, 113, 117, 97, 108]⟩ [lx, ly] _ _ (HR.out wr HK.out).1 (by decide)
            rw [show makeE ⟨#[101, 113, 117, 97, 108]⟩ [lx, ly] = 0 from (two_make (k := 11) (by omega) (by omega)).trans hE, show makeL ⟨#[101, 113, 117, 97, 108]⟩ [lx, ly] = ownC (gT 11) 2 :: (lx ++ ly) from two_list (k := 11) (by omega) (by omega) hE] at H23
            go_wp2_with fail
            refine H23.mono ?_
            rintro e w2 ⟨u2, rfl, hT2, hb2⟩
            have HK2 : Hid (TermAt w2 u2 (ownC (gT 11) 2 :: (lx ++ ly)) ∧ Below W0.heap.size W0 w2) := by
              have h1 := (HR.out wr HK.out).2
              exact ⟨hT2, h1.trans (hb2.mono h1.size)⟩
            clear hT2 hb2 H23 p3
            have p3 := (HP.out w2 HK2.out.2).2.2.2
            have H24 := x24_el w2
            go_wp2_with fail
            refine H24.mono ?_
            rintro e w2' ⟨rfl, hw2⟩
            obtain rfl := hw2.symm
            clear H24
            have H23 := x23 ⟨#[117, 110, 108, 105, 107, 101]⟩ [lx, ly] _ _ (HR.out w2 HK2.out.2).1 (by decide)
            rw [show makeE ⟨#[117, 110, 108, 105, 107, 101]⟩ [lx, ly] = 0 from (two_make (k := 12) (by omega) (by omega)).trans hE, show makeL ⟨#[117, 110, 108, 105, 107, 101]⟩ [lx, ly] = ownC (gT 12) 2 :: (lx ++ ly) from two_list (k := 12) (by omega) (by omega) hE] at H23
            go_wp2_with fail
            refine H23.mono ?_
            rintro e w3 ⟨u3', rfl, hT3, hb3⟩
            have HK3 : Hid (TermAt w3 u2 (ownC (gT 11) 2 :: (lx ++ ly)) ∧ TermAt w3 u3' (ownC (gT 12) 2 :: (lx ++ ly)) ∧ Below W0.heap.size W0 w3) := by
              have h1 := (HR.out w2 HK2.out.2).2
              have h2 := (below_alloc w2 (.cells #[.slice xa lx.length xc, .slice ya ly.length yc] 24)).trans (hb3.mono (by simp))
              exact ⟨HK2.out.1.below h2, hT3, h1.trans (hb3.mono h1.size)⟩
            clear hT3 hb3 H23 HK2 p3
            have H18 := HE.out.c18 w3 _ _ u2 (HQ.out w3 HK3.out.2.2).1 (HTw.out.lik 11 (by omega)) HK3.out.1 (own_wf HE.out.wx HE.out.wy)
            have K18 : Hid (∀ W, Below w3.heap.size w3 W → Calls Tryz.prog 18 #[pv hb, u3'] W (GnPost (likR 12 a b) W)) := fun W hW => HE.out.c18 W _ _ u3' ((HQ.out w3 HK3.out.2.2).1.trans (hW.mono (HQ.out w3 HK3.out.2.2).1.size)) (HTw.out.lik 12 (by omega)) (HK3.out.2.1.below hW) (own_wf HE.out.wx HE.out.wy)
            rcases lik_two HTw.out.ra HTw.out.rb with ⟨heq, ⟨n, e1⟩, e2⟩ | ⟨n, e1, e2⟩ | ⟨o, p, e1, e2, ho, hp, hop⟩
            · as_aux_lemma =>
                rw [e1] at H18
                rw [e2] at K18
                clear e1 e2
                go_wp2_with fail
                refine H18.mono ?_
                rintro e w4 ⟨q4, c4, rfl, hN4, hb4, hw4⟩
                have HK4 : Hid (Below w3.heap.size w3 w4) := hb4
                have H18 := K18.out w4 hb4
                clear hN4 hb4 hw4
                dsimp only [List.length_nil]
                go_wp2_with fail
                refine H18.mono ?_
                rintro e w5 ⟨q5, c5, rfl, hN5, hb5, hw5⟩
                have HK5 : Hid (Below W0.heap.size W0 w5) := by
                  have h1 := HK4.out.trans (hb5.mono HK4.out.size)
                  exact HK3.out.2.2.trans (h1.mono HK3.out.2.2.size)
                clear hN5 hb5 hw5 H18 K18 HK4 HK3
                have p3 := (HP.out w5 HK5.out).2.2.2
                have H26 := HE.out.dr w5 lx _ (HQ.out w5 HK5.out).1 (HE.out.tx.below (HQ.out w5 HK5.out).1) HE.out.wx (right_ne HRR.out.1)
                dsimp only [List.length_nil]
                go_wp2_with fail
                refine H26.mono ?_
                rintro e w6 ⟨a6, n6, c6, l6', rfl, h6⟩
                have HK6 : Hid (TermAt w6 (.slice a6 n6 c6) (a :: r) ∧ Below W0.heap.size W0 w6) := by
                  obtain ⟨h1, h2, h3⟩ := h6.out
                  rw [h1.uniq HTw.out.fa] at h2
                  exact ⟨h2, HK5.out.trans (h3.mono HK5.out.size)⟩
                clear h6 H26 HK5 p3
                have H26 := HE.out.dr w6 ly _ (HQ.out w6 HK6.out.2).1 (HE.out.ty.below (HQ.out w6 HK6.out.2).1) HE.out.wy (right_ne HRR.out.2)
                go_wp2_with fail
                refine H26.mono ?_
                rintro e w7 ⟨a7, n7, c7, l7', rfl, h7⟩
                have HK7 : Hid (TermAt w7 (.slice a6 n6 c6) (a :: r) ∧ TermAt w7 (.slice a7 n7 c7) (b :: s) ∧ Below W0.heap.size W0 w7) := by
                  obtain ⟨h1, h2, h3⟩ := h7.out
                  rw [h1.uniq HTw.out.fb] at h2
                  exact ⟨HK6.out.1.below h3, h2, HK6.out.2.trans (h3.mono HK6.out.2.size)⟩
                clear h7 H26 HK6
                have H25 := c13 (a :: r) (b :: s) _ _ w7 HK7.out.1 HK7.out.2.1
                rw [heq] at H25
                go_wp2_with fail
                refine H25.mono ?_
                rintro e w8 ⟨rfl, hb8⟩
                have HK8 : Hid (Below W0.heap.size W0 w8) := HK7.out.2.2.trans (hb8.mono HK7.out.2.2.size)
                clear hb8 H25 HK7
                go_wp2_with fail
                go_roundw
                case rel => exact ⟨4, by omega, rfl, HK8⟩
                case measure => simp [intOf]
            · as_aux_lemma =>
                rw [e1] at H18
                rw [e2] at K18
                clear e1 e2
                go_wp2_with fail
                refine H18.mono ?_
                rintro e w4 ⟨q4, c4, rfl, hN4, hb4, hw4⟩
                have HK4 : Hid (NamesAt w4 (.slice q4 n.length c4) n ∧ Below w3.heap.size w3 w4) := ⟨names_of (n := n) hN4 hw4.2, hb4⟩
                have H18 := K18.out w4 hb4
                clear hN4 hb4 hw4
                dsimp only [List.length_nil]
                go_wp2_with fail
                refine H18.mono ?_
                rintro e w5 ⟨q5, c5, rfl, hN5, hb5, hw5⟩
                have HK5 : Hid (NamesAt w5 (.slice q4 n.length c4) n ∧ NamesAt w5 (.slice q5 n.length c5) n ∧ Below W0.heap.size W0 w5) := by
                  have h1 := HK4.out.2.trans (hb5.mono HK4.out.2.size)
                  exact ⟨HK4.out.1.below hb5, names_of (n := n) hN5 hw5.2, HK3.out.2.2.trans (h1.mono HK3.out.2.2.size)⟩
                clear hN5 hb5 hw5 H18 K18 HK4 HK3
                have p3 := (HP.out w5 HK5.out.2.2).2.2.2
                dsimp only [List.length_nil]
                have H12 := c33 n n (.slice q4 n.length c4) (.slice q5 n.length c5) w5 HK5.out.1 HK5.out.2.1
                rw [eqNs_refl] at H12
                go_wp2_with fail
                refine H12.mono ?_
                rintro e w6 ⟨rfl, hb6⟩
                have HK6 : Hid (Below W0.heap.size W0 w6) := HK5.out.2.2.trans (hb6.mono HK5.out.2.2.size)
                clear hb6 H12 HK5 p3
                have p3 := (HP.out w6 HK6.out).2.2.2
                go_wp2_with fail
                go_roundw
                case rel => exact ⟨4, by omega, rfl, HK6⟩
                case measure => simp [intOf]
            · as_aux_lemma =>
                rw [e1] at H18
                rw [e2] at K18
                clear e1 e2
                have ho2 : (o == 3) = false := by simpa using ho
                have hp2 : (p == 3) = false := by simpa using hp
                go_wp2_with fail
                refine H18.mono ?_
                rintro e w4 ⟨q4, c4, rfl, hN4, hb4, hw4⟩
                have HK4 : Hid (NamesAt w4 (.slice q4 0 c4) ([] : List Nm) ∧ Below w3.heap.size w3 w4) := ⟨names_of (n := ([] : List Nm)) hN4 hw4.2, hb4⟩
                have H18 := K18.out w4 hb4
                clear hN4 hb4 hw4
                dsimp only [List.length_nil]
                go_wp2_with fail
                refine H18.mono ?_
                rintro e w5 ⟨q5, c5, rfl, hN5, hb5, hw5⟩
                have HK5 : Hid (NamesAt w5 (.slice q4 0 c4) ([] : List Nm) ∧ NamesAt w5 (.slice q5 0 c5) ([] : List Nm) ∧ Below W0.heap.size W0 w5) := by
                  have h1 := HK4.out.2.trans (hb5.mono HK4.out.2.size)
                  exact ⟨HK4.out.1.below hb5, names_of (n := ([] : List Nm)) hN5 hw5.2, HK3.out.2.2.trans (h1.mono HK3.out.2.2.size)⟩
                clear hN5 hb5 hw5 H18 K18 HK4 HK3
                have p3 := (HP.out w5 HK5.out.2.2).2.2.2
                dsimp only [List.length_nil]
                have H12 := c33 ([] : List Nm) ([] : List Nm) (.slice q4 0 c4) (.slice q5 0 c5) w5 HK5.out.1 HK5.out.2.1
                rw [eqNs_refl] at H12
                go_wp2_with fail
                refine H12.mono ?_
                rintro e w6 ⟨rfl, hb6⟩
                have HK6 : Hid (Below W0.heap.size W0 w6) := HK5.out.2.2.trans (hb6.mono HK5.out.2.2.size)
                clear hb6 H12 HK5 p3
                have p3 := (HP.out w6 HK6.out).2.2.2
                have H26 := der_head HE.out.dr HTw.out.fa (HQ.out w6 HK6.out).1 (HE.out.tx.below (HQ.out w6 HK6.out).1) HE.out.wx (right_ne HRR.out.1)
                go_wp2_with fail
                refine H26.mono ?_
                rintro e w7 ⟨b7, o7, c7, rfl, hc7, h7⟩
                have HK7 : Hid ((∀ w2, Below w7.heap.size w7 w2 → w2.cell? ⟨b7, o7, none⟩ = some (.int .u8 a.k)) ∧ Below W0.heap.size W0 w7) := ⟨fun w2 h => (h7.out.1 w2 h).1, HK6.out.trans (h7.out.2.mono HK6.out.size)⟩
                clear h7 H26 HK6 p3
                have H26 := der_head HE.out.dr HTw.out.fb (HQ.out w7 HK7.out.2).1 (HE.out.ty.below (HQ.out w7 HK7.out.2).1) HE.out.wy (right_ne HRR.out.2)
                go_wp2_with fail
                refine H26.mono ?_
                rintro e w8 ⟨b8, o8, c8, rfl, hc8, h8⟩
                have p0 := HK7.out.1 w8 h8.out.2
                have p1 := (h8.out.1 w8 (Below.refl _ _)).1
                have HK8 : Hid (Below W0.heap.size W0 w8) := HK7.out.2.trans (h8.out.2.mono HK7.out.2.size)
                clear h8 H26 HK7
                have hr0 : 0 ≤ r.length := Nat.zero_le _
                have hs0 : 0 ≤ s.length := Nat.zero_le _
                generalize r.length = rl at *
                generalize s.length = sl at *
                generalize a.k = ka at *
                generalize b.k = kb at *
                rcases hop with ⟨⟨f1, f2⟩, rfl, rfl⟩ | ⟨hf, ⟨rfl, rfl⟩ | ⟨rfl, rfl⟩⟩
                · clear ho hp ho2 hp2
                  subst f1 f2
                  go_wp2_with fail
                  go_roundw
                  case rel => exact ⟨4, by omega, rfl, HK8⟩
                  case measure => simp [intOf]
                · clear ho hp ho2 hp2
                  by_cases g1 : ka = 3
                  · subst g1
                    have g2 : ¬ kb = 3 := by omega
                    go_wp2_with fail
                    go_roundw
                    case rel => exact ⟨4, by omega, rfl, HK8⟩
                    case measure => simp [intOf]
                  · clear hf
                    go_wp2_with fail
                    go_roundw
                    case rel => exact ⟨4, by omega, rfl, HK8⟩
                    case measure => simp [intOf]
                · clear ho hp ho2 hp2
                  by_cases g1 : ka = 3
                  · subst g1
                    have g2 : ¬ kb = 3 := by omega
                    go_wp2_with fail
                    go_roundw
                    case rel => exact ⟨4, by omega, rfl, HK8⟩
                    case measure => simp [intOf]
                  · clear hf
                    go_wp2_with fail
                    go_roundw
                    case rel => exact ⟨4, by omega, rfl, HK8⟩
                    case measure => simp [intOf]
        · have HF := (HQ.out wr HK.out).2
          go_wp2_with fail
          go_ret
          exact ⟨rfl, HF⟩
  · go_loopw [10] (fun iv wr => iv = .int .i64 0 ∧ Hid (Below W0.heap.size W0 wr)) (fun _ _ => 0)
    case atStart => exact ⟨rfl, Below.refl _ _⟩
    case round =>
      obtain ⟨rfl, HK⟩ := hrel
      have p0 := (HP.out wr HK.out).1
      have H23 := x23 ⟨#[60]⟩ [lx, ly] _ _ (HR.out wr HK.out).1 (by decide)
      rw [show makeE ⟨#[60]⟩ [lx, ly] = 5 from (two_make (k := 1) (by omega) (by omega)).trans hE] at H23
      go_wp2_with fail
      refine H23.mono ?_
      rintro e w2 ⟨u2, rfl, hT2, hb2⟩
      have HK2 : Hid (TermAt w2 u2 (makeL ⟨#[60]⟩ [lx, ly]) ∧ Below W0.heap.size W0 w2) := by
        have h1 := (HR.out wr HK.out).2
        exact ⟨hT2, h1.trans (hb2.mono h1.size)⟩
      clear hT2 hb2 H23 p0
      have p0 := (HP.out w2 HK2.out.2).1
      have H24 := x24_lt w2
      go_wp2_with fail
      refine H24.mono ?_
      rintro e w2' ⟨rfl, hw2⟩
      obtain rfl := hw2.symm
      clear H24
      have H23 := x23 ⟨#[62, 61]⟩ [lx, ly] _ _ (HR.out w2 HK2.out.2).1 (by decide)
      rw [show makeE ⟨#[62, 61]⟩ [lx, ly] = 5 from (two_make (k := 4) (by omega) (by omega)).trans hE] at H23
      go_wp2_with fail
      refine H23.mono ?_
      rintro e w3 ⟨u3, rfl, hT3, hb3⟩
      have HF : Hid (Below w.heap.size w w3) := by
        have h1 := (HR.out w2 HK2.out.2).2
        exact (HQ.out w3 (h1.trans (hb3.mono h1.size))).2
      clear hT3 hb3 H23
      go_wp2_with fail
      go_ret
      exact ⟨rfl, HF.out⟩
  · go_loopw [10] (fun iv wr => iv = .int .i64 0 ∧ Hid (Below W0.heap.size W0 wr)) (fun _ _ => 0)
    case atStart => exact ⟨rfl, Below.refl _ _⟩
    case round =>
      obtain ⟨rfl, HK⟩ := hrel
      have p0 := (HP.out wr HK.out).1
      have H23 := x23 ⟨#[60]⟩ [lx, ly] _ _ (HR.out wr HK.out).1 (by decide)
      rw [show makeE ⟨#[60]⟩ [lx, ly] = 6 from (two_make (k := 1) (by omega) (by omega)).trans hE] at H23
      go_wp2_with fail
      refine H23.mono ?_
      rintro e w2 ⟨u2, rfl, hT2, hb2⟩
      have HK2 : Hid (TermAt w2 u2 (makeL ⟨#[60]⟩ [lx, ly]) ∧ Below W0.heap.size W0 w2) := by
        have h1 := (HR.out wr HK.out).2
        exact ⟨hT2, h1.trans (hb2.mono h1.size)⟩
      clear hT2 hb2 H23 p0
      have p0 := (HP.out w2 HK2.out.2).1
      have H24 := x24_lt w2
      go_wp2_with fail
      refine H24.mono ?_
      rintro e w2' ⟨rfl, hw2⟩
      obtain rfl := hw2.symm
      clear H24
      have H23 := x23 ⟨#[62, 61]⟩ [lx, ly] _ _ (HR.out w2 HK2.out.2).1 (by decide)
      rw [show makeE ⟨#[62, 61]⟩ [lx, ly] = 6 from (two_make (k := 4) (by omega) (by omega)).trans hE] at H23
      go_wp2_with fail
      refine H23.mono ?_
      rintro e w3 ⟨u3, rfl, hT3, hb3⟩
      have HF : Hid (Below w.heap.size w w3) := by
        have h1 := (HR.out w2 HK2.out.2).2
        exact (HQ.out w3 (h1.trans (hb3.mono h1.size))).2
      clear hT3 hb3 H23
      go_wp2_with fail
      go_ret
      exact ⟨rfl, HF.out⟩
end Go.Proofs.YtaehhophaaipdaaGreatDoor
