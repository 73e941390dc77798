/- The contract of CheckPreds. -/
import Derived.Test.YtlfccjlifjppdaaGreatDoorQ29
import Derived.Test.YtlfccjlifjppdaaGreatDoorQ30
import Derived.Test.YtlfccjlifjppdaaGreatDoorQ31
import Derived.Test.YtlfccjlifjppdaaGreatDoorQ21
import Derived.Deep.RegionHeld3
namespace Go.Proofs.YtlfccjlifjppdaaGreatDoor
open Go.RowKit
attribute [local go_sem ↓] Go.wp_at_zero Go.wp_at_succ
theorem reached_uniq {cs : List Cl} {a0 acc acc' : List Pd} (h : acc = seqR cs a0 acc.length) (h' : acc' = seqR cs a0 acc'.length) : acc' = acc := by
  rw [h, h']
  exact seqR_uniq (congrArg List.length h'.symm) (congrArg List.length h.symm)
theorem two_allocs (w : World) (o o' : Obj) : ((w.alloc o).alloc o').heap[w.heap.size]? = some o ∧ ((w.alloc o).alloc o').heap[w.heap.size + 1]? = some o' := by
  refine ⟨(heap_alloc_old _ _ (by simp)).trans (heap_alloc_new w o), ?_⟩
  have := heap_alloc_new (w.alloc o) o'
  simpa using this
set_option maxRecDepth 100000 in
theorem k20o (cs : List Cl) (v : Value) (x : Pd) (w : World) (hP : ProgAt w v cs) (hl : cs.length ≤ 1759218604441) (hW : ∀ c ∈ cs, hasNameS c.hd = true → wfP (predS c.hd)) (hx : wfP x) :
    Calls Tryz.prog 14 #[v, .string x.1, .int .i64 x.2] w fun e w' => ∃ u, e = .returned u ∧ w'.ownsInts w.heap.size 3 .i64 u (idxG cs x cs.length) ∧ Below w.heap.size w w' := by
  have H40 := k40 cs v w hP hl hW
  have HX : Hid (wfP x) := hx
  have HL : Hid (cs.length ≤ 1759218604441) := hl
  obtain ⟨ad, cap, hv⟩ := hP.form
  subst hv
  clear hP hW hx hl
  go_enter Tryz.func14, Tryz.ntmps14
  go_wp2_with fail
  refine H40.mono ?_
  rintro e w1 ⟨rfl, ⟨D, hG, hD⟩, hb1⟩
  obtain ⟨v1, zs, hrun, hat, hoi, hzl, _⟩ := hG.at keyed40 Tryz.underlying85 (zero44 _) (by have := HL.out; unfold maxLen; omega) (key40 x HX.out)
  have hzs : zs = idxG cs x cs.length := rowG_inv hoi ((hD.2 x HX.out).symm.trans hat)
  have HI : Hid (w1.ownsInts w.heap.size 3 .i64 v1 (idxG cs x cs.length)) := by rw [← hzs]; exact ints_base hoi (by omega)
  unfold Pd.val at hrun
  clear hoi hat hG hD hzs hzl
  go_wp2_with fail
  go_ret
  exact ⟨_, rfl, HI.out, hb1⟩
theorem P1.two {w : World} {B b : Nat} {iv va vb : Value} {zs zt : List Int} (hbk : BookAt w b iv) (hb : B ≤ b) (hrow : w.ownsRow B 36 1 iv 2 [va, vb]) (ha : w.ownsInts B 3 .i64 va zs) (hvb : w.ownsInts B 3 .i64 vb zt) (hap : ∀ g, va.ownBlock = some g → vb.ownBlock ≠ some g) : P1 w B b iv [va, vb] [zs.length, zt.length] 0 0 := by
  refine ⟨hbk, hb, hrow, fun j v n hj => by omega, ?_, ?_, ?_⟩
  · intro v n hv hn
    simp at hv hn
    subst hv hn
    exact ⟨zs, by omega, by simpa using ha⟩
  · intro j v n hj hv hn
    match j, hj, hv, hn with
    | 1, _, hv, hn =>
      simp at hv hn
      subst hv hn
      exact ⟨zt, rfl, hvb⟩
    | j + 2, _, hv, _ => simp at hv
  · intro j j' v v' g hne hv hv' hg
    match j, j', hne, hv, hv' with
    | 0, 0, hne, _, _ => exact absurd rfl hne
    | 0, 1, _, hv, hv' =>
      simp at hv hv'
      subst hv hv'
      exact hap g hg
    | 1, 0, _, hv, hv' =>
      simp at hv hv'
      subst hv hv'
      exact fun e => hap g e hg
    | 1, 1, hne, _, _ => exact absurd rfl hne
    | j + 2, _, _, hv, _ => simp at hv
    | 0, j' + 2, _, _, hv' => simp at hv'
    | 1, j' + 2, _, _, hv' => simp at hv'
abbrev PqS (w2 : World) (bx : Nat) (nm : ByteArray) (ar cl : Int) (gv : Value) (w' : World) : Prop :=
  w'.cell? ⟨bx, 0, none⟩ = some (.string nm) ∧ w'.cell? ⟨bx, 1, none⟩ = some (.int .i64 ar) ∧ w'.cell? ⟨bx, 2, none⟩ = some (.int .i64 cl) ∧ w'.cell? ⟨bx, 3, none⟩ = some gv ∧ Hid (Below w2.heap.size w2 w' ∧ bx < w2.heap.size)
theorem pqS_hb {w2 : World} {bx : Nat} {nm : ByteArray} {ar cl : Int} {gv : Value} {w' : World} (h : PqS w2 bx nm ar cl gv w') : Below w2.heap.size w2 w' := h.2.2.2.2.out.1
theorem pqS_to {w2 : World} {bx : Nat} {nm : ByteArray} {ar cl : Int} {gv : Value} {w' w'' : World} (h : PqS w2 bx nm ar cl gv w') (hb : Below w2.heap.size w2 w'') : PqS w2 bx nm ar cl gv w'' := by
  obtain ⟨h1, h2, h3, h4, h5⟩ := h
  have h9 := h5.out
  have t : ∀ j u, w'.cell? ⟨bx, j, none⟩ = some u → w''.cell? ⟨bx, j, none⟩ = some u := fun j u hu =>
    (hb.cell (p := ⟨bx, j, none⟩) h9.2).trans ((h9.1.cell (p := ⟨bx, j, none⟩) h9.2).symm.trans hu)
  exact ⟨t _ _ h1, t _ _ h2, t _ _ h3, t _ _ h4, hb, h9.2⟩
theorem pqS_below {w2 : World} {bx : Nat} {nm : ByteArray} {ar cl : Int} {gv : Value} {w' w'' : World} (h : PqS w2 bx nm ar cl gv w') (hb : Below w'.heap.size w' w'') : PqS w2 bx nm ar cl gv w'' :=
  pqS_to h ((pqS_hb h).trans (hb.mono (pqS_hb h).size))
theorem pqS_drew {w2 : World} {bx : Nat} {nm : ByteArray} {ar cl : Int} {gv : Value} {w' : World} (h : PqS w2 bx nm ar cl gv w') : PqS w2 bx nm ar cl gv w'.drew :=
  pqS_to h (pqS_hb h).drew
theorem pqS_alloc {w2 : World} {bx : Nat} {nm : ByteArray} {ar cl : Int} {gv : Value} {w' : World} (h : PqS w2 bx nm ar cl gv w') (ob : Obj) : PqS w2 bx nm ar cl gv (w'.alloc ob) :=
  pqS_to h ((pqS_hb h).alloc (pqS_hb h).size ob)
theorem progs_two {w : World} {b : Nat} {pv qv : Value} {cs ds : List Cl} (hb : w.heap[b]? = some (.cells #[pv, qv] 23 (0, 0))) (hP : ProgAt w pv cs) (hQ : ProgAt w qv ds) : ProgsAt w (.slice (some ⟨b, 0, none⟩) 2 2) [cs, ds] := by
  refine ⟨b, 0, 2, [pv, qv], rfl, (Array.getElem?_eq_some_iff.1 hb).1, rfl, fun j u hu => ?_, fun i u p hu hp => ?_⟩
  · rw [cell_of_row w b (0 + j) _ 23 (0, 0) hb, Nat.zero_add]
    simpa using hu
  · match i, hu, hp with
    | 0, hu, hp => simp at hu hp; subst hu hp; exact hP
    | 1, hu, hp => simp at hu hp; subst hu hp; exact hQ
    | i + 2, hu, _ => simp at hu
set_option maxRecDepth 100000 in
set_option maxHeartbeats 8000000 in
theorem k4p (cs ds : List Cl) (F : Fits cs) (G : Fits ds) (ls : List (List C)) (nm : ByteArray) (ar cl : Int) (pv qv gv : Value) (w : World) (hP : ProgAt w pv cs) (hQ : ProgAt w qv ds) (hR : RowAt w gv ls) (hS : Signs w) (hx : wfP (nm, ar))
    (hbl : ∀ c ∈ cs, c.bs.length ≤ 5864062014800) (hls : ls.length ≤ 1000000000) (hB : ∀ l ∈ ls, 48 * l.length ≤ 140737488355328) (htx : ∀ l ∈ ls, ∀ c ∈ l, c.t.size ≤ maxLen) (hW : ∀ y ∈ calledS ls, wfP y) (hU : (univ cs ls).length ≤ 1000000000) (hH : (headsA [cs, ds]).length ≤ 1000000000) (hcs : cs.length ≤ 1000000000) :
    Calls Tryz.prog 4 #[pv, qv, .agg #[.string nm, .int .i64 ar, .int .i64 cl, gv]] w fun e w' => e = .returned (.bool true) ∧ Below w.heap.size w w' := by
  have HP : Hid (ProgAt w pv cs) := hP
  have HQ : Hid (ProgAt w qv ds) := hQ
  have HR : Hid (RowAt w gv ls) := hR
  have HS : Hid (Signs w) := hS
  have F0 : Hid (Fits cs) := F
  have HX : Hid (wfP (nm, ar)) := hx
  have hW0 := hW
  have HLB : Hid (∀ l ∈ ls, 48 * l.length ≤ 140737488355328) := hB
  have HHr : Hid (∀ (W : World) (B : Nat) (u : Value), HandR W B u ls → RowAt W u ls) := fun W B u h => hand_row h (by unfold maxLen; omega) htx hB
  have HB0 : Hid (Below w.heap.size w (w.alloc (.cells #[.string nm, .int .i64 ar, .int .i64 cl, gv] 34))) := (Below.refl _ w).alloc (Nat.le_refl _) _
  have HBx : Hid ((w.alloc (.cells #[.string nm, .int .i64 ar, .int .i64 cl, gv] 34)).heap[w.heap.size]? = some (.cells #[.string nm, .int .i64 ar, .int .i64 cl, gv] 34 (0, 0))) := heap_alloc_new w _
  have H13 := k13h ls gv (w.alloc (.cells #[.string nm, .int .i64 ar, .int .i64 cl, gv] 34)) (hR.below HB0.out) (by omega) hB
  have H9 : Hid (∀ W, Below w.heap.size w W → Calls Tryz.prog 9 #[] W fun e w' => e = .returned (.bool true) ∧ Below W.heap.size W w') := fun W hW => k7 W (hS.below hW)
  have H14 : Hid (∀ W, Below w.heap.size w W → Calls Tryz.prog 14 #[pv, .string nm, .int .i64 ar] W fun e w' => ∃ u, e = .returned u ∧ w'.ownsInts W.heap.size 3 .i64 u (idxG cs (nm, ar) cs.length) ∧ Below W.heap.size W w') := fun W hW => k20o cs pv (nm, ar) W (hP.below hW) F.len F.hw hx
  have H16 : Hid (∀ W b, Below w.heap.size w W → W.heap[b]? = some (.cells #[pv, qv] 23 (0, 0)) → Calls Tryz.prog 16 #[.slice (some ⟨b, 0, none⟩) 2 2] W fun e w' => ∃ u, e = .returned u ∧ PredsAt w' u ((headsA [cs, ds]).foldl addP []) ∧ Below W.heap.size W w') := fun W b hW hb =>
    (k16p [cs, ds] _ W (progs_two hb (hP.below hW) (hQ.below hW)) (fun p hp => by
      simp at hp
      rcases hp with rfl | rfl
      · exact F.hw
      · exact G.hw) hH (by simp)).mono fun e w' ⟨u, h1, h2, h3⟩ => ⟨u, h1, predsAt_of_owns h2 (by have := foldP_len (headsA [cs, ds]) []; simp at this; unfold maxLen; omega), h3⟩
  have H17 : Hid (∀ W b, Below w.heap.size w W → W.heap[b]? = some (.cells #[pv, qv] 23 (0, 0)) → Calls Tryz.prog 17 #[.slice (some ⟨b, 0, none⟩) 2 2] W fun e w' => ∃ u, e = .returned u ∧ PredsAt w' u ((headsA [cs, ds]).foldl addP []) ∧ Below W.heap.size W w') := fun W b hW hb =>
    (z17 [cs, ds] _ W (progs_two hb (hP.below hW) (hQ.below hW)) hH (by simp)).mono fun e w' ⟨u, h1, h2, h3⟩ => ⟨u, h1, predsAt_of_owns87 h2 (by have := foldP_len (headsA [cs, ds]) []; simp at this; unfold maxLen; omega), h3⟩
  have HPl : Hid (((headsA [cs, ds]).foldl addP []).length ≤ 1000000000) := by
    have := foldP_len (headsA [cs, ds]) []
    simp at this
    show _ ≤ _
    omega
  have H19 : Hid (∀ W, Below w.heap.size w W → Calls Tryz.prog 19 #[pv, .string nm, .int .i64 ar] W fun e w' => ∃ u, e = .returned u ∧ w'.ownsInts W.heap.size 3 .i64 u (idxG cs (nm, ar) cs.length) ∧ Below W.heap.size W w') := fun W hW => z19 cs (nm, ar) pv W (hP.below hW) F.len
  have HQl : Hid ((callsS cs cl).length ≤ 1000000000) := by
    show _ ≤ _
    unfold callsS
    split
    · split
      · next c hc =>
        have := called_univ (ls := ls) (List.mem_of_getElem? hc)
        omega
      · simp
    · simp
  have H20 : Hid (∀ W, Below w.heap.size w W → Calls Tryz.prog 20 #[pv, .int .i64 cl] W fun e w' => ∃ u, e = .returned u ∧ PredsAt w' u (callsS cs cl) ∧ Below W.heap.size W w') := fun W hW => (k16 cs pv cl W (hP.below hW) (hS.below hW) F.bl).mono fun e w' ⟨u, h1, h2, h3⟩ => ⟨u, h1, predsAt_of_owns h2 (by have := HQl.out; unfold maxLen; omega), h3⟩
  have H21 : Hid (∀ W, Below w.heap.size w W → Calls Tryz.prog 21 #[pv, .int .i64 cl] W fun e w' => ∃ u, e = .returned u ∧ PredsAt w' u (callsS cs cl) ∧ Below W.heap.size W w') := fun W hW => (z21 cs pv cl W (hP.below hW) hbl).mono fun e w' ⟨u, h1, h2, h3⟩ => ⟨u, h1, predsAt_of_owns87 h2 (by have := HQl.out; unfold maxLen; omega), h3⟩
  have H22 : Hid (∀ W u, Below w.heap.size w W → RowAt W u ls → Calls Tryz.prog 22 #[pv, u] W fun e w' => ∃ u acc, e = .returned u ∧ PredsAt w' u acc ∧ acc = seqR cs ((calledS ls).foldl addP []) acc.length ∧ acc.length ≤ 1000000000 ∧ Below W.heap.size W w') := fun W u hW hRu => (k18r cs F ls pv u W (hP.below hW) hRu (hS.below hW) (by omega) hW0 hU).mono fun e w' ⟨u, acc, h1, h2, h3, h4, h5⟩ => ⟨u, acc, h1, h2, h3, Nat.le_trans h4.len hU, h5⟩
  have H23 : Hid (∀ W, Below w.heap.size w W → Calls Tryz.prog 23 #[pv, gv] W fun e w' => ∃ u acc, e = .returned u ∧ PredsAt w' u acc ∧ acc = seqR cs ((calledS ls).foldl addP []) acc.length ∧ acc.length ≤ 1000000000 ∧ Below W.heap.size W w') := fun W hW => (z23 cs ls pv gv W (hP.below hW) (hR.below hW) F.len hbl hU).mono fun e w' ⟨u, acc, h1, h2, h3, h4, h5⟩ => ⟨u, acc, h1, predsAt_of_owns87 h2 (by unfold maxLen; omega), h3, h4, h5⟩
  have hzl : (idxG cs (nm, ar) cs.length).length ≤ 1000000000 := Nat.le_trans (idxG_le _ _ _) hcs
  obtain ⟨ap, cp, hpf⟩ := hP.form
  obtain ⟨aq, cq, hqf⟩ := hQ.form
  obtain ⟨ag, cg, hgf⟩ := hR.form
  subst hpf hqf hgf
  clear hP hQ hR hS hx hB htx hW hW0 hU hH hbl F G
  generalize idxG cs (nm, ar) cs.length = zs at *
  generalize (headsA [cs, ds]).foldl addP [] = PP at *
  generalize callsS cs cl = QQ at *
  generalize (calledS ls).foldl addP [] = A0 at *
  go_enter Tryz.func4, Tryz.ntmps4
  go_wp2_with fail
  refine H13.mono ?_
  rintro e w1 ⟨ui, rfl, hH1, hb1⟩
  have hH1' : HandR w1 (w.heap.size + 1) ui ls := by simpa using hH1
  have HH1 : Hid (HandR w1 (w.heap.size + 1) ui ls) := hH1'
  have HB1 : Hid (Below w.heap.size w w1) := HB0.out.trans (hb1.mono HB0.out.size)
  have hbxl : w.heap.size < w1.heap.size := by have := hb1.size; simp at this; omega
  have HBxB : Hid (∀ W, Below w1.heap.size w1 W → W.cell? ⟨w.heap.size, 0, none⟩ = some (.string nm) ∧ W.cell? ⟨w.heap.size, 1, none⟩ = some (.int .i64 ar) ∧ W.cell? ⟨w.heap.size, 2, none⟩ = some (.int .i64 cl) ∧ W.cell? ⟨w.heap.size, 3, none⟩ = some (.slice ag ls.length cg)) := fun W hW => by
    have hh := (hW.block _ hbxl).trans ((hb1.block _ (by simp)).trans HBx.out)
    refine ⟨?_, ?_, ?_, ?_⟩
    · rw [cell_of_row W _ 0 _ 34 (0, 0) hh]; rfl
    · rw [cell_of_row W _ 1 _ 34 (0, 0) hh]; rfl
    · rw [cell_of_row W _ 2 _ 34 (0, 0) hh]; rfl
    · rw [cell_of_row W _ 3 _ 34 (0, 0) hh]; rfl
  obtain ⟨au, cu, huf⟩ := (HHr.out _ _ _ HH1.out).form
  subst huf
  obtain ⟨x0, x1, x2, x3⟩ := HBxB.out w1 (Below.refl _ _)
  clear hH1 hH1' hb1 H13 HBx HB0
  go_wp2_with fail
  refine (H14.out w1 HB1.out).mono ?_
  rintro e w2 ⟨va, rfl, hI2, hb2⟩
  obtain ⟨aa, ca, haf⟩ := ints_form hI2
  subst haf
  have HB12 : Hid (Below w1.heap.size w1 w2) := hb2
  have HB2 : Hid (Below w.heap.size w w2) := HB1.out.trans (hb2.mono HB1.out.size)
  have HAo : Hid (∀ W, Below w2.heap.size w2 W → W.ownsInts w1.heap.size 3 .i64 (.slice aa zs.length ca) zs) := fun W hW => ⟨owns_below hI2.1 hW, hI2.2⟩
  have HA : Hid (∀ W, Below w2.heap.size w2 W → IntsAt W (.slice aa zs.length ca) zs) := fun W hW => ⟨_, HAo.out W hW⟩
  have HIn : Hid (∀ W, Below w2.heap.size w2 W → RowAt W (.slice au ls.length cu) ls) := fun W hW => (HHr.out _ _ _ HH1.out).below (HB12.out.trans (hW.mono HB12.out.size))
  have H9 : Hid (∀ W, Below w2.heap.size w2 W → Calls Tryz.prog 9 #[] W fun e w' => e = .returned (.bool true) ∧ Below W.heap.size W w') := fun W hW => H9.out W (HB2.out.trans (hW.mono HB2.out.size))
  have H16 : Hid (∀ W b, Below w2.heap.size w2 W → W.heap[b]? = some (.cells #[.slice ap cs.length cp, .slice aq ds.length cq] 23 (0, 0)) → Calls Tryz.prog 16 #[.slice (some ⟨b, 0, none⟩) 2 2] W fun e w' => ∃ u, e = .returned u ∧ PredsAt w' u PP ∧ Below W.heap.size W w') := fun W b hW => H16.out W b (HB2.out.trans (hW.mono HB2.out.size))
  have H17 : Hid (∀ W b, Below w2.heap.size w2 W → W.heap[b]? = some (.cells #[.slice ap cs.length cp, .slice aq ds.length cq] 23 (0, 0)) → Calls Tryz.prog 17 #[.slice (some ⟨b, 0, none⟩) 2 2] W fun e w' => ∃ u, e = .returned u ∧ PredsAt w' u PP ∧ Below W.heap.size W w') := fun W b hW => H17.out W b (HB2.out.trans (hW.mono HB2.out.size))
  have H19 : Hid (∀ W, Below w2.heap.size w2 W → Calls Tryz.prog 19 #[.slice ap cs.length cp, .string nm, .int .i64 ar] W fun e w' => ∃ u, e = .returned u ∧ w'.ownsInts W.heap.size 3 .i64 u zs ∧ Below W.heap.size W w') := fun W hW => H19.out W (HB2.out.trans (hW.mono HB2.out.size))
  have H20 : Hid (∀ W, Below w2.heap.size w2 W → Calls Tryz.prog 20 #[.slice ap cs.length cp, .int .i64 cl] W fun e w' => ∃ u, e = .returned u ∧ PredsAt w' u QQ ∧ Below W.heap.size W w') := fun W hW => H20.out W (HB2.out.trans (hW.mono HB2.out.size))
  have H21 : Hid (∀ W, Below w2.heap.size w2 W → Calls Tryz.prog 21 #[.slice ap cs.length cp, .int .i64 cl] W fun e w' => ∃ u, e = .returned u ∧ PredsAt w' u QQ ∧ Below W.heap.size W w') := fun W hW => H21.out W (HB2.out.trans (hW.mono HB2.out.size))
  have H22 : Hid (∀ W, Below w2.heap.size w2 W → Calls Tryz.prog 22 #[.slice ap cs.length cp, .slice au ls.length cu] W fun e w' => ∃ u acc, e = .returned u ∧ PredsAt w' u acc ∧ acc = seqR cs A0 acc.length ∧ acc.length ≤ 1000000000 ∧ Below W.heap.size W w') := fun W hW => H22.out W _ (HB2.out.trans (hW.mono HB2.out.size)) (HIn.out W hW)
  have H23 : Hid (∀ W, Below w2.heap.size w2 W → Calls Tryz.prog 23 #[.slice ap cs.length cp, .slice ag ls.length cg] W fun e w' => ∃ u acc, e = .returned u ∧ PredsAt w' u acc ∧ acc = seqR cs A0 acc.length ∧ acc.length ≤ 1000000000 ∧ Below W.heap.size W w') := fun W hW => H23.out W (HB2.out.trans (hW.mono HB2.out.size))
  have hS0 : PqS w2 w.heap.size nm ar cl (.slice ag ls.length cg) w2 := by
    obtain ⟨y0, y1, y2, y3⟩ := HBxB.out w2 hb2
    exact ⟨y0, y1, y2, y3, Below.refl _ _, Nat.lt_of_lt_of_le hbxl hb2.size⟩
  have hzl' : zs.length ≤ 1759218604441 := by omega
  clear hI2 hb2 x0 x1 x2 x3
  go_wp2_with fail
  refine wp_region_noPanic ?_
  refine wp_region_held_drew (S := fun w' => PqS w2 w.heap.size nm ar cl (.slice ag ls.length cg) w') (by kernel_rfl) (pqS_drew hS0) (fun hHeld => ?_)
  refine wpAnyH_ready (rs := [0]) (by kernel_rfl) (by simp) ?_
  refine AllReadyH.cons (by simp only [List.getElem?_toArray, List.getElem?_cons_zero]; rfl) (fun K hK => ?_) AllReadyH.nil
  go_simp
  go_at_call 9
  refine (H9.out _ (pqS_hb (by assumption))).mono ?_
  rintro e w3 ⟨rfl, hb3⟩
  refine hK.out _ _ ?_ (fun hHeld => ?_)
  · exact pqS_below (by assumption) hb3
  clear hK K
  try simp only [Act.put, List.setIfInBounds_toArray, List.set_cons_zero, List.set_cons_succ]
  refine wpAnyH_take (i := 1) (v := ?_) (by simp only [List.getElem?_toArray, List.getElem?_cons_zero, List.getElem?_cons_succ]; rfl) (by kernel_rfl) (by kernel_rfl) (by kernel_rfl) (fun _ _ _ h => h) (Or.inl ⟨by rfl, ?_⟩) (by assumption) ?_
  rotate_left
  · (intro w hSw; (try dsimp only at hSw); go_simp <;> with_reducible rfl)
  try simp only [Act.put, List.setIfInBounds_toArray, List.set_cons_zero, List.set_cons_succ]
  refine wpAnyH_take (i := 2) (v := ?_) (by simp only [List.getElem?_toArray, List.getElem?_cons_zero, List.getElem?_cons_succ]; rfl) (by kernel_rfl) (by kernel_rfl) (by kernel_rfl) (fun _ _ _ h => h) (Or.inl ⟨by rfl, ?_⟩) (by assumption) ?_
  rotate_left
  · (intro w hSw; (try dsimp only at hSw); go_simp <;> with_reducible rfl)
  try simp only [Act.put, List.setIfInBounds_toArray, List.set_cons_zero, List.set_cons_succ]
  refine wpAnyH_take (i := 3) (v := ?_) (by simp only [List.getElem?_toArray, List.getElem?_cons_zero, List.getElem?_cons_succ]; rfl) (by kernel_rfl) (by kernel_rfl) (by kernel_rfl) (fun _ _ _ h => h) (Or.inl ⟨by rfl, ?_⟩) (by assumption) ?_
  rotate_left
  · (intro w hSw; (try dsimp only at hSw); go_simp <;> with_reducible rfl)
  try simp only [Act.put, List.setIfInBounds_toArray, List.set_cons_zero, List.set_cons_succ]
  refine wpAnyH_take (i := 4) (v := ?_) (by simp only [List.getElem?_toArray, List.getElem?_cons_zero, List.getElem?_cons_succ]; rfl) (by kernel_rfl) (by kernel_rfl) (by kernel_rfl) (fun _ _ _ h => h) (Or.inl ⟨by rfl, ?_⟩) (by assumption) ?_
  rotate_left
  · (intro w hSw; (try dsimp only at hSw); go_simp <;> with_reducible rfl)
  try simp only [Act.put, List.setIfInBounds_toArray, List.set_cons_zero, List.set_cons_succ]
  refine wpAnyH_take (i := 7) (v := ?_) (by simp only [List.getElem?_toArray, List.getElem?_cons_zero, List.getElem?_cons_succ]; rfl) (by kernel_rfl) (by kernel_rfl) (by kernel_rfl) (fun _ _ _ h => h) (Or.inl ⟨by rfl, ?_⟩) (by assumption) ?_
  rotate_left
  · (intro w hSw; (try dsimp only at hSw); go_simp <;> with_reducible rfl)
  try simp only [Act.put, List.setIfInBounds_toArray, List.set_cons_zero, List.set_cons_succ]
  refine wpAnyH_take (i := 8) (v := ?_) (by simp only [List.getElem?_toArray, List.getElem?_cons_zero, List.getElem?_cons_succ]; rfl) (by kernel_rfl) (by kernel_rfl) (by kernel_rfl) (fun _ _ _ h => h) (Or.inl ⟨by rfl, ?_⟩) (by assumption) ?_
  rotate_left
  · (intro w hSw; (try dsimp only at hSw); go_simp <;> with_reducible rfl)
  try simp only [Act.put, List.setIfInBounds_toArray, List.set_cons_zero, List.set_cons_succ]
  refine wpAnyH_ready (rs := [5, 9]) (by kernel_rfl) (by simp) ?_
  refine AllReadyH.cons (by simp only [List.getElem?_toArray, List.getElem?_cons_zero, List.getElem?_cons_succ]; rfl) (fun K hK => ?_) (AllReadyH.cons (by simp only [List.getElem?_toArray, List.getElem?_cons_zero, List.getElem?_cons_succ]; rfl) (fun K hK => ?_) AllReadyH.nil)
  · go_simp
    refine hK.out _ _ ?_ (fun hHeld => ?_)
    · exact pqS_alloc (by assumption) _
    clear hK K
    try simp only [Act.put, List.setIfInBounds_toArray, List.set_cons_zero, List.set_cons_succ]
    refine wpAnyH_ready (rs := [6, 9]) (by kernel_rfl) (by simp) ?_
    refine AllReadyH.cons (by simp only [List.getElem?_toArray, List.getElem?_cons_zero, List.getElem?_cons_succ]; rfl) (fun K hK => ?_) (AllReadyH.cons (by simp only [List.getElem?_toArray, List.getElem?_cons_zero, List.getElem?_cons_succ]; rfl) (fun K hK => ?_) AllReadyH.nil)
    · go_simp
      go_at_call 16
      refine (H16.out _ _ (pqS_hb (by assumption)) (heap_alloc_new _ _)).mono ?_
      rintro e w4 ⟨u4, rfl, hP4, hb4⟩
      refine hK.out _ _ ?_ (fun hHeld => ?_)
      · exact pqS_below (by assumption) hb4
      clear hK K
      try simp only [Act.put, List.setIfInBounds_toArray, List.set_cons_zero, List.set_cons_succ]
      refine wpAnyH_ready (rs := [9]) (by kernel_rfl) (by simp) ?_
      refine AllReadyH.cons (by simp only [List.getElem?_toArray, List.getElem?_cons_zero, List.getElem?_cons_succ]; rfl) (fun K hK => ?_) AllReadyH.nil
      go_simp
      refine hK.out _ _ ?_ (fun hHeld => ?_)
      · exact pqS_alloc (by assumption) _
      clear hK K
      try simp only [Act.put, List.setIfInBounds_toArray, List.set_cons_zero, List.set_cons_succ]
      refine wpAnyH_ready (rs := [10]) (by kernel_rfl) (by simp) ?_
      refine AllReadyH.cons (by simp only [List.getElem?_toArray, List.getElem?_cons_zero, List.getElem?_cons_succ]; rfl) (fun K hK => ?_) AllReadyH.nil
      go_simp
      go_at_call 17
      refine (H17.out _ _ (pqS_hb (by assumption)) (heap_alloc_new _ _)).mono ?_
      rintro e w5 ⟨u5, rfl, hP5, hb5⟩
      refine hK.out _ _ ?_ (fun hHeld => ?_)
      · exact pqS_below (by assumption) hb5
      clear hK K
      try simp only [Act.put, List.setIfInBounds_toArray, List.set_cons_zero, List.set_cons_succ]
      have hP4 := (hP4.below (below_alloc _ _)).below hb5
      refine wpAnyH_ready (rs := [11]) (by kernel_rfl) (by simp) ?_
      refine AllReadyH.cons (by simp only [List.getElem?_toArray, List.getElem?_cons_zero, List.getElem?_cons_succ]; rfl) (fun K hK => ?_) AllReadyH.nil
      go_simp
      go_at_call 15
      refine (s15 PP _ _ _ hP4 hP5 HPl.out).mono ?_
      rintro e w6 ⟨rfl, hb6⟩
      refine hK.out _ _ ?_ (fun hHeld => ?_)
      · exact pqS_below (by assumption) hb6
      clear hK K
      try simp only [Act.put, List.setIfInBounds_toArray, List.set_cons_zero, List.set_cons_succ]
      refine wpAnyH_take (i := 12) (v := ?_) (by simp only [List.getElem?_toArray, List.getElem?_cons_zero, List.getElem?_cons_succ]; rfl) (by kernel_rfl) (by kernel_rfl) (by kernel_rfl) (fun _ _ _ h => h) (Or.inl ⟨by rfl, ?_⟩) (by assumption) ?_
      rotate_left
      · (intro w hSw; (try dsimp only at hSw); go_simp <;> with_reducible rfl)
      try simp only [Act.put, List.setIfInBounds_toArray, List.set_cons_zero, List.set_cons_succ]
      refine wpAnyH_take (i := 13) (v := ?_) (by simp only [List.getElem?_toArray, List.getElem?_cons_zero, List.getElem?_cons_succ]; rfl) (by kernel_rfl) (by kernel_rfl) (by kernel_rfl) (fun _ _ _ h => h) (Or.inl ⟨by rfl, ?_⟩) (by assumption) ?_
      rotate_left
      · (intro w hSw; (try dsimp only at hSw); go_simp <;> with_reducible rfl)
      try simp only [Act.put, List.setIfInBounds_toArray, List.set_cons_zero, List.set_cons_succ]
      refine wpAnyH_take (i := 14) (v := ?_) (by simp only [List.getElem?_toArray, List.getElem?_cons_zero, List.getElem?_cons_succ]; rfl) (by kernel_rfl) (by kernel_rfl) (by kernel_rfl) (fun _ _ _ h => h) (Or.inl ⟨by rfl, ?_⟩) (by assumption) ?_
      rotate_left
      · (intro w hSw; (try dsimp only at hSw); go_simp <;> with_reducible rfl)
      try simp only [Act.put, List.setIfInBounds_toArray, List.set_cons_zero, List.set_cons_succ]
      refine wpAnyH_take (i := 15) (v := ?_) (by simp only [List.getElem?_toArray, List.getElem?_cons_zero, List.getElem?_cons_succ]; rfl) (by kernel_rfl) (by kernel_rfl) (by kernel_rfl) (fun _ _ _ h => h) (Or.inl ⟨by rfl, ?_⟩) (by assumption) ?_
      rotate_left
      · (intro w hSw; (try dsimp only at hSw); go_simp <;> with_reducible rfl)
      try simp only [Act.put, List.setIfInBounds_toArray, List.set_cons_zero, List.set_cons_succ]
      refine wpAnyH_take (i := 16) (v := ?_) (by simp only [List.getElem?_toArray, List.getElem?_cons_zero, List.getElem?_cons_succ]; rfl) (by kernel_rfl) (by kernel_rfl) (by kernel_rfl) (fun _ _ _ h => h) (Or.inl ⟨by rfl, ?_⟩) (by assumption) ?_
      rotate_left
      · (intro w hSw; (try dsimp only at hSw); go_simp <;> with_reducible rfl)
      try simp only [Act.put, List.setIfInBounds_toArray, List.set_cons_zero, List.set_cons_succ]
      refine wpAnyH_take (i := 17) (v := ?_) (by simp only [List.getElem?_toArray, List.getElem?_cons_zero, List.getElem?_cons_succ]; rfl) (by kernel_rfl) (by kernel_rfl) (by kernel_rfl) (fun _ _ _ h => h) (Or.inl ⟨by rfl, ?_⟩) (by assumption) ?_
      rotate_left
      · (intro w hSw; (try dsimp only at hSw); go_simp <;> with_reducible rfl)
      try simp only [Act.put, List.setIfInBounds_toArray, List.set_cons_zero, List.set_cons_succ]
      refine wpAnyH_take (i := 18) (v := ?_) (by simp only [List.getElem?_toArray, List.getElem?_cons_zero, List.getElem?_cons_succ]; rfl) (by kernel_rfl) (by kernel_rfl) (by kernel_rfl) (fun _ _ _ h => h) (Or.inl ⟨by rfl, ?_⟩) (by assumption) ?_
      rotate_left
      · (intro w hSw; (try dsimp only at hSw); go_simp <;> with_reducible rfl)
      try simp only [Act.put, List.setIfInBounds_toArray, List.set_cons_zero, List.set_cons_succ]
      refine wpAnyH_take (i := 19) (v := ?_) (by simp only [List.getElem?_toArray, List.getElem?_cons_zero, List.getElem?_cons_succ]; rfl) (by kernel_rfl) (by kernel_rfl) (by kernel_rfl) (fun _ _ _ h => h) (Or.inl ⟨by rfl, ?_⟩) (by assumption) ?_
      rotate_left
      · (intro w hSw; (try dsimp only at hSw); go_simp <;> with_reducible rfl)
      try simp only [Act.put, List.setIfInBounds_toArray, List.set_cons_zero, List.set_cons_succ]
      refine wpAnyH_take (i := 20) (v := ?_) (by simp only [List.getElem?_toArray, List.getElem?_cons_zero, List.getElem?_cons_succ]; rfl) (by kernel_rfl) (by kernel_rfl) (by kernel_rfl) (fun _ _ _ h => h) (Or.inl ⟨by rfl, ?_⟩) (by assumption) ?_
      rotate_left
      · (intro w hSw; (try dsimp only at hSw); go_simp <;> with_reducible rfl)
      try simp only [Act.put, List.setIfInBounds_toArray, List.set_cons_zero, List.set_cons_succ]
      refine wpAnyH_ready (rs := [21]) (by kernel_rfl) (by simp) ?_
      refine AllReadyH.cons (by simp only [List.getElem?_toArray, List.getElem?_cons_zero, List.getElem?_cons_succ]; rfl) (fun K hK => ?_) AllReadyH.nil
      go_simp
      go_at_call 19
      refine (H19.out _ (pqS_hb (by assumption))).mono ?_
      rintro e w7 ⟨u7, rfl, hI7, hb7⟩
      refine hK.out _ _ ?_ (fun hHeld => ?_)
      · exact pqS_below (by assumption) hb7
      clear hK K
      try simp only [Act.put, List.setIfInBounds_toArray, List.set_cons_zero, List.set_cons_succ]
      refine wpAnyH_ready (rs := [22]) (by kernel_rfl) (by simp) ?_
      refine AllReadyH.cons (by simp only [List.getElem?_toArray, List.getElem?_cons_zero, List.getElem?_cons_succ]; rfl) (fun K hK => ?_) AllReadyH.nil
      go_simp
      go_at_call 18
      refine (s18 zs _ _ _ (HA.out _ (pqS_hb (by assumption))) ⟨_, hI7⟩ hzl').mono ?_
      rintro e w8 ⟨rfl, hb8⟩
      refine hK.out _ _ ?_ (fun hHeld => ?_)
      · exact pqS_below (by assumption) hb8
      clear hK K
      try simp only [Act.put, List.setIfInBounds_toArray, List.set_cons_zero, List.set_cons_succ]
      refine wpAnyH_take (i := 23) (v := ?_) (by simp only [List.getElem?_toArray, List.getElem?_cons_zero, List.getElem?_cons_succ]; rfl) (by kernel_rfl) (by kernel_rfl) (by kernel_rfl) (fun _ _ _ h => h) (Or.inl ⟨by rfl, ?_⟩) (by assumption) ?_
      rotate_left
      · (intro w hSw; (try dsimp only at hSw); go_simp <;> with_reducible rfl)
      try simp only [Act.put, List.setIfInBounds_toArray, List.set_cons_zero, List.set_cons_succ]
      refine wpAnyH_take (i := 24) (v := ?_) (by simp only [List.getElem?_toArray, List.getElem?_cons_zero, List.getElem?_cons_succ]; rfl) (by kernel_rfl) (by kernel_rfl) (by kernel_rfl) (fun _ _ _ h => h) (Or.inl ⟨by rfl, ?_⟩) (by assumption) ?_
      rotate_left
      · (intro w hSw; (try dsimp only at hSw); go_simp <;> with_reducible rfl)
      try simp only [Act.put, List.setIfInBounds_toArray, List.set_cons_zero, List.set_cons_succ]
      refine wpAnyH_take (i := 25) (v := ?_) (by simp only [List.getElem?_toArray, List.getElem?_cons_zero, List.getElem?_cons_succ]; rfl) (by kernel_rfl) (by kernel_rfl) (by kernel_rfl) (fun _ _ _ h => h) (Or.inl ⟨by rfl, ?_⟩) (by assumption) ?_
      rotate_left
      · (intro w hSw; (try dsimp only at hSw); go_simp <;> with_reducible rfl)
      try simp only [Act.put, List.setIfInBounds_toArray, List.set_cons_zero, List.set_cons_succ]
      refine wpAnyH_take (i := 26) (v := ?_) (by simp only [List.getElem?_toArray, List.getElem?_cons_zero, List.getElem?_cons_succ]; rfl) (by kernel_rfl) (by kernel_rfl) (by kernel_rfl) (fun _ _ _ h => h) (Or.inl ⟨by rfl, ?_⟩) (by assumption) ?_
      rotate_left
      · (intro w hSw; (try dsimp only at hSw); go_simp <;> with_reducible rfl)
      try simp only [Act.put, List.setIfInBounds_toArray, List.set_cons_zero, List.set_cons_succ]
      refine wpAnyH_take (i := 27) (v := ?_) (by simp only [List.getElem?_toArray, List.getElem?_cons_zero, List.getElem?_cons_succ]; rfl) (by kernel_rfl) (by kernel_rfl) (by kernel_rfl) (fun _ _ _ h => h) (Or.inl ⟨by rfl, ?_⟩) (by assumption) ?_
      rotate_left
      · (intro w hSw; (try dsimp only at hSw); go_simp <;> with_reducible rfl)
      try simp only [Act.put, List.setIfInBounds_toArray, List.set_cons_zero, List.set_cons_succ]
      refine wpAnyH_take (i := 28) (v := ?_) (by simp only [List.getElem?_toArray, List.getElem?_cons_zero, List.getElem?_cons_succ]; rfl) (by kernel_rfl) (by kernel_rfl) (by kernel_rfl) (fun _ _ _ h => h) (Or.inl ⟨by rfl, ?_⟩) (by assumption) ?_
      rotate_left
      · (intro w hSw; (try dsimp only at hSw); go_simp <;> with_reducible rfl)
      try simp only [Act.put, List.setIfInBounds_toArray, List.set_cons_zero, List.set_cons_succ]
      refine wpAnyH_take (i := 30) (v := ?_) (by simp only [List.getElem?_toArray, List.getElem?_cons_zero, List.getElem?_cons_succ]; rfl) (by kernel_rfl) (by kernel_rfl) (by kernel_rfl) (fun _ _ _ h => h) (Or.inl ⟨by rfl, ?_⟩) (by assumption) ?_
      rotate_left
      · (intro w hSw; (try dsimp only at hSw); go_simp <;> with_reducible rfl)
      try simp only [Act.put, List.setIfInBounds_toArray, List.set_cons_zero, List.set_cons_succ]
      refine wpAnyH_take (i := 31) (v := ?_) (by simp only [List.getElem?_toArray, List.getElem?_cons_zero, List.getElem?_cons_succ]; rfl) (by kernel_rfl) (by kernel_rfl) (by kernel_rfl) (fun _ _ _ h => h) (Or.inl ⟨by rfl, ?_⟩) (by assumption) ?_
      rotate_left
      · (intro w hSw; (try dsimp only at hSw); go_simp <;> with_reducible rfl)
      try simp only [Act.put, List.setIfInBounds_toArray, List.set_cons_zero, List.set_cons_succ]
      refine wpAnyH_take (i := 32) (v := ?_) (by simp only [List.getElem?_toArray, List.getElem?_cons_zero, List.getElem?_cons_succ]; rfl) (by kernel_rfl) (by kernel_rfl) (by kernel_rfl) (fun _ _ _ h => h) (Or.inl ⟨by rfl, ?_⟩) (by assumption) ?_
      rotate_left
      · (intro w hSw; (try dsimp only at hSw); go_simp <;> with_reducible rfl)
      try simp only [Act.put, List.setIfInBounds_toArray, List.set_cons_zero, List.set_cons_succ]
      refine wpAnyH_ready (rs := [29]) (by kernel_rfl) (by simp) ?_
      refine AllReadyH.cons (by simp only [List.getElem?_toArray, List.getElem?_cons_zero, List.getElem?_cons_succ]; rfl) (fun K hK => ?_) AllReadyH.nil
      go_simp
      go_at_call 20
      refine (H20.out _ (pqS_hb (by assumption))).mono ?_
      rintro e w9 ⟨u9, rfl, hP9, hb9⟩
      refine hK.out _ _ ?_ (fun hHeld => ?_)
      · exact pqS_below (by assumption) hb9
      clear hK K
      try simp only [Act.put, List.setIfInBounds_toArray, List.set_cons_zero, List.set_cons_succ]
      refine wpAnyH_ready (rs := [33]) (by kernel_rfl) (by simp) ?_
      refine AllReadyH.cons (by simp only [List.getElem?_toArray, List.getElem?_cons_zero, List.getElem?_cons_succ]; rfl) (fun K hK => ?_) AllReadyH.nil
      go_simp
      go_at_call 21
      refine (H21.out _ (pqS_hb (by assumption))).mono ?_
      rintro e w10 ⟨u10, rfl, hP10, hb10⟩
      refine hK.out _ _ ?_ (fun hHeld => ?_)
      · exact pqS_below (by assumption) hb10
      clear hK K
      try simp only [Act.put, List.setIfInBounds_toArray, List.set_cons_zero, List.set_cons_succ]
      refine wpAnyH_ready (rs := [34]) (by kernel_rfl) (by simp) ?_
      refine AllReadyH.cons (by simp only [List.getElem?_toArray, List.getElem?_cons_zero, List.getElem?_cons_succ]; rfl) (fun K hK => ?_) AllReadyH.nil
      go_simp
      go_at_call 15
      refine (s15 QQ _ _ _ (hP9.below hb10) hP10 HQl.out).mono ?_
      rintro e w11 ⟨rfl, hb11⟩
      refine hK.out _ _ ?_ (fun hHeld => ?_)
      · exact pqS_below (by assumption) hb11
      clear hK K
      try simp only [Act.put, List.setIfInBounds_toArray, List.set_cons_zero, List.set_cons_succ]
      refine wpAnyH_take (i := 35) (v := ?_) (by simp only [List.getElem?_toArray, List.getElem?_cons_zero, List.getElem?_cons_succ]; rfl) (by kernel_rfl) (by kernel_rfl) (by kernel_rfl) (fun _ _ _ h => h) (Or.inl ⟨by rfl, ?_⟩) (by assumption) ?_
      rotate_left
      · (intro w hSw; (try dsimp only at hSw); go_simp <;> with_reducible rfl)
      try simp only [Act.put, List.setIfInBounds_toArray, List.set_cons_zero, List.set_cons_succ]
      refine wpAnyH_take (i := 36) (v := ?_) (by simp only [List.getElem?_toArray, List.getElem?_cons_zero, List.getElem?_cons_succ]; rfl) (by kernel_rfl) (by kernel_rfl) (by kernel_rfl) (fun _ _ _ h => h) (Or.inl ⟨by rfl, ?_⟩) (by assumption) ?_
      rotate_left
      · (intro w hSw; (try dsimp only at hSw); go_simp <;> with_reducible rfl)
      try simp only [Act.put, List.setIfInBounds_toArray, List.set_cons_zero, List.set_cons_succ]
      refine wpAnyH_take (i := 37) (v := ?_) (by simp only [List.getElem?_toArray, List.getElem?_cons_zero, List.getElem?_cons_succ]; rfl) (by kernel_rfl) (by kernel_rfl) (by kernel_rfl) (fun _ _ _ h => h) (Or.inl ⟨by rfl, ?_⟩) (by assumption) ?_
      rotate_left
      · (intro w hSw; (try dsimp only at hSw); go_simp <;> with_reducible rfl)
      try simp only [Act.put, List.setIfInBounds_toArray, List.set_cons_zero, List.set_cons_succ]
      refine wpAnyH_take (i := 38) (v := ?_) (by simp only [List.getElem?_toArray, List.getElem?_cons_zero, List.getElem?_cons_succ]; rfl) (by kernel_rfl) (by kernel_rfl) (by kernel_rfl) (fun _ _ _ h => h) (Or.inl ⟨by rfl, ?_⟩) (by assumption) ?_
      rotate_left
      · (intro w hSw; (try dsimp only at hSw); go_simp <;> with_reducible rfl)
      try simp only [Act.put, List.setIfInBounds_toArray, List.set_cons_zero, List.set_cons_succ]
      refine wpAnyH_take (i := 39) (v := ?_) (by simp only [List.getElem?_toArray, List.getElem?_cons_zero, List.getElem?_cons_succ]; rfl) (by kernel_rfl) (by kernel_rfl) (by kernel_rfl) (fun _ _ _ h => h) (Or.inl ⟨by rfl, ?_⟩) (by assumption) ?_
      rotate_left
      · (intro w hSw; (try dsimp only at hSw); go_simp <;> with_reducible rfl)
      try simp only [Act.put, List.setIfInBounds_toArray, List.set_cons_zero, List.set_cons_succ]
      refine wpAnyH_take (i := 41) (v := ?_) (by simp only [List.getElem?_toArray, List.getElem?_cons_zero, List.getElem?_cons_succ]; rfl) (by kernel_rfl) (by kernel_rfl) (by kernel_rfl) (fun _ _ _ h => h) (Or.inl ⟨by rfl, ?_⟩) (by assumption) ?_
      rotate_left
      · (intro w hSw; (try dsimp only at hSw); go_simp <;> with_reducible rfl)
      try simp only [Act.put, List.setIfInBounds_toArray, List.set_cons_zero, List.set_cons_succ]
      refine wpAnyH_take (i := 42) (v := ?_) (by simp only [List.getElem?_toArray, List.getElem?_cons_zero, List.getElem?_cons_succ]; rfl) (by kernel_rfl) (by kernel_rfl) (by kernel_rfl) (fun _ _ _ h => h) (Or.inl ⟨by rfl, ?_⟩) (by assumption) ?_
      rotate_left
      · (intro w hSw; (try dsimp only at hSw); go_simp <;> with_reducible rfl)
      try simp only [Act.put, List.setIfInBounds_toArray, List.set_cons_zero, List.set_cons_succ]
      refine wpAnyH_take (i := 43) (v := ?_) (by simp only [List.getElem?_toArray, List.getElem?_cons_zero, List.getElem?_cons_succ]; rfl) (by kernel_rfl) (by kernel_rfl) (by kernel_rfl) (fun _ _ _ h => h) (Or.inl ⟨by rfl, ?_⟩) (by assumption) ?_
      rotate_left
      · (intro w hSw; (try dsimp only at hSw); go_simp <;> with_reducible rfl)
      try simp only [Act.put, List.setIfInBounds_toArray, List.set_cons_zero, List.set_cons_succ]
      refine wpAnyH_ready (rs := [40]) (by kernel_rfl) (by simp) ?_
      refine AllReadyH.cons (by simp only [List.getElem?_toArray, List.getElem?_cons_zero, List.getElem?_cons_succ]; rfl) (fun K hK => ?_) AllReadyH.nil
      go_simp
      go_at_call 22
      refine (H22.out _ (pqS_hb (by assumption))).mono ?_
      rintro e w12 ⟨u12, acc12, rfl, hP12, hs12, hl12, hb12⟩
      refine hK.out _ _ ?_ (fun hHeld => ?_)
      · exact pqS_below (by assumption) hb12
      clear hK K
      try simp only [Act.put, List.setIfInBounds_toArray, List.set_cons_zero, List.set_cons_succ]
      refine wpAnyH_ready (rs := [44]) (by kernel_rfl) (by simp) ?_
      refine AllReadyH.cons (by simp only [List.getElem?_toArray, List.getElem?_cons_zero, List.getElem?_cons_succ]; rfl) (fun K hK => ?_) AllReadyH.nil
      go_simp
      go_at_call 23
      refine (H23.out _ (pqS_hb (by assumption))).mono ?_
      rintro e w13 ⟨u13, acc13, rfl, hP13, hs13, hl13, hb13⟩
      refine hK.out _ _ ?_ (fun hHeld => ?_)
      · exact pqS_below (by assumption) hb13
      clear hK K
      try simp only [Act.put, List.setIfInBounds_toArray, List.set_cons_zero, List.set_cons_succ]
      obtain rfl := reached_uniq hs12 hs13
      refine wpAnyH_ready (rs := [45]) (by kernel_rfl) (by simp) ?_
      refine AllReadyH.cons (by simp only [List.getElem?_toArray, List.getElem?_cons_zero, List.getElem?_cons_succ]; rfl) (fun K hK => ?_) AllReadyH.nil
      go_simp
      go_at_call 15
      refine (s15 _ _ _ _ (hP12.below hb13) hP13 hl13).mono ?_
      rintro e w14 ⟨rfl, hb14⟩
      refine hK.out _ _ ?_ (fun hHeld => ?_)
      · exact pqS_below (by assumption) hb14
      clear hK K
      try simp only [Act.put, List.setIfInBounds_toArray, List.set_cons_zero, List.set_cons_succ]
      refine wpAnyH_take (i := 46) (v := ?_) (by simp only [List.getElem?_toArray, List.getElem?_cons_zero, List.getElem?_cons_succ]; rfl) (by kernel_rfl) (by kernel_rfl) (by kernel_rfl) (fun _ _ _ h => h) (Or.inl ⟨by rfl, ?_⟩) (by assumption) ?_
      rotate_left
      · (intro w hSw; (try dsimp only at hSw); go_simp <;> with_reducible rfl)
      try simp only [Act.put, List.setIfInBounds_toArray, List.set_cons_zero, List.set_cons_succ]
      refine wpAnyH_take (i := 47) (v := ?_) (by simp only [List.getElem?_toArray, List.getElem?_cons_zero, List.getElem?_cons_succ]; rfl) (by kernel_rfl) (by kernel_rfl) (by kernel_rfl) (fun _ _ _ h => h) (Or.inl ⟨by rfl, ?_⟩) (by assumption) ?_
      rotate_left
      · (intro w hSw; (try dsimp only at hSw); go_simp <;> with_reducible rfl)
      try simp only [Act.put, List.setIfInBounds_toArray, List.set_cons_zero, List.set_cons_succ]
      refine wpAnyH_done (by kernel_rfl) ?_ _
      refine NoPanic.normal ?_
      have HB14 : Hid (Below w1.heap.size w1 w14) := HB12.out.trans ((pqS_hb (w2 := w2) (by assumption)).mono HB12.out.size)
      have HA14 : Hid (w14.ownsInts w1.heap.size 3 .i64 (.slice aa zs.length ca) zs) := HAo.out _ (pqS_hb (w2 := w2) (by assumption))
      clear hP4 hP5 hI7 hP9 hP10 hP12 hP13 hs12 hs13 hl12 hl13 hb4 hb5 hb6 hb7 hb8 hb9 hb10 hb11 hb12 hb13 hb14 hHeld
      have hbk0 : BookAt (w14.alloc (.cells #[nilV, nilV, nilV, nilV, nilV] 56)) w14.heap.size nilV := heap_alloc_new _ _
      have hB14 : w1.heap.size ≤ w14.heap.size := HB14.out.size
      have H24 := a24 w1.heap.size w14.heap.size 0 nilV [] aa zs.length ca (w14.alloc (.cells #[nilV, nilV, nilV, nilV, nilV] 56)) hbk0 hB14 (World.ownsRow_nil _ _ _ _) (by omega)
      have HAl : Hid ((w14.alloc (.cells #[nilV, nilV, nilV, nilV, nilV] 56)).ownsInts w1.heap.size 3 .i64 (.slice aa zs.length ca) zs) := HA14.out.alloc _
      have HBl : Hid (Below w1.heap.size w1 (w14.alloc (.cells #[nilV, nilV, nilV, nilV, nilV] 56))) := HB14.out.alloc hB14 _
      have HBk0 : Hid (BookAt (w14.alloc (.cells #[nilV, nilV, nilV, nilV, nilV] 56)) w14.heap.size nilV) := hbk0
      clear hbk0
      go_wp2_with fail
      refine H24.mono ?_
      rintro e w15 ⟨rfl, iv1, hbk1, hrow1, hsz1, hfr1, hb15⟩
      have HB15 : Hid (Below w1.heap.size w1 w15) := HBl.out.trans hb15
      have HI15 : Hid (w15.ownsInts w1.heap.size 3 .i64 (.slice aa zs.length ca) zs) := ints_eq HAl.out fun g hg => hfr1 g (HAl.out.1.lt g hg).2 (book_apart HBk0.out HAl.out g hg) (by simp [Value.ownBlock])
      have HR15 : Hid (BookAt w15 w14.heap.size iv1 ∧ w15.ownsRow w1.heap.size 36 1 iv1 1 [.slice aa zs.length ca]) := ⟨hbk1, hrow1⟩
      obtain ⟨x0, x1, x2, x3⟩ := HBxB.out w15 HB15.out
      have H14b := H14.out w15 (HB1.out.trans (HB15.out.mono HB1.out.size))
      clear H24 hbk1 hrow1 hsz1 hfr1 hb15
      go_wp2_with fail
      refine H14b.mono ?_
      rintro e w16 ⟨vb, rfl, hI16, hb16⟩
      obtain ⟨ab, cb, hbf⟩ := ints_form hI16
      subst hbf
      have HB16 : Hid (Below w1.heap.size w1 w16) := HB15.out.trans (hb16.mono HB15.out.size)
      have HI16 : Hid (w16.ownsInts w1.heap.size 3 .i64 (.slice ab zs.length cb) zs) := ints_base hI16 HB15.out.size
      have HA16 : Hid (w16.ownsInts w1.heap.size 3 .i64 (.slice aa zs.length ca) zs) := ⟨owns_below HI15.out.1 hb16, HI15.out.2⟩
      have HAp : Hid (∀ g, (Value.slice aa zs.length ca).ownBlock = some g → (Value.slice ab zs.length cb).ownBlock ≠ some g) := fun g h1 h2 => by
        have e1 := (HI15.out.1.lt g h1).2
        have e2 := (hI16.1.lt g h2).1
        omega
      have HBk16 : Hid (BookAt w16 w14.heap.size iv1) := (hb16.block _ (Array.getElem?_eq_some_iff.1 HR15.out.1).1).trans HR15.out.1
      have H24b := a24 w1.heap.size w14.heap.size 1 iv1 [.slice aa zs.length ca] ab zs.length cb w16 HBk16.out hB14 (owns_below HR15.out.2 hb16) (by omega)
      have HRw : Hid (w16.ownsRow w1.heap.size 36 1 iv1 1 [.slice aa zs.length ca]) := owns_below HR15.out.2 hb16
      clear H14b hI16 hb16 x0 x1 x2 x3
      go_wp2_with fail
      refine H24b.mono ?_
      rintro e w17 ⟨rfl, iv2, hbk2, hrow2, hsz2, hfr2, hb17⟩
      have HB17 : Hid (Below w1.heap.size w1 w17) := HB16.out.trans hb17
      have hst : ∀ (r : Value), w16.ownsInts w1.heap.size 3 .i64 r zs → w17.ownsInts w1.heap.size 3 .i64 r zs := fun r hr => ints_eq hr fun g hg => hfr2 g (hr.1.lt g hg).2 (book_apart HBk16.out hr g hg) (types_apart hr.1 HRw.out (by decide) g hg)
      have HP1 : Hid (P1 w17 w1.heap.size w14.heap.size iv2 [.slice aa zs.length ca, .slice ab zs.length cb] [zs.length, zs.length] 0 0) := P1.two hbk2 hB14 hrow2 (hst _ HA16.out) (hst _ HI16.out) HAp.out
      have H25 := a25 w1.heap.size w14.heap.size iv2 _ _ w17 HP1.out (by simp) (by simp; omega)
      clear H24b hbk2 hrow2 hsz2 hfr2 hb17 hst
      go_wp2_with fail
      refine H25.mono ?_
      rintro e w18 ⟨rfl, hb18⟩
      have HB18 : Hid (Below w1.heap.size w1 w18) := HB17.out.trans hb18
      have HBw18 : Hid (Below w.heap.size w w18) := HB1.out.trans (HB18.out.mono HB1.out.size)
      have H26 := k26h ls _ _ _ w18 (HH1.out.below HB18.out) (HR.out.below HBw18.out) (by omega) HLB.out
      obtain ⟨x0, x1, x2, x3⟩ := HBxB.out w18 HB18.out
      clear H25 hb18
      go_wp2_with fail
      refine H26.mono ?_
      rintro e w19 ⟨rfl, hb19⟩
      have H16n := k16n w19
      clear H26 x0 x1 x2 x3
      go_wp2_with fail
      refine H16n.mono ?_
      rintro e w20 ⟨rfl, hb20⟩
      have HB20 : Hid (Below w.heap.size w w20) := (HBw18.out.trans (hb19.mono HBw18.out.size)).trans (hb20.mono (Nat.le_trans HBw18.out.size hb19.size))
      clear H16n hb19 hb20
      go_wp2_with fail
      go_ret
      exact ⟨rfl, HB20.out⟩
    · go_simp
      refine hK.out _ _ ?_ (fun hHeld => ?_)
      · exact pqS_alloc (by assumption) _
      clear hK K
      try simp only [Act.put, List.setIfInBounds_toArray, List.set_cons_zero, List.set_cons_succ]
      refine wpAnyH_ready (rs := [6]) (by kernel_rfl) (by simp) ?_
      refine AllReadyH.cons (by simp only [List.getElem?_toArray, List.getElem?_cons_zero, List.getElem?_cons_succ]; rfl) (fun K hK => ?_) AllReadyH.nil
      go_simp
      go_at_call 16
      refine (H16.out _ _ (pqS_hb (by assumption)) (two_allocs w3 _ _).1).mono ?_
      rintro e w4 ⟨u4, rfl, hP4, hb4⟩
      refine hK.out _ _ ?_ (fun hHeld => ?_)
      · exact pqS_below (by assumption) hb4
      clear hK K
      try simp only [Act.put, List.setIfInBounds_toArray, List.set_cons_zero, List.set_cons_succ]
      refine wpAnyH_ready (rs := [10]) (by kernel_rfl) (by simp) ?_
      refine AllReadyH.cons (by simp only [List.getElem?_toArray, List.getElem?_cons_zero, List.getElem?_cons_succ]; rfl) (fun K hK => ?_) AllReadyH.nil
      go_simp
      go_at_call 17
      refine (H17.out _ _ (pqS_hb (by assumption)) ((hb4.block _ (by simp)).trans (two_allocs w3 _ _).2)).mono ?_
      rintro e w5 ⟨u5, rfl, hP5, hb5⟩
      refine hK.out _ _ ?_ (fun hHeld => ?_)
      · exact pqS_below (by assumption) hb5
      clear hK K
      try simp only [Act.put, List.setIfInBounds_toArray, List.set_cons_zero, List.set_cons_succ]
      have hP4 := hP4.below hb5
      refine wpAnyH_ready (rs := [11]) (by kernel_rfl) (by simp) ?_
      refine AllReadyH.cons (by simp only [List.getElem?_toArray, List.getElem?_cons_zero, List.getElem?_cons_succ]; rfl) (fun K hK => ?_) AllReadyH.nil
      go_simp
      go_at_call 15
      refine (s15 PP _ _ _ hP4 hP5 HPl.out).mono ?_
      rintro e w6 ⟨rfl, hb6⟩
      refine hK.out _ _ ?_ (fun hHeld => ?_)
      · exact pqS_below (by assumption) hb6
      clear hK K
      try simp only [Act.put, List.setIfInBounds_toArray, List.set_cons_zero, List.set_cons_succ]
      refine wpAnyH_take (i := 12) (v := ?_) (by simp only [List.getElem?_toArray, List.getElem?_cons_zero, List.getElem?_cons_succ]; rfl) (by kernel_rfl) (by kernel_rfl) (by kernel_rfl) (fun _ _ _ h => h) (Or.inl ⟨by rfl, ?_⟩) (by assumption) ?_
      rotate_left
      · (intro w hSw; (try dsimp only at hSw); go_simp <;> with_reducible rfl)
      try simp only [Act.put, List.setIfInBounds_toArray, List.set_cons_zero, List.set_cons_succ]
      refine wpAnyH_take (i := 13) (v := ?_) (by simp only [List.getElem?_toArray, List.getElem?_cons_zero, List.getElem?_cons_succ]; rfl) (by kernel_rfl) (by kernel_rfl) (by kernel_rfl) (fun _ _ _ h => h) (Or.inl ⟨by rfl, ?_⟩) (by assumption) ?_
      rotate_left
      · (intro w hSw; (try dsimp only at hSw); go_simp <;> with_reducible rfl)
      try simp only [Act.put, List.setIfInBounds_toArray, List.set_cons_zero, List.set_cons_succ]
      refine wpAnyH_take (i := 14) (v := ?_) (by simp only [List.getElem?_toArray, List.getElem?_cons_zero, List.getElem?_cons_succ]; rfl) (by kernel_rfl) (by kernel_rfl) (by kernel_rfl) (fun _ _ _ h => h) (Or.inl ⟨by rfl, ?_⟩) (by assumption) ?_
      rotate_left
      · (intro w hSw; (try dsimp only at hSw); go_simp <;> with_reducible rfl)
      try simp only [Act.put, List.setIfInBounds_toArray, List.set_cons_zero, List.set_cons_succ]
      refine wpAnyH_take (i := 15) (v := ?_) (by simp only [List.getElem?_toArray, List.getElem?_cons_zero, List.getElem?_cons_succ]; rfl) (by kernel_rfl) (by kernel_rfl) (by kernel_rfl) (fun _ _ _ h => h) (Or.inl ⟨by rfl, ?_⟩) (by assumption) ?_
      rotate_left
      · (intro w hSw; (try dsimp only at hSw); go_simp <;> with_reducible rfl)
      try simp only [Act.put, List.setIfInBounds_toArray, List.set_cons_zero, List.set_cons_succ]
      refine wpAnyH_take (i := 16) (v := ?_) (by simp only [List.getElem?_toArray, List.getElem?_cons_zero, List.getElem?_cons_succ]; rfl) (by kernel_rfl) (by kernel_rfl) (by kernel_rfl) (fun _ _ _ h => h) (Or.inl ⟨by rfl, ?_⟩) (by assumption) ?_
      rotate_left
      · (intro w hSw; (try dsimp only at hSw); go_simp <;> with_reducible rfl)
      try simp only [Act.put, List.setIfInBounds_toArray, List.set_cons_zero, List.set_cons_succ]
      refine wpAnyH_take (i := 17) (v := ?_) (by simp only [List.getElem?_toArray, List.getElem?_cons_zero, List.getElem?_cons_succ]; rfl) (by kernel_rfl) (by kernel_rfl) (by kernel_rfl) (fun _ _ _ h => h) (Or.inl ⟨by rfl, ?_⟩) (by assumption) ?_
      rotate_left
      · (intro w hSw; (try dsimp only at hSw); go_simp <;> with_reducible rfl)
      try simp only [Act.put, List.setIfInBounds_toArray, List.set_cons_zero, List.set_cons_succ]
      refine wpAnyH_take (i := 18) (v := ?_) (by simp only [List.getElem?_toArray, List.getElem?_cons_zero, List.getElem?_cons_succ]; rfl) (by kernel_rfl) (by kernel_rfl) (by kernel_rfl) (fun _ _ _ h => h) (Or.inl ⟨by rfl, ?_⟩) (by assumption) ?_
      rotate_left
      · (intro w hSw; (try dsimp only at hSw); go_simp <;> with_reducible rfl)
      try simp only [Act.put, List.setIfInBounds_toArray, List.set_cons_zero, List.set_cons_succ]
      refine wpAnyH_take (i := 19) (v := ?_) (by simp only [List.getElem?_toArray, List.getElem?_cons_zero, List.getElem?_cons_succ]; rfl) (by kernel_rfl) (by kernel_rfl) (by kernel_rfl) (fun _ _ _ h => h) (Or.inl ⟨by rfl, ?_⟩) (by assumption) ?_
      rotate_left
      · (intro w hSw; (try dsimp only at hSw); go_simp <;> with_reducible rfl)
      try simp only [Act.put, List.setIfInBounds_toArray, List.set_cons_zero, List.set_cons_succ]
      refine wpAnyH_take (i := 20) (v := ?_) (by simp only [List.getElem?_toArray, List.getElem?_cons_zero, List.getElem?_cons_succ]; rfl) (by kernel_rfl) (by kernel_rfl) (by kernel_rfl) (fun _ _ _ h => h) (Or.inl ⟨by rfl, ?_⟩) (by assumption) ?_
      rotate_left
      · (intro w hSw; (try dsimp only at hSw); go_simp <;> with_reducible rfl)
      try simp only [Act.put, List.setIfInBounds_toArray, List.set_cons_zero, List.set_cons_succ]
      refine wpAnyH_ready (rs := [21]) (by kernel_rfl) (by simp) ?_
      refine AllReadyH.cons (by simp only [List.getElem?_toArray, List.getElem?_cons_zero, List.getElem?_cons_succ]; rfl) (fun K hK => ?_) AllReadyH.nil
      go_simp
      go_at_call 19
      refine (H19.out _ (pqS_hb (by assumption))).mono ?_
      rintro e w7 ⟨u7, rfl, hI7, hb7⟩
      refine hK.out _ _ ?_ (fun hHeld => ?_)
      · exact pqS_below (by assumption) hb7
      clear hK K
      try simp only [Act.put, List.setIfInBounds_toArray, List.set_cons_zero, List.set_cons_succ]
      refine wpAnyH_ready (rs := [22]) (by kernel_rfl) (by simp) ?_
      refine AllReadyH.cons (by simp only [List.getElem?_toArray, List.getElem?_cons_zero, List.getElem?_cons_succ]; rfl) (fun K hK => ?_) AllReadyH.nil
      go_simp
      go_at_call 18
      refine (s18 zs _ _ _ (HA.out _ (pqS_hb (by assumption))) ⟨_, hI7⟩ hzl').mono ?_
      rintro e w8 ⟨rfl, hb8⟩
      refine hK.out _ _ ?_ (fun hHeld => ?_)
      · exact pqS_below (by assumption) hb8
      clear hK K
      try simp only [Act.put, List.setIfInBounds_toArray, List.set_cons_zero, List.set_cons_succ]
      refine wpAnyH_take (i := 23) (v := ?_) (by simp only [List.getElem?_toArray, List.getElem?_cons_zero, List.getElem?_cons_succ]; rfl) (by kernel_rfl) (by kernel_rfl) (by kernel_rfl) (fun _ _ _ h => h) (Or.inl ⟨by rfl, ?_⟩) (by assumption) ?_
      rotate_left
      · (intro w hSw; (try dsimp only at hSw); go_simp <;> with_reducible rfl)
      try simp only [Act.put, List.setIfInBounds_toArray, List.set_cons_zero, List.set_cons_succ]
      refine wpAnyH_take (i := 24) (v := ?_) (by simp only [List.getElem?_toArray, List.getElem?_cons_zero, List.getElem?_cons_succ]; rfl) (by kernel_rfl) (by kernel_rfl) (by kernel_rfl) (fun _ _ _ h => h) (Or.inl ⟨by rfl, ?_⟩) (by assumption) ?_
      rotate_left
      · (intro w hSw; (try dsimp only at hSw); go_simp <;> with_reducible rfl)
      try simp only [Act.put, List.setIfInBounds_toArray, List.set_cons_zero, List.set_cons_succ]
      refine wpAnyH_take (i := 25) (v := ?_) (by simp only [List.getElem?_toArray, List.getElem?_cons_zero, List.getElem?_cons_succ]; rfl) (by kernel_rfl) (by kernel_rfl) (by kernel_rfl) (fun _ _ _ h => h) (Or.inl ⟨by rfl, ?_⟩) (by assumption) ?_
      rotate_left
      · (intro w hSw; (try dsimp only at hSw); go_simp <;> with_reducible rfl)
      try simp only [Act.put, List.setIfInBounds_toArray, List.set_cons_zero, List.set_cons_succ]
      refine wpAnyH_take (i := 26) (v := ?_) (by simp only [List.getElem?_toArray, List.getElem?_cons_zero, List.getElem?_cons_succ]; rfl) (by kernel_rfl) (by kernel_rfl) (by kernel_rfl) (fun _ _ _ h => h) (Or.inl ⟨by rfl, ?_⟩) (by assumption) ?_
      rotate_left
      · (intro w hSw; (try dsimp only at hSw); go_simp <;> with_reducible rfl)
      try simp only [Act.put, List.setIfInBounds_toArray, List.set_cons_zero, List.set_cons_succ]
      refine wpAnyH_take (i := 27) (v := ?_) (by simp only [List.getElem?_toArray, List.getElem?_cons_zero, List.getElem?_cons_succ]; rfl) (by kernel_rfl) (by kernel_rfl) (by kernel_rfl) (fun _ _ _ h => h) (Or.inl ⟨by rfl, ?_⟩) (by assumption) ?_
      rotate_left
      · (intro w hSw; (try dsimp only at hSw); go_simp <;> with_reducible rfl)
      try simp only [Act.put, List.setIfInBounds_toArray, List.set_cons_zero, List.set_cons_succ]
      refine wpAnyH_take (i := 28) (v := ?_) (by simp only [List.getElem?_toArray, List.getElem?_cons_zero, List.getElem?_cons_succ]; rfl) (by kernel_rfl) (by kernel_rfl) (by kernel_rfl) (fun _ _ _ h => h) (Or.inl ⟨by rfl, ?_⟩) (by assumption) ?_
      rotate_left
      · (intro w hSw; (try dsimp only at hSw); go_simp <;> with_reducible rfl)
      try simp only [Act.put, List.setIfInBounds_toArray, List.set_cons_zero, List.set_cons_succ]
      refine wpAnyH_take (i := 30) (v := ?_) (by simp only [List.getElem?_toArray, List.getElem?_cons_zero, List.getElem?_cons_succ]; rfl) (by kernel_rfl) (by kernel_rfl) (by kernel_rfl) (fun _ _ _ h => h) (Or.inl ⟨by rfl, ?_⟩) (by assumption) ?_
      rotate_left
      · (intro w hSw; (try dsimp only at hSw); go_simp <;> with_reducible rfl)
      try simp only [Act.put, List.setIfInBounds_toArray, List.set_cons_zero, List.set_cons_succ]
      refine wpAnyH_take (i := 31) (v := ?_) (by simp only [List.getElem?_toArray, List.getElem?_cons_zero, List.getElem?_cons_succ]; rfl) (by kernel_rfl) (by kernel_rfl) (by kernel_rfl) (fun _ _ _ h => h) (Or.inl ⟨by rfl, ?_⟩) (by assumption) ?_
      rotate_left
      · (intro w hSw; (try dsimp only at hSw); go_simp <;> with_reducible rfl)
      try simp only [Act.put, List.setIfInBounds_toArray, List.set_cons_zero, List.set_cons_succ]
      refine wpAnyH_take (i := 32) (v := ?_) (by simp only [List.getElem?_toArray, List.getElem?_cons_zero, List.getElem?_cons_succ]; rfl) (by kernel_rfl) (by kernel_rfl) (by kernel_rfl) (fun _ _ _ h => h) (Or.inl ⟨by rfl, ?_⟩) (by assumption) ?_
      rotate_left
      · (intro w hSw; (try dsimp only at hSw); go_simp <;> with_reducible rfl)
      try simp only [Act.put, List.setIfInBounds_toArray, List.set_cons_zero, List.set_cons_succ]
      refine wpAnyH_ready (rs := [29]) (by kernel_rfl) (by simp) ?_
      refine AllReadyH.cons (by simp only [List.getElem?_toArray, List.getElem?_cons_zero, List.getElem?_cons_succ]; rfl) (fun K hK => ?_) AllReadyH.nil
      go_simp
      go_at_call 20
      refine (H20.out _ (pqS_hb (by assumption))).mono ?_
      rintro e w9 ⟨u9, rfl, hP9, hb9⟩
      refine hK.out _ _ ?_ (fun hHeld => ?_)
      · exact pqS_below (by assumption) hb9
      clear hK K
      try simp only [Act.put, List.setIfInBounds_toArray, List.set_cons_zero, List.set_cons_succ]
      refine wpAnyH_ready (rs := [33]) (by kernel_rfl) (by simp) ?_
      refine AllReadyH.cons (by simp only [List.getElem?_toArray, List.getElem?_cons_zero, List.getElem?_cons_succ]; rfl) (fun K hK => ?_) AllReadyH.nil
      go_simp
      go_at_call 21
      refine (H21.out _ (pqS_hb (by assumption))).mono ?_
      rintro e w10 ⟨u10, rfl, hP10, hb10⟩
      refine hK.out _ _ ?_ (fun hHeld => ?_)
      · exact pqS_below (by assumption) hb10
      clear hK K
      try simp only [Act.put, List.setIfInBounds_toArray, List.set_cons_zero, List.set_cons_succ]
      refine wpAnyH_ready (rs := [34]) (by kernel_rfl) (by simp) ?_
      refine AllReadyH.cons (by simp only [List.getElem?_toArray, List.getElem?_cons_zero, List.getElem?_cons_succ]; rfl) (fun K hK => ?_) AllReadyH.nil
      go_simp
      go_at_call 15
      refine (s15 QQ _ _ _ (hP9.below hb10) hP10 HQl.out).mono ?_
      rintro e w11 ⟨rfl, hb11⟩
      refine hK.out _ _ ?_ (fun hHeld => ?_)
      · exact pqS_below (by assumption) hb11
      clear hK K
      try simp only [Act.put, List.setIfInBounds_toArray, List.set_cons_zero, List.set_cons_succ]
      refine wpAnyH_take (i := 35) (v := ?_) (by simp only [List.getElem?_toArray, List.getElem?_cons_zero, List.getElem?_cons_succ]; rfl) (by kernel_rfl) (by kernel_rfl) (by kernel_rfl) (fun _ _ _ h => h) (Or.inl ⟨by rfl, ?_⟩) (by assumption) ?_
      rotate_left
      · (intro w hSw; (try dsimp only at hSw); go_simp <;> with_reducible rfl)
      try simp only [Act.put, List.setIfInBounds_toArray, List.set_cons_zero, List.set_cons_succ]
      refine wpAnyH_take (i := 36) (v := ?_) (by simp only [List.getElem?_toArray, List.getElem?_cons_zero, List.getElem?_cons_succ]; rfl) (by kernel_rfl) (by kernel_rfl) (by kernel_rfl) (fun _ _ _ h => h) (Or.inl ⟨by rfl, ?_⟩) (by assumption) ?_
      rotate_left
      · (intro w hSw; (try dsimp only at hSw); go_simp <;> with_reducible rfl)
      try simp only [Act.put, List.setIfInBounds_toArray, List.set_cons_zero, List.set_cons_succ]
      refine wpAnyH_take (i := 37) (v := ?_) (by simp only [List.getElem?_toArray, List.getElem?_cons_zero, List.getElem?_cons_succ]; rfl) (by kernel_rfl) (by kernel_rfl) (by kernel_rfl) (fun _ _ _ h => h) (Or.inl ⟨by rfl, ?_⟩) (by assumption) ?_
      rotate_left
      · (intro w hSw; (try dsimp only at hSw); go_simp <;> with_reducible rfl)
      try simp only [Act.put, List.setIfInBounds_toArray, List.set_cons_zero, List.set_cons_succ]
      refine wpAnyH_take (i := 38) (v := ?_) (by simp only [List.getElem?_toArray, List.getElem?_cons_zero, List.getElem?_cons_succ]; rfl) (by kernel_rfl) (by kernel_rfl) (by kernel_rfl) (fun _ _ _ h => h) (Or.inl ⟨by rfl, ?_⟩) (by assumption) ?_
      rotate_left
      · (intro w hSw; (try dsimp only at hSw); go_simp <;> with_reducible rfl)
      try simp only [Act.put, List.setIfInBounds_toArray, List.set_cons_zero, List.set_cons_succ]
      refine wpAnyH_take (i := 39) (v := ?_) (by simp only [List.getElem?_toArray, List.getElem?_cons_zero, List.getElem?_cons_succ]; rfl) (by kernel_rfl) (by kernel_rfl) (by kernel_rfl) (fun _ _ _ h => h) (Or.inl ⟨by rfl, ?_⟩) (by assumption) ?_
      rotate_left
      · (intro w hSw; (try dsimp only at hSw); go_simp <;> with_reducible rfl)
      try simp only [Act.put, List.setIfInBounds_toArray, List.set_cons_zero, List.set_cons_succ]
      refine wpAnyH_take (i := 41) (v := ?_) (by simp only [List.getElem?_toArray, List.getElem?_cons_zero, List.getElem?_cons_succ]; rfl) (by kernel_rfl) (by kernel_rfl) (by kernel_rfl) (fun _ _ _ h => h) (Or.inl ⟨by rfl, ?_⟩) (by assumption) ?_
      rotate_left
      · (intro w hSw; (try dsimp only at hSw); go_simp <;> with_reducible rfl)
      try simp only [Act.put, List.setIfInBounds_toArray, List.set_cons_zero, List.set_cons_succ]
      refine wpAnyH_take (i := 42) (v := ?_) (by simp only [List.getElem?_toArray, List.getElem?_cons_zero, List.getElem?_cons_succ]; rfl) (by kernel_rfl) (by kernel_rfl) (by kernel_rfl) (fun _ _ _ h => h) (Or.inl ⟨by rfl, ?_⟩) (by assumption) ?_
      rotate_left
      · (intro w hSw; (try dsimp only at hSw); go_simp <;> with_reducible rfl)
      try simp only [Act.put, List.setIfInBounds_toArray, List.set_cons_zero, List.set_cons_succ]
      refine wpAnyH_take (i := 43) (v := ?_) (by simp only [List.getElem?_toArray, List.getElem?_cons_zero, List.getElem?_cons_succ]; rfl) (by kernel_rfl) (by kernel_rfl) (by kernel_rfl) (fun _ _ _ h => h) (Or.inl ⟨by rfl, ?_⟩) (by assumption) ?_
      rotate_left
      · (intro w hSw; (try dsimp only at hSw); go_simp <;> with_reducible rfl)
      try simp only [Act.put, List.setIfInBounds_toArray, List.set_cons_zero, List.set_cons_succ]
      refine wpAnyH_ready (rs := [40]) (by kernel_rfl) (by simp) ?_
      refine AllReadyH.cons (by simp only [List.getElem?_toArray, List.getElem?_cons_zero, List.getElem?_cons_succ]; rfl) (fun K hK => ?_) AllReadyH.nil
      go_simp
      go_at_call 22
      refine (H22.out _ (pqS_hb (by assumption))).mono ?_
      rintro e w12 ⟨u12, acc12, rfl, hP12, hs12, hl12, hb12⟩
      refine hK.out _ _ ?_ (fun hHeld => ?_)
      · exact pqS_below (by assumption) hb12
      clear hK K
      try simp only [Act.put, List.setIfInBounds_toArray, List.set_cons_zero, List.set_cons_succ]
      refine wpAnyH_ready (rs := [44]) (by kernel_rfl) (by simp) ?_
      refine AllReadyH.cons (by simp only [List.getElem?_toArray, List.getElem?_cons_zero, List.getElem?_cons_succ]; rfl) (fun K hK => ?_) AllReadyH.nil
      go_simp
      go_at_call 23
      refine (H23.out _ (pqS_hb (by assumption))).mono ?_
      rintro e w13 ⟨u13, acc13, rfl, hP13, hs13, hl13, hb13⟩
      refine hK.out _ _ ?_ (fun hHeld => ?_)
      · exact pqS_below (by assumption) hb13
      clear hK K
      try simp only [Act.put, List.setIfInBounds_toArray, List.set_cons_zero, List.set_cons_succ]
      obtain rfl := reached_uniq hs12 hs13
      refine wpAnyH_ready (rs := [45]) (by kernel_rfl) (by simp) ?_
      refine AllReadyH.cons (by simp only [List.getElem?_toArray, List.getElem?_cons_zero, List.getElem?_cons_succ]; rfl) (fun K hK => ?_) AllReadyH.nil
      go_simp
      go_at_call 15
      refine (s15 _ _ _ _ (hP12.below hb13) hP13 hl13).mono ?_
      rintro e w14 ⟨rfl, hb14⟩
      refine hK.out _ _ ?_ (fun hHeld => ?_)
      · exact pqS_below (by assumption) hb14
      clear hK K
      try simp only [Act.put, List.setIfInBounds_toArray, List.set_cons_zero, List.set_cons_succ]
      refine wpAnyH_take (i := 46) (v := ?_) (by simp only [List.getElem?_toArray, List.getElem?_cons_zero, List.getElem?_cons_succ]; rfl) (by kernel_rfl) (by kernel_rfl) (by kernel_rfl) (fun _ _ _ h => h) (Or.inl ⟨by rfl, ?_⟩) (by assumption) ?_
      rotate_left
      · (intro w hSw; (try dsimp only at hSw); go_simp <;> with_reducible rfl)
      try simp only [Act.put, List.setIfInBounds_toArray, List.set_cons_zero, List.set_cons_succ]
      refine wpAnyH_take (i := 47) (v := ?_) (by simp only [List.getElem?_toArray, List.getElem?_cons_zero, List.getElem?_cons_succ]; rfl) (by kernel_rfl) (by kernel_rfl) (by kernel_rfl) (fun _ _ _ h => h) (Or.inl ⟨by rfl, ?_⟩) (by assumption) ?_
      rotate_left
      · (intro w hSw; (try dsimp only at hSw); go_simp <;> with_reducible rfl)
      try simp only [Act.put, List.setIfInBounds_toArray, List.set_cons_zero, List.set_cons_succ]
      refine wpAnyH_done (by kernel_rfl) ?_ _
      refine NoPanic.normal ?_
      have HB14 : Hid (Below w1.heap.size w1 w14) := HB12.out.trans ((pqS_hb (w2 := w2) (by assumption)).mono HB12.out.size)
      have HA14 : Hid (w14.ownsInts w1.heap.size 3 .i64 (.slice aa zs.length ca) zs) := HAo.out _ (pqS_hb (w2 := w2) (by assumption))
      clear hP4 hP5 hI7 hP9 hP10 hP12 hP13 hs12 hs13 hl12 hl13 hb4 hb5 hb6 hb7 hb8 hb9 hb10 hb11 hb12 hb13 hb14 hHeld
      have hbk0 : BookAt (w14.alloc (.cells #[nilV, nilV, nilV, nilV, nilV] 56)) w14.heap.size nilV := heap_alloc_new _ _
      have hB14 : w1.heap.size ≤ w14.heap.size := HB14.out.size
      have H24 := a24 w1.heap.size w14.heap.size 0 nilV [] aa zs.length ca (w14.alloc (.cells #[nilV, nilV, nilV, nilV, nilV] 56)) hbk0 hB14 (World.ownsRow_nil _ _ _ _) (by omega)
      have HAl : Hid ((w14.alloc (.cells #[nilV, nilV, nilV, nilV, nilV] 56)).ownsInts w1.heap.size 3 .i64 (.slice aa zs.length ca) zs) := HA14.out.alloc _
      have HBl : Hid (Below w1.heap.size w1 (w14.alloc (.cells #[nilV, nilV, nilV, nilV, nilV] 56))) := HB14.out.alloc hB14 _
      have HBk0 : Hid (BookAt (w14.alloc (.cells #[nilV, nilV, nilV, nilV, nilV] 56)) w14.heap.size nilV) := hbk0
      clear hbk0
      go_wp2_with fail
      refine H24.mono ?_
      rintro e w15 ⟨rfl, iv1, hbk1, hrow1, hsz1, hfr1, hb15⟩
      have HB15 : Hid (Below w1.heap.size w1 w15) := HBl.out.trans hb15
      have HI15 : Hid (w15.ownsInts w1.heap.size 3 .i64 (.slice aa zs.length ca) zs) := ints_eq HAl.out fun g hg => hfr1 g (HAl.out.1.lt g hg).2 (book_apart HBk0.out HAl.out g hg) (by simp [Value.ownBlock])
      have HR15 : Hid (BookAt w15 w14.heap.size iv1 ∧ w15.ownsRow w1.heap.size 36 1 iv1 1 [.slice aa zs.length ca]) := ⟨hbk1, hrow1⟩
      obtain ⟨x0, x1, x2, x3⟩ := HBxB.out w15 HB15.out
      have H14b := H14.out w15 (HB1.out.trans (HB15.out.mono HB1.out.size))
      clear H24 hbk1 hrow1 hsz1 hfr1 hb15
      go_wp2_with fail
      refine H14b.mono ?_
      rintro e w16 ⟨vb, rfl, hI16, hb16⟩
      obtain ⟨ab, cb, hbf⟩ := ints_form hI16
      subst hbf
      have HB16 : Hid (Below w1.heap.size w1 w16) := HB15.out.trans (hb16.mono HB15.out.size)
      have HI16 : Hid (w16.ownsInts w1.heap.size 3 .i64 (.slice ab zs.length cb) zs) := ints_base hI16 HB15.out.size
      have HA16 : Hid (w16.ownsInts w1.heap.size 3 .i64 (.slice aa zs.length ca) zs) := ⟨owns_below HI15.out.1 hb16, HI15.out.2⟩
      have HAp : Hid (∀ g, (Value.slice aa zs.length ca).ownBlock = some g → (Value.slice ab zs.length cb).ownBlock ≠ some g) := fun g h1 h2 => by
        have e1 := (HI15.out.1.lt g h1).2
        have e2 := (hI16.1.lt g h2).1
        omega
      have HBk16 : Hid (BookAt w16 w14.heap.size iv1) := (hb16.block _ (Array.getElem?_eq_some_iff.1 HR15.out.1).1).trans HR15.out.1
      have H24b := a24 w1.heap.size w14.heap.size 1 iv1 [.slice aa zs.length ca] ab zs.length cb w16 HBk16.out hB14 (owns_below HR15.out.2 hb16) (by omega)
      have HRw : Hid (w16.ownsRow w1.heap.size 36 1 iv1 1 [.slice aa zs.length ca]) := owns_below HR15.out.2 hb16
      clear H14b hI16 hb16 x0 x1 x2 x3
      go_wp2_with fail
      refine H24b.mono ?_
      rintro e w17 ⟨rfl, iv2, hbk2, hrow2, hsz2, hfr2, hb17⟩
      have HB17 : Hid (Below w1.heap.size w1 w17) := HB16.out.trans hb17
      have hst : ∀ (r : Value), w16.ownsInts w1.heap.size 3 .i64 r zs → w17.ownsInts w1.heap.size 3 .i64 r zs := fun r hr => ints_eq hr fun g hg => hfr2 g (hr.1.lt g hg).2 (book_apart HBk16.out hr g hg) (types_apart hr.1 HRw.out (by decide) g hg)
      have HP1 : Hid (P1 w17 w1.heap.size w14.heap.size iv2 [.slice aa zs.length ca, .slice ab zs.length cb] [zs.length, zs.length] 0 0) := P1.two hbk2 hB14 hrow2 (hst _ HA16.out) (hst _ HI16.out) HAp.out
      have H25 := a25 w1.heap.size w14.heap.size iv2 _ _ w17 HP1.out (by simp) (by simp; omega)
      clear H24b hbk2 hrow2 hsz2 hfr2 hb17 hst
      go_wp2_with fail
      refine H25.mono ?_
      rintro e w18 ⟨rfl, hb18⟩
      have HB18 : Hid (Below w1.heap.size w1 w18) := HB17.out.trans hb18
      have HBw18 : Hid (Below w.heap.size w w18) := HB1.out.trans (HB18.out.mono HB1.out.size)
      have H26 := k26h ls _ _ _ w18 (HH1.out.below HB18.out) (HR.out.below HBw18.out) (by omega) HLB.out
      obtain ⟨x0, x1, x2, x3⟩ := HBxB.out w18 HB18.out
      clear H25 hb18
      go_wp2_with fail
      refine H26.mono ?_
      rintro e w19 ⟨rfl, hb19⟩
      have H16n := k16n w19
      clear H26 x0 x1 x2 x3
      go_wp2_with fail
      refine H16n.mono ?_
      rintro e w20 ⟨rfl, hb20⟩
      have HB20 : Hid (Below w.heap.size w w20) := (HBw18.out.trans (hb19.mono HBw18.out.size)).trans (hb20.mono (Nat.le_trans HBw18.out.size hb19.size))
      clear H16n hb19 hb20
      go_wp2_with fail
      go_ret
      exact ⟨rfl, HB20.out⟩
  · go_simp
    refine hK.out _ _ ?_ (fun hHeld => ?_)
    · exact pqS_alloc (by assumption) _
    clear hK K
    try simp only [Act.put, List.setIfInBounds_toArray, List.set_cons_zero, List.set_cons_succ]
    refine wpAnyH_ready (rs := [5]) (by kernel_rfl) (by simp) ?_
    refine AllReadyH.cons (by simp only [List.getElem?_toArray, List.getElem?_cons_zero, List.getElem?_cons_succ]; rfl) (fun K hK => ?_) AllReadyH.nil
    go_simp
    refine hK.out _ _ ?_ (fun hHeld => ?_)
    · exact pqS_alloc (by assumption) _
    clear hK K
    try simp only [Act.put, List.setIfInBounds_toArray, List.set_cons_zero, List.set_cons_succ]
    refine wpAnyH_ready (rs := [6]) (by kernel_rfl) (by simp) ?_
    refine AllReadyH.cons (by simp only [List.getElem?_toArray, List.getElem?_cons_zero, List.getElem?_cons_succ]; rfl) (fun K hK => ?_) AllReadyH.nil
    go_simp
    go_at_call 16
    refine (H16.out _ _ (pqS_hb (by assumption)) (two_allocs w3 _ _).2).mono ?_
    rintro e w4 ⟨u4, rfl, hP4, hb4⟩
    refine hK.out _ _ ?_ (fun hHeld => ?_)
    · exact pqS_below (by assumption) hb4
    clear hK K
    try simp only [Act.put, List.setIfInBounds_toArray, List.set_cons_zero, List.set_cons_succ]
    refine wpAnyH_ready (rs := [10]) (by kernel_rfl) (by simp) ?_
    refine AllReadyH.cons (by simp only [List.getElem?_toArray, List.getElem?_cons_zero, List.getElem?_cons_succ]; rfl) (fun K hK => ?_) AllReadyH.nil
    go_simp
    go_at_call 17
    refine (H17.out _ _ (pqS_hb (by assumption)) ((hb4.block _ (by simp; omega)).trans (two_allocs w3 _ _).1)).mono ?_
    rintro e w5 ⟨u5, rfl, hP5, hb5⟩
    refine hK.out _ _ ?_ (fun hHeld => ?_)
    · exact pqS_below (by assumption) hb5
    clear hK K
    try simp only [Act.put, List.setIfInBounds_toArray, List.set_cons_zero, List.set_cons_succ]
    have hP4 := hP4.below hb5
    refine wpAnyH_ready (rs := [11]) (by kernel_rfl) (by simp) ?_
    refine AllReadyH.cons (by simp only [List.getElem?_toArray, List.getElem?_cons_zero, List.getElem?_cons_succ]; rfl) (fun K hK => ?_) AllReadyH.nil
    go_simp
    go_at_call 15
    refine (s15 PP _ _ _ hP4 hP5 HPl.out).mono ?_
    rintro e w6 ⟨rfl, hb6⟩
    refine hK.out _ _ ?_ (fun hHeld => ?_)
    · exact pqS_below (by assumption) hb6
    clear hK K
    try simp only [Act.put, List.setIfInBounds_toArray, List.set_cons_zero, List.set_cons_succ]
    refine wpAnyH_take (i := 12) (v := ?_) (by simp only [List.getElem?_toArray, List.getElem?_cons_zero, List.getElem?_cons_succ]; rfl) (by kernel_rfl) (by kernel_rfl) (by kernel_rfl) (fun _ _ _ h => h) (Or.inl ⟨by rfl, ?_⟩) (by assumption) ?_
    rotate_left
    · (intro w hSw; (try dsimp only at hSw); go_simp <;> with_reducible rfl)
    try simp only [Act.put, List.setIfInBounds_toArray, List.set_cons_zero, List.set_cons_succ]
    refine wpAnyH_take (i := 13) (v := ?_) (by simp only [List.getElem?_toArray, List.getElem?_cons_zero, List.getElem?_cons_succ]; rfl) (by kernel_rfl) (by kernel_rfl) (by kernel_rfl) (fun _ _ _ h => h) (Or.inl ⟨by rfl, ?_⟩) (by assumption) ?_
    rotate_left
    · (intro w hSw; (try dsimp only at hSw); go_simp <;> with_reducible rfl)
    try simp only [Act.put, List.setIfInBounds_toArray, List.set_cons_zero, List.set_cons_succ]
    refine wpAnyH_take (i := 14) (v := ?_) (by simp only [List.getElem?_toArray, List.getElem?_cons_zero, List.getElem?_cons_succ]; rfl) (by kernel_rfl) (by kernel_rfl) (by kernel_rfl) (fun _ _ _ h => h) (Or.inl ⟨by rfl, ?_⟩) (by assumption) ?_
    rotate_left
    · (intro w hSw; (try dsimp only at hSw); go_simp <;> with_reducible rfl)
    try simp only [Act.put, List.setIfInBounds_toArray, List.set_cons_zero, List.set_cons_succ]
    refine wpAnyH_take (i := 15) (v := ?_) (by simp only [List.getElem?_toArray, List.getElem?_cons_zero, List.getElem?_cons_succ]; rfl) (by kernel_rfl) (by kernel_rfl) (by kernel_rfl) (fun _ _ _ h => h) (Or.inl ⟨by rfl, ?_⟩) (by assumption) ?_
    rotate_left
    · (intro w hSw; (try dsimp only at hSw); go_simp <;> with_reducible rfl)
    try simp only [Act.put, List.setIfInBounds_toArray, List.set_cons_zero, List.set_cons_succ]
    refine wpAnyH_take (i := 16) (v := ?_) (by simp only [List.getElem?_toArray, List.getElem?_cons_zero, List.getElem?_cons_succ]; rfl) (by kernel_rfl) (by kernel_rfl) (by kernel_rfl) (fun _ _ _ h => h) (Or.inl ⟨by rfl, ?_⟩) (by assumption) ?_
    rotate_left
    · (intro w hSw; (try dsimp only at hSw); go_simp <;> with_reducible rfl)
    try simp only [Act.put, List.setIfInBounds_toArray, List.set_cons_zero, List.set_cons_succ]
    refine wpAnyH_take (i := 17) (v := ?_) (by simp only [List.getElem?_toArray, List.getElem?_cons_zero, List.getElem?_cons_succ]; rfl) (by kernel_rfl) (by kernel_rfl) (by kernel_rfl) (fun _ _ _ h => h) (Or.inl ⟨by rfl, ?_⟩) (by assumption) ?_
    rotate_left
    · (intro w hSw; (try dsimp only at hSw); go_simp <;> with_reducible rfl)
    try simp only [Act.put, List.setIfInBounds_toArray, List.set_cons_zero, List.set_cons_succ]
    refine wpAnyH_take (i := 18) (v := ?_) (by simp only [List.getElem?_toArray, List.getElem?_cons_zero, List.getElem?_cons_succ]; rfl) (by kernel_rfl) (by kernel_rfl) (by kernel_rfl) (fun _ _ _ h => h) (Or.inl ⟨by rfl, ?_⟩) (by assumption) ?_
    rotate_left
    · (intro w hSw; (try dsimp only at hSw); go_simp <;> with_reducible rfl)
    try simp only [Act.put, List.setIfInBounds_toArray, List.set_cons_zero, List.set_cons_succ]
    refine wpAnyH_take (i := 19) (v := ?_) (by simp only [List.getElem?_toArray, List.getElem?_cons_zero, List.getElem?_cons_succ]; rfl) (by kernel_rfl) (by kernel_rfl) (by kernel_rfl) (fun _ _ _ h => h) (Or.inl ⟨by rfl, ?_⟩) (by assumption) ?_
    rotate_left
    · (intro w hSw; (try dsimp only at hSw); go_simp <;> with_reducible rfl)
    try simp only [Act.put, List.setIfInBounds_toArray, List.set_cons_zero, List.set_cons_succ]
    refine wpAnyH_take (i := 20) (v := ?_) (by simp only [List.getElem?_toArray, List.getElem?_cons_zero, List.getElem?_cons_succ]; rfl) (by kernel_rfl) (by kernel_rfl) (by kernel_rfl) (fun _ _ _ h => h) (Or.inl ⟨by rfl, ?_⟩) (by assumption) ?_
    rotate_left
    · (intro w hSw; (try dsimp only at hSw); go_simp <;> with_reducible rfl)
    try simp only [Act.put, List.setIfInBounds_toArray, List.set_cons_zero, List.set_cons_succ]
    refine wpAnyH_ready (rs := [21]) (by kernel_rfl) (by simp) ?_
    refine AllReadyH.cons (by simp only [List.getElem?_toArray, List.getElem?_cons_zero, List.getElem?_cons_succ]; rfl) (fun K hK => ?_) AllReadyH.nil
    go_simp
    go_at_call 19
    refine (H19.out _ (pqS_hb (by assumption))).mono ?_
    rintro e w7 ⟨u7, rfl, hI7, hb7⟩
    refine hK.out _ _ ?_ (fun hHeld => ?_)
    · exact pqS_below (by assumption) hb7
    clear hK K
    try simp only [Act.put, List.setIfInBounds_toArray, List.set_cons_zero, List.set_cons_succ]
    refine wpAnyH_ready (rs := [22]) (by kernel_rfl) (by simp) ?_
    refine AllReadyH.cons (by simp only [List.getElem?_toArray, List.getElem?_cons_zero, List.getElem?_cons_succ]; rfl) (fun K hK => ?_) AllReadyH.nil
    go_simp
    go_at_call 18
    refine (s18 zs _ _ _ (HA.out _ (pqS_hb (by assumption))) ⟨_, hI7⟩ hzl').mono ?_
    rintro e w8 ⟨rfl, hb8⟩
    refine hK.out _ _ ?_ (fun hHeld => ?_)
    · exact pqS_below (by assumption) hb8
    clear hK K
    try simp only [Act.put, List.setIfInBounds_toArray, List.set_cons_zero, List.set_cons_succ]
    refine wpAnyH_take (i := 23) (v := ?_) (by simp only [List.getElem?_toArray, List.getElem?_cons_zero, List.getElem?_cons_succ]; rfl) (by kernel_rfl) (by kernel_rfl) (by kernel_rfl) (fun _ _ _ h => h) (Or.inl ⟨by rfl, ?_⟩) (by assumption) ?_
    rotate_left
    · (intro w hSw; (try dsimp only at hSw); go_simp <;> with_reducible rfl)
    try simp only [Act.put, List.setIfInBounds_toArray, List.set_cons_zero, List.set_cons_succ]
    refine wpAnyH_take (i := 24) (v := ?_) (by simp only [List.getElem?_toArray, List.getElem?_cons_zero, List.getElem?_cons_succ]; rfl) (by kernel_rfl) (by kernel_rfl) (by kernel_rfl) (fun _ _ _ h => h) (Or.inl ⟨by rfl, ?_⟩) (by assumption) ?_
    rotate_left
    · (intro w hSw; (try dsimp only at hSw); go_simp <;> with_reducible rfl)
    try simp only [Act.put, List.setIfInBounds_toArray, List.set_cons_zero, List.set_cons_succ]
    refine wpAnyH_take (i := 25) (v := ?_) (by simp only [List.getElem?_toArray, List.getElem?_cons_zero, List.getElem?_cons_succ]; rfl) (by kernel_rfl) (by kernel_rfl) (by kernel_rfl) (fun _ _ _ h => h) (Or.inl ⟨by rfl, ?_⟩) (by assumption) ?_
    rotate_left
    · (intro w hSw; (try dsimp only at hSw); go_simp <;> with_reducible rfl)
    try simp only [Act.put, List.setIfInBounds_toArray, List.set_cons_zero, List.set_cons_succ]
    refine wpAnyH_take (i := 26) (v := ?_) (by simp only [List.getElem?_toArray, List.getElem?_cons_zero, List.getElem?_cons_succ]; rfl) (by kernel_rfl) (by kernel_rfl) (by kernel_rfl) (fun _ _ _ h => h) (Or.inl ⟨by rfl, ?_⟩) (by assumption) ?_
    rotate_left
    · (intro w hSw; (try dsimp only at hSw); go_simp <;> with_reducible rfl)
    try simp only [Act.put, List.setIfInBounds_toArray, List.set_cons_zero, List.set_cons_succ]
    refine wpAnyH_take (i := 27) (v := ?_) (by simp only [List.getElem?_toArray, List.getElem?_cons_zero, List.getElem?_cons_succ]; rfl) (by kernel_rfl) (by kernel_rfl) (by kernel_rfl) (fun _ _ _ h => h) (Or.inl ⟨by rfl, ?_⟩) (by assumption) ?_
    rotate_left
    · (intro w hSw; (try dsimp only at hSw); go_simp <;> with_reducible rfl)
    try simp only [Act.put, List.setIfInBounds_toArray, List.set_cons_zero, List.set_cons_succ]
    refine wpAnyH_take (i := 28) (v := ?_) (by simp only [List.getElem?_toArray, List.getElem?_cons_zero, List.getElem?_cons_succ]; rfl) (by kernel_rfl) (by kernel_rfl) (by kernel_rfl) (fun _ _ _ h => h) (Or.inl ⟨by rfl, ?_⟩) (by assumption) ?_
    rotate_left
    · (intro w hSw; (try dsimp only at hSw); go_simp <;> with_reducible rfl)
    try simp only [Act.put, List.setIfInBounds_toArray, List.set_cons_zero, List.set_cons_succ]
    refine wpAnyH_take (i := 30) (v := ?_) (by simp only [List.getElem?_toArray, List.getElem?_cons_zero, List.getElem?_cons_succ]; rfl) (by kernel_rfl) (by kernel_rfl) (by kernel_rfl) (fun _ _ _ h => h) (Or.inl ⟨by rfl, ?_⟩) (by assumption) ?_
    rotate_left
    · (intro w hSw; (try dsimp only at hSw); go_simp <;> with_reducible rfl)
    try simp only [Act.put, List.setIfInBounds_toArray, List.set_cons_zero, List.set_cons_succ]
    refine wpAnyH_take (i := 31) (v := ?_) (by simp only [List.getElem?_toArray, List.getElem?_cons_zero, List.getElem?_cons_succ]; rfl) (by kernel_rfl) (by kernel_rfl) (by kernel_rfl) (fun _ _ _ h => h) (Or.inl ⟨by rfl, ?_⟩) (by assumption) ?_
    rotate_left
    · (intro w hSw; (try dsimp only at hSw); go_simp <;> with_reducible rfl)
    try simp only [Act.put, List.setIfInBounds_toArray, List.set_cons_zero, List.set_cons_succ]
    refine wpAnyH_take (i := 32) (v := ?_) (by simp only [List.getElem?_toArray, List.getElem?_cons_zero, List.getElem?_cons_succ]; rfl) (by kernel_rfl) (by kernel_rfl) (by kernel_rfl) (fun _ _ _ h => h) (Or.inl ⟨by rfl, ?_⟩) (by assumption) ?_
    rotate_left
    · (intro w hSw; (try dsimp only at hSw); go_simp <;> with_reducible rfl)
    try simp only [Act.put, List.setIfInBounds_toArray, List.set_cons_zero, List.set_cons_succ]
    refine wpAnyH_ready (rs := [29]) (by kernel_rfl) (by simp) ?_
    refine AllReadyH.cons (by simp only [List.getElem?_toArray, List.getElem?_cons_zero, List.getElem?_cons_succ]; rfl) (fun K hK => ?_) AllReadyH.nil
    go_simp
    go_at_call 20
    refine (H20.out _ (pqS_hb (by assumption))).mono ?_
    rintro e w9 ⟨u9, rfl, hP9, hb9⟩
    refine hK.out _ _ ?_ (fun hHeld => ?_)
    · exact pqS_below (by assumption) hb9
    clear hK K
    try simp only [Act.put, List.setIfInBounds_toArray, List.set_cons_zero, List.set_cons_succ]
    refine wpAnyH_ready (rs := [33]) (by kernel_rfl) (by simp) ?_
    refine AllReadyH.cons (by simp only [List.getElem?_toArray, List.getElem?_cons_zero, List.getElem?_cons_succ]; rfl) (fun K hK => ?_) AllReadyH.nil
    go_simp
    go_at_call 21
    refine (H21.out _ (pqS_hb (by assumption))).mono ?_
    rintro e w10 ⟨u10, rfl, hP10, hb10⟩
    refine hK.out _ _ ?_ (fun hHeld => ?_)
    · exact pqS_below (by assumption) hb10
    clear hK K
    try simp only [Act.put, List.setIfInBounds_toArray, List.set_cons_zero, List.set_cons_succ]
    refine wpAnyH_ready (rs := [34]) (by kernel_rfl) (by simp) ?_
    refine AllReadyH.cons (by simp only [List.getElem?_toArray, List.getElem?_cons_zero, List.getElem?_cons_succ]; rfl) (fun K hK => ?_) AllReadyH.nil
    go_simp
    go_at_call 15
    refine (s15 QQ _ _ _ (hP9.below hb10) hP10 HQl.out).mono ?_
    rintro e w11 ⟨rfl, hb11⟩
    refine hK.out _ _ ?_ (fun hHeld => ?_)
    · exact pqS_below (by assumption) hb11
    clear hK K
    try simp only [Act.put, List.setIfInBounds_toArray, List.set_cons_zero, List.set_cons_succ]
    refine wpAnyH_take (i := 35) (v := ?_) (by simp only [List.getElem?_toArray, List.getElem?_cons_zero, List.getElem?_cons_succ]; rfl) (by kernel_rfl) (by kernel_rfl) (by kernel_rfl) (fun _ _ _ h => h) (Or.inl ⟨by rfl, ?_⟩) (by assumption) ?_
    rotate_left
    · (intro w hSw; (try dsimp only at hSw); go_simp <;> with_reducible rfl)
    try simp only [Act.put, List.setIfInBounds_toArray, List.set_cons_zero, List.set_cons_succ]
    refine wpAnyH_take (i := 36) (v := ?_) (by simp only [List.getElem?_toArray, List.getElem?_cons_zero, List.getElem?_cons_succ]; rfl) (by kernel_rfl) (by kernel_rfl) (by kernel_rfl) (fun _ _ _ h => h) (Or.inl ⟨by rfl, ?_⟩) (by assumption) ?_
    rotate_left
    · (intro w hSw; (try dsimp only at hSw); go_simp <;> with_reducible rfl)
    try simp only [Act.put, List.setIfInBounds_toArray, List.set_cons_zero, List.set_cons_succ]
    refine wpAnyH_take (i := 37) (v := ?_) (by simp only [List.getElem?_toArray, List.getElem?_cons_zero, List.getElem?_cons_succ]; rfl) (by kernel_rfl) (by kernel_rfl) (by kernel_rfl) (fun _ _ _ h => h) (Or.inl ⟨by rfl, ?_⟩) (by assumption) ?_
    rotate_left
    · (intro w hSw; (try dsimp only at hSw); go_simp <;> with_reducible rfl)
    try simp only [Act.put, List.setIfInBounds_toArray, List.set_cons_zero, List.set_cons_succ]
    refine wpAnyH_take (i := 38) (v := ?_) (by simp only [List.getElem?_toArray, List.getElem?_cons_zero, List.getElem?_cons_succ]; rfl) (by kernel_rfl) (by kernel_rfl) (by kernel_rfl) (fun _ _ _ h => h) (Or.inl ⟨by rfl, ?_⟩) (by assumption) ?_
    rotate_left
    · (intro w hSw; (try dsimp only at hSw); go_simp <;> with_reducible rfl)
    try simp only [Act.put, List.setIfInBounds_toArray, List.set_cons_zero, List.set_cons_succ]
    refine wpAnyH_take (i := 39) (v := ?_) (by simp only [List.getElem?_toArray, List.getElem?_cons_zero, List.getElem?_cons_succ]; rfl) (by kernel_rfl) (by kernel_rfl) (by kernel_rfl) (fun _ _ _ h => h) (Or.inl ⟨by rfl, ?_⟩) (by assumption) ?_
    rotate_left
    · (intro w hSw; (try dsimp only at hSw); go_simp <;> with_reducible rfl)
    try simp only [Act.put, List.setIfInBounds_toArray, List.set_cons_zero, List.set_cons_succ]
    refine wpAnyH_take (i := 41) (v := ?_) (by simp only [List.getElem?_toArray, List.getElem?_cons_zero, List.getElem?_cons_succ]; rfl) (by kernel_rfl) (by kernel_rfl) (by kernel_rfl) (fun _ _ _ h => h) (Or.inl ⟨by rfl, ?_⟩) (by assumption) ?_
    rotate_left
    · (intro w hSw; (try dsimp only at hSw); go_simp <;> with_reducible rfl)
    try simp only [Act.put, List.setIfInBounds_toArray, List.set_cons_zero, List.set_cons_succ]
    refine wpAnyH_take (i := 42) (v := ?_) (by simp only [List.getElem?_toArray, List.getElem?_cons_zero, List.getElem?_cons_succ]; rfl) (by kernel_rfl) (by kernel_rfl) (by kernel_rfl) (fun _ _ _ h => h) (Or.inl ⟨by rfl, ?_⟩) (by assumption) ?_
    rotate_left
    · (intro w hSw; (try dsimp only at hSw); go_simp <;> with_reducible rfl)
    try simp only [Act.put, List.setIfInBounds_toArray, List.set_cons_zero, List.set_cons_succ]
    refine wpAnyH_take (i := 43) (v := ?_) (by simp only [List.getElem?_toArray, List.getElem?_cons_zero, List.getElem?_cons_succ]; rfl) (by kernel_rfl) (by kernel_rfl) (by kernel_rfl) (fun _ _ _ h => h) (Or.inl ⟨by rfl, ?_⟩) (by assumption) ?_
    rotate_left
    · (intro w hSw; (try dsimp only at hSw); go_simp <;> with_reducible rfl)
    try simp only [Act.put, List.setIfInBounds_toArray, List.set_cons_zero, List.set_cons_succ]
    refine wpAnyH_ready (rs := [40]) (by kernel_rfl) (by simp) ?_
    refine AllReadyH.cons (by simp only [List.getElem?_toArray, List.getElem?_cons_zero, List.getElem?_cons_succ]; rfl) (fun K hK => ?_) AllReadyH.nil
    go_simp
    go_at_call 22
    refine (H22.out _ (pqS_hb (by assumption))).mono ?_
    rintro e w12 ⟨u12, acc12, rfl, hP12, hs12, hl12, hb12⟩
    refine hK.out _ _ ?_ (fun hHeld => ?_)
    · exact pqS_below (by assumption) hb12
    clear hK K
    try simp only [Act.put, List.setIfInBounds_toArray, List.set_cons_zero, List.set_cons_succ]
    refine wpAnyH_ready (rs := [44]) (by kernel_rfl) (by simp) ?_
    refine AllReadyH.cons (by simp only [List.getElem?_toArray, List.getElem?_cons_zero, List.getElem?_cons_succ]; rfl) (fun K hK => ?_) AllReadyH.nil
    go_simp
    go_at_call 23
    refine (H23.out _ (pqS_hb (by assumption))).mono ?_
    rintro e w13 ⟨u13, acc13, rfl, hP13, hs13, hl13, hb13⟩
    refine hK.out _ _ ?_ (fun hHeld => ?_)
    · exact pqS_below (by assumption) hb13
    clear hK K
    try simp only [Act.put, List.setIfInBounds_toArray, List.set_cons_zero, List.set_cons_succ]
    obtain rfl := reached_uniq hs12 hs13
    refine wpAnyH_ready (rs := [45]) (by kernel_rfl) (by simp) ?_
    refine AllReadyH.cons (by simp only [List.getElem?_toArray, List.getElem?_cons_zero, List.getElem?_cons_succ]; rfl) (fun K hK => ?_) AllReadyH.nil
    go_simp
    go_at_call 15
    refine (s15 _ _ _ _ (hP12.below hb13) hP13 hl13).mono ?_
    rintro e w14 ⟨rfl, hb14⟩
    refine hK.out _ _ ?_ (fun hHeld => ?_)
    · exact pqS_below (by assumption) hb14
    clear hK K
    try simp only [Act.put, List.setIfInBounds_toArray, List.set_cons_zero, List.set_cons_succ]
    refine wpAnyH_take (i := 46) (v := ?_) (by simp only [List.getElem?_toArray, List.getElem?_cons_zero, List.getElem?_cons_succ]; rfl) (by kernel_rfl) (by kernel_rfl) (by kernel_rfl) (fun _ _ _ h => h) (Or.inl ⟨by rfl, ?_⟩) (by assumption) ?_
    rotate_left
    · (intro w hSw; (try dsimp only at hSw); go_simp <;> with_reducible rfl)
    try simp only [Act.put, List.setIfInBounds_toArray, List.set_cons_zero, List.set_cons_succ]
    refine wpAnyH_take (i := 47) (v := ?_) (by simp only [List.getElem?_toArray, List.getElem?_cons_zero, List.getElem?_cons_succ]; rfl) (by kernel_rfl) (by kernel_rfl) (by kernel_rfl) (fun _ _ _ h => h) (Or.inl ⟨by rfl, ?_⟩) (by assumption) ?_
    rotate_left
    · (intro w hSw; (try dsimp only at hSw); go_simp <;> with_reducible rfl)
    try simp only [Act.put, List.setIfInBounds_toArray, List.set_cons_zero, List.set_cons_succ]
    refine wpAnyH_done (by kernel_rfl) ?_ _
    refine NoPanic.normal ?_
    have HB14 : Hid (Below w1.heap.size w1 w14) := HB12.out.trans ((pqS_hb (w2 := w2) (by assumption)).mono HB12.out.size)
    have HA14 : Hid (w14.ownsInts w1.heap.size 3 .i64 (.slice aa zs.length ca) zs) := HAo.out _ (pqS_hb (w2 := w2) (by assumption))
    clear hP4 hP5 hI7 hP9 hP10 hP12 hP13 hs12 hs13 hl12 hl13 hb4 hb5 hb6 hb7 hb8 hb9 hb10 hb11 hb12 hb13 hb14 hHeld
    have hbk0 : BookAt (w14.alloc (.cells #[nilV, nilV, nilV, nilV, nilV] 56)) w14.heap.size nilV := heap_alloc_new _ _
    have hB14 : w1.heap.size ≤ w14.heap.size := HB14.out.size
    have H24 := a24 w1.heap.size w14.heap.size 0 nilV [] aa zs.length ca (w14.alloc (.cells #[nilV, nilV, nilV, nilV, nilV] 56)) hbk0 hB14 (World.ownsRow_nil _ _ _ _) (by omega)
    have HAl : Hid ((w14.alloc (.cells #[nilV, nilV, nilV, nilV, nilV] 56)).ownsInts w1.heap.size 3 .i64 (.slice aa zs.length ca) zs) := HA14.out.alloc _
    have HBl : Hid (Below w1.heap.size w1 (w14.alloc (.cells #[nilV, nilV, nilV, nilV, nilV] 56))) := HB14.out.alloc hB14 _
    have HBk0 : Hid (BookAt (w14.alloc (.cells #[nilV, nilV, nilV, nilV, nilV] 56)) w14.heap.size nilV) := hbk0
    clear hbk0
    go_wp2_with fail
    refine H24.mono ?_
    rintro e w15 ⟨rfl, iv1, hbk1, hrow1, hsz1, hfr1, hb15⟩
    have HB15 : Hid (Below w1.heap.size w1 w15) := HBl.out.trans hb15
    have HI15 : Hid (w15.ownsInts w1.heap.size 3 .i64 (.slice aa zs.length ca) zs) := ints_eq HAl.out fun g hg => hfr1 g (HAl.out.1.lt g hg).2 (book_apart HBk0.out HAl.out g hg) (by simp [Value.ownBlock])
    have HR15 : Hid (BookAt w15 w14.heap.size iv1 ∧ w15.ownsRow w1.heap.size 36 1 iv1 1 [.slice aa zs.length ca]) := ⟨hbk1, hrow1⟩
    obtain ⟨x0, x1, x2, x3⟩ := HBxB.out w15 HB15.out
    have H14b := H14.out w15 (HB1.out.trans (HB15.out.mono HB1.out.size))
    clear H24 hbk1 hrow1 hsz1 hfr1 hb15
    go_wp2_with fail
    refine H14b.mono ?_
    rintro e w16 ⟨vb, rfl, hI16, hb16⟩
    obtain ⟨ab, cb, hbf⟩ := ints_form hI16
    subst hbf
    have HB16 : Hid (Below w1.heap.size w1 w16) := HB15.out.trans (hb16.mono HB15.out.size)
    have HI16 : Hid (w16.ownsInts w1.heap.size 3 .i64 (.slice ab zs.length cb) zs) := ints_base hI16 HB15.out.size
    have HA16 : Hid (w16.ownsInts w1.heap.size 3 .i64 (.slice aa zs.length ca) zs) := ⟨owns_below HI15.out.1 hb16, HI15.out.2⟩
    have HAp : Hid (∀ g, (Value.slice aa zs.length ca).ownBlock = some g → (Value.slice ab zs.length cb).ownBlock ≠ some g) := fun g h1 h2 => by
      have e1 := (HI15.out.1.lt g h1).2
      have e2 := (hI16.1.lt g h2).1
      omega
    have HBk16 : Hid (BookAt w16 w14.heap.size iv1) := (hb16.block _ (Array.getElem?_eq_some_iff.1 HR15.out.1).1).trans HR15.out.1
    have H24b := a24 w1.heap.size w14.heap.size 1 iv1 [.slice aa zs.length ca] ab zs.length cb w16 HBk16.out hB14 (owns_below HR15.out.2 hb16) (by omega)
    have HRw : Hid (w16.ownsRow w1.heap.size 36 1 iv1 1 [.slice aa zs.length ca]) := owns_below HR15.out.2 hb16
    clear H14b hI16 hb16 x0 x1 x2 x3
    go_wp2_with fail
    refine H24b.mono ?_
    rintro e w17 ⟨rfl, iv2, hbk2, hrow2, hsz2, hfr2, hb17⟩
    have HB17 : Hid (Below w1.heap.size w1 w17) := HB16.out.trans hb17
    have hst : ∀ (r : Value), w16.ownsInts w1.heap.size 3 .i64 r zs → w17.ownsInts w1.heap.size 3 .i64 r zs := fun r hr => ints_eq hr fun g hg => hfr2 g (hr.1.lt g hg).2 (book_apart HBk16.out hr g hg) (types_apart hr.1 HRw.out (by decide) g hg)
    have HP1 : Hid (P1 w17 w1.heap.size w14.heap.size iv2 [.slice aa zs.length ca, .slice ab zs.length cb] [zs.length, zs.length] 0 0) := P1.two hbk2 hB14 hrow2 (hst _ HA16.out) (hst _ HI16.out) HAp.out
    have H25 := a25 w1.heap.size w14.heap.size iv2 _ _ w17 HP1.out (by simp) (by simp; omega)
    clear H24b hbk2 hrow2 hsz2 hfr2 hb17 hst
    go_wp2_with fail
    refine H25.mono ?_
    rintro e w18 ⟨rfl, hb18⟩
    have HB18 : Hid (Below w1.heap.size w1 w18) := HB17.out.trans hb18
    have HBw18 : Hid (Below w.heap.size w w18) := HB1.out.trans (HB18.out.mono HB1.out.size)
    have H26 := k26h ls _ _ _ w18 (HH1.out.below HB18.out) (HR.out.below HBw18.out) (by omega) HLB.out
    obtain ⟨x0, x1, x2, x3⟩ := HBxB.out w18 HB18.out
    clear H25 hb18
    go_wp2_with fail
    refine H26.mono ?_
    rintro e w19 ⟨rfl, hb19⟩
    have H16n := k16n w19
    clear H26 x0 x1 x2 x3
    go_wp2_with fail
    refine H16n.mono ?_
    rintro e w20 ⟨rfl, hb20⟩
    have HB20 : Hid (Below w.heap.size w w20) := (HBw18.out.trans (hb19.mono HBw18.out.size)).trans (hb20.mono (Nat.le_trans HBw18.out.size hb19.size))
    clear H16n hb19 hb20
    go_wp2_with fail
    go_ret
    exact ⟨rfl, HB20.out⟩
end Go.Proofs.YtlfccjlifjppdaaGreatDoor
