/- Contract of Sum. -/
import Derived.Test.YtopapmnoepnpcaaDoorCJ
namespace Go.Proofs.YtopapmnoepnpcaaDoor
open Go.RowKit
attribute [local go_sem ↓] Go.wp_at_zero Go.wp_at_succ
/-- A row of amounts that can be read. -/
structure AmR (w : World) (a : Option Addr) (n : Nat) (l : List Amt) : Prop where
  len : l.length = n
  at' : ∀ i (h : i < l.length), ∃ b o sa sn sc, a = some ⟨b, o, none⟩ ∧ b < w.heap.size ∧ w.cell? ⟨b, o + i * 2, none⟩ = some (.int .i64 l[i].1) ∧ w.cell? ⟨b, o + i * 2 + 1, none⟩ = some (.slice sa sn sc) ∧ Sl w sa sn sc l[i].2
theorem AmR.below {w w' : World} {a : Option Addr} {n : Nat} {l : List Amt} (h : AmR w a n l) (hb : Below w.heap.size w w') : AmR w' a n l :=
  ⟨h.len, fun i hi => by
    obtain ⟨b, o, sa, sn, sc, e, hl, c0, c1, s⟩ := h.at' i hi
    exact ⟨b, o, sa, sn, sc, e, Nat.lt_of_lt_of_le hl hb.size, (hb.cell (p := ⟨b, o + i * 2, none⟩) hl).trans c0, (hb.cell (p := ⟨b, o + i * 2 + 1, none⟩) hl).trans c1, s.below hb⟩⟩
/-- In the midst of a sum. -/
def Su (w0 w : World) (rb : Nat) (l : List Amt) (ba : Option Addr) (bc : Nat) : Prop :=
  Row w w0.heap.size 3 ba (bitsA l).length bc (i64s (bitsA l)) ∧ Below w0.heap.size w0 w ∧ w.heap[rb]? = some (.cells #[.int .i64 0, .slice none 0 0] 24 (0, 0))
theorem Su.below {w0 w w' : World} {rb : Nat} {l : List Amt} {ba : Option Addr} {bc : Nat} (h : Su w0 w rb l ba bc) (hb : Below w.heap.size w w') : Su w0 w' rb l ba bc :=
  ⟨h.1.below hb, h.2.1.trans (hb.mono h.2.1.size), (hb.block rb (Array.getElem?_eq_some_iff.1 h.2.2).1).trans h.2.2⟩
theorem stored24 {wr U : World} {vb : Nat} {x y : Value} (hU : wr.alloc (.cells #[.int .i64 0, .slice none 0 0] 24) = U) (hvb : wr.heap.size = vb) :
    (U.cell? ⟨vb, 0, none⟩ = some (.int .i64 0) ∧ U.cell? ⟨vb, 1, none⟩ = some (.slice none 0 0) ∧ U.frozen? ⟨vb, 0, none⟩ = false ∧ U.frozen? ⟨vb, 1, none⟩ = false) ∧ Below wr.heap.size wr ((U.setCell ⟨vb, 0, none⟩ x).setCell ⟨vb, 1, none⟩ y) ∧ ((U.setCell ⟨vb, 0, none⟩ x).setCell ⟨vb, 1, none⟩ y).heap[vb]? = some (.cells #[x, y] 24 (0, 0)) := by
  have hc : U.heap[vb]? = some (.cells #[.int .i64 0, .slice none 0 0] 24 (0, 0)) := by rw [← hU, ← hvb]; exact heap_alloc_new wr _
  obtain ⟨c0, c1⟩ := box2 hc
  have h1 : Below wr.heap.size wr U := by rw [← hU]; exact (Below.refl _ _).alloc (Nat.le_refl _) _
  have h0 : wr.heap.size ≤ vb := by omega
  have e1 := heap_setCell_same U vb 0 _ 24 x hc
  exact ⟨⟨c0, c1, frozen_of_row U vb 0 _ 24 hc, frozen_of_row U vb 1 _ 24 hc⟩, (h1.setCell (p := ⟨vb, 0, none⟩) h0 _).setCell (p := ⟨vb, 1, none⟩) h0 _, heap_setCell_same _ vb 1 _ 24 y e1⟩
def SumE (e : Ending) (w w' : World) (l : List Amt) : Prop :=
  ∃ code W a n c B, e = .returned (.tuple #[.agg #[.int .i64 W, .slice a n c], .int .i64 code]) ∧ Sl w' a n c B ∧ Below w.heap.size w w' ∧ SumIs l code W B
theorem wsum_bd : ∀ (l : List Amt), allR l → 0 ≤ wsum l ∧ wsum l ≤ l.length * 2147483647
  | [], _ => by simp [wsum]
  | x :: l, h => by
    have h1 := (right_iff.1 (h x List.mem_cons_self)).1
    have h2 := wsum_bd l fun z hz => h z (List.mem_cons_of_mem _ hz)
    simp only [wsum, List.length_cons]
    omega
theorem bits_len : ∀ (l : List Amt), allR l → (bitsA l).length ≤ l.length * 1048576
  | [], _ => by simp [bitsA]
  | x :: l, h => by
    have h1 := rise_len x.2 0 (by omega) (right_iff.1 (h x List.mem_cons_self)).2
    have h2 := bits_len l fun z hz => h z (List.mem_cons_of_mem _ hz)
    simp only [bitsA, List.length_append, List.length_cons]
    omega
theorem allR_take {l : List Amt} (h : allR l) (k : Nat) : allR (l.take k) := fun x hx => h x (List.mem_of_mem_take hx)
set_option maxRecDepth 100000 in
set_option maxHeartbeats 8000000 in
theorem d10 (a : Option Addr) (n c : Nat) (l : List Amt) (w : World) (h : AmR w a n l) (hn : n ≤ 100) (hR : allR l) : Calls Tryd.prog 10 #[.slice a n c] w fun e w' => SumE e w w' l := by
  obtain ⟨i0, hi, hz, hsz, hby⟩ := infoI64
  have HI : Hid (Tryd.prog.info? 3 = some i0 ∧ i0.zero = some (.int .i64 0) ∧ i0.size = 1 ∧ i0.bytes = 8) := ⟨hi, hz, hsz, hby⟩
  have HA : Hid (AmR w a n l ∧ allR l) := ⟨h, hR⟩
  obtain ⟨rb, hrb⟩ : ∃ rb, w.heap.size = rb := ⟨_, rfl⟩
  obtain ⟨U0, hU0⟩ : ∃ U0, w.alloc (.cells #[.int .i64 0, .slice none 0 0] 24) = U0 := ⟨_, rfl⟩
  have HS : Hid (Su w U0 rb (l.take 0) none 0) := by
    rw [← hU0, ← hrb]
    exact ⟨row_nil _ _ _, (Below.refl _ w).alloc (Nat.le_refl _) _, heap_alloc_new w _⟩
  have HRB : Hid (w.heap.size ≤ rb) := by show w.heap.size ≤ rb; omega
  clear h hR hi hz hsz hby
  go_enter Tryd.func10, Tryd.ntmps10
  go_wp2_with fail
  clear hrb hU0
  go_loopw [4, 5, 7, 13] (fun sw sb _ i wr => ∃ (k : Nat) (ba : Option Addr) (bc : Nat), k ≤ n ∧ sw = .int .i64 (wsum (l.take k)) ∧ sb = .slice ba (bitsA (l.take k)).length bc ∧ i = .int .i64 k ∧ Hid (Su w wr rb (l.take k) ba bc)) (fun _ _ _ i _ => n - (intOf i).toNat)
  case atStart => exact ⟨0, none, 0, Nat.zero_le _, rfl, rfl, rfl, HS⟩
  case round =>
    clear HS
    obtain ⟨k, ba, bc, hk, rfl, rfl, rfl, HC⟩ := hrel
    have hw := wsum_bd (l.take k) (allR_take HA.out.2 k)
    have hbl := bits_len (l.take k) (allR_take HA.out.2 k)
    have htl : (l.take k).length ≤ 100 := by rw [List.length_take]; omega
    by_cases hlt : k < n
    · have hltI : (k : Int) < (n : Int) := by omega
      have hk0 : (0 : Int) ≤ (k : Int) := by omega
      have hkl : k < l.length := by rw [HA.out.1.len]; exact hlt
      obtain ⟨b, o, sa, sn, sc, rfl, hbl2, p0, p1, hS⟩ := (HA.out.1.below HC.out.2.1).at' k hkl
      have HT : Hid (l.take (k + 1) = l.take k ++ [l[k]]) := (List.take_append_getElem hkl).symm
      have HW : Hid (rightB l[k].1 l[k].2 = true) := HA.out.2 _ (List.getElem_mem hkl)
      have hx1 := (right_iff.1 HW.out).1
      have hx2 := rise_len l[k].2 0 (by omega) (right_iff.1 HW.out).2
      have hsn := hS.i.len
      have HSl : Hid (Sl wr sa sn sc l[k].2) := hS
      have hws : Hid (wsum (l.take (k + 1)) = wsum (l.take k) + l[k].1 ∧ bitsA (l.take (k + 1)) = bitsA (l.take k) ++ l[k].2) := by
        show _ ∧ _
        rw [HT.out]; exact ⟨wsum_snoc _ _, bitsA_snoc _ _⟩
      generalize l[k] = y at *
      obtain ⟨y1, y2⟩ := y
      simp only at *
      generalize hWs : wsum (l.take k) = Ws at *
      obtain ⟨U, hU⟩ : ∃ U, wr.alloc (.cells #[.int .i64 0, .slice none 0 0] 24) = U := ⟨_, rfl⟩
      obtain ⟨vb, hvb⟩ : ∃ vb, wr.heap.size = vb := ⟨_, rfl⟩
      obtain ⟨⟨c0, c1, g0, g1⟩, hbV, hcV⟩ := stored24 (x := .int .i64 y1) (y := .slice sa sn sc) hU hvb
      obtain ⟨V, hV⟩ : ∃ V, (U.setCell ⟨vb, 0, none⟩ (.int .i64 y1)).setCell ⟨vb, 1, none⟩ (.slice sa sn sc) = V := ⟨_, rfl⟩
      rw [hV] at hbV hcV
      have HV : Hid (Su w V rb (l.take k) ba bc ∧ V.heap[vb]? = some (.cells #[.int .i64 y1, .slice sa sn sc] 24 (0, 0)) ∧ Sl V sa sn sc y2) := ⟨HC.out.below hbV, hcV, HSl.out.below hbV⟩
      obtain ⟨q0, q1⟩ := box2 hcV
      have H9 : Calls Tryd.prog 9 #[.agg #[.int .i64 y1, .slice sa sn sc]] V fun e w' => e = .returned (.bool true) ∧ Hid (Su w w' rb (l.take k) ba bc ∧ w'.heap[vb]? = some (.cells #[.int .i64 y1, .slice sa sn sc] 24 (0, 0)) ∧ Sl w' sa sn sc y2) := by
        obtain ⟨v1, v2, v3⟩ := HV.out
        refine (d9 _ y1 y2 V ⟨sa, sn, sc, rfl, v3⟩).mono ?_
        rintro e w' ⟨rfl, h2⟩
        rw [HW.out]
        exact ⟨rfl, v1.below h2, (h2.block vb (Array.getElem?_eq_some_iff.1 v2).1).trans v2, v3.below h2⟩
      clear hbV hcV hS
      go_wp2_with fail
      refine H9.mono ?_
      rintro e w1 ⟨rfl, H1⟩
      clear H9 hU hvb c0 c1 g0 g1 hV q0 q1 p0 p1 HV
      obtain ⟨q0, q1⟩ := box2 H1.out.2.1
      go_wp2_with (at_builtin; refine wpList_append_row _ rfl _ _ 22 rfl w.heap.size 3 i0 (.int .i64 0) 8 Tryd.underlying22 HI.out.1 HI.out.2.1 HI.out.2.2.1 HI.out.2.2.2 rfl ba (bitsA (l.take k)).length bc (i64s (bitsA (l.take k))) rfl H1.out.1.1 sa sn sc (i64s y2) rfl H1.out.2.2.i.reads (i64s_one _) H1.out.2.2.nil (by unfold maxLen; omega) (by omega) H1.out.1.2.1.size ?_)
      intro ba2 bc2 w5 r1 r2 r3 _ _
      have H5 : Hid (Su w w5 rb (l.take (k + 1)) ba2 bc2) := by
        have e1 : (bitsA (l.take (k + 1))).length = (bitsA (l.take k)).length + sn := by rw [hws.out.2, List.length_append, hsn]
        have e2 : i64s (bitsA (l.take (k + 1))) = i64s (bitsA (l.take k)) ++ i64s y2 := by rw [hws.out.2]; simp [i64s]
        obtain ⟨⟨s1, s2, s3⟩, _, _⟩ := H1.out
        refine ⟨by rw [e1, e2]; exact r1, s2.trans ⟨r2.os, r2.tape, r2.output, r2.size, fun j hj => r2.block j (Nat.lt_of_lt_of_le hj s2.size) fun e => ?_⟩, ?_⟩
        · have := (s1.lt e.symm).1
          omega
        · refine (r2.block rb (Array.getElem?_eq_some_iff.1 s3).1 fun e => ?_).trans s3
          rcases s1.mem with ⟨e2, _⟩ | ⟨g, cu, e2, _, h4, _⟩
          · rw [e2] at e; cases e
          · rw [e2] at e
            have : rb = g := by simpa [blk] using e
            subst this
            rw [s3] at h4; cases h4
      have HE : Hid (wsum (l.take (k + 1)) = Ws + y1 ∧ (bitsA (l.take (k + 1))).length = (bitsA (l.take k)).length + sn) := by
        refine ⟨hws.out.1, ?_⟩
        rw [hws.out.2, List.length_append, hsn]
      clear r1 r2 r3 H1 q0 q1
      go_wp2_with fail
      go_roundw
      case rel => exact ⟨k + 1, ba2, bc2, by omega, by rw [HE.out.1], by rw [HE.out.2], by go_num, H5⟩
      case measure => simp [intOf]; omega
    · have hkn : k = n := by omega
      subst hkn
      have hall : l.take k = l := List.take_of_length_le (by rw [HA.out.1.len]; omega)
      rw [hall] at HC hw hbl htl ⊢
      clear hall
      have hm : (bitsA l).length ≤ 104857600 := by omega
      have H19 : Calls Tryd.prog 19 #[.slice ba (bitsA l).length bc] wr fun e w' => e = .returned (.tuple #[]) ∧ Hid (In w' ba (bitsA l).length (srt (bitsA l)) ∧ Below w.heap.size w w' ∧ w'.heap[rb]? = some (.cells #[.int .i64 0, .slice none 0 0] 24 (0, 0))) := by
        obtain ⟨s1, s2, s3⟩ := HC.out
        refine (d19 _ ba _ bc (bitsA l) wr s1 (by omega)).mono ?_
        rintro e w' ⟨rfl, h1, r2⟩
        refine ⟨rfl, h1.in, s2.trans ⟨r2.os, r2.tape, r2.output, r2.size, fun j hj => r2.block j (Nat.lt_of_lt_of_le hj s2.size) fun e => ?_⟩, ?_⟩
        · have := (s1.lt e.symm).1
          omega
        · refine (r2.block rb (Array.getElem?_eq_some_iff.1 s3).1 fun e => ?_).trans s3
          rcases s1.mem with ⟨e2, _⟩ | ⟨g, cu, e2, _, h4, _⟩
          · rw [e2] at e; cases e
          · rw [e2] at e
            have : rb = g := by simpa [blk] using e
            subst this
            rw [s3] at h4; cases h4
      go_wp2_with fail
      refine H19.mono ?_
      rintro e w2 ⟨rfl, H2⟩
      clear H19 HC
      have H20 : Calls Tryd.prog 20 #[.slice ba (bitsA l).length bc] w2 fun e w' => ∃ u R ra rc, e = .returned (.tuple #[.int .i64 u, .slice ra (R : List Int).length rc]) ∧ 0 ≤ u ∧ u ≤ 104857600 ∧ R.length ≤ 104857600 ∧ Hid (Row w' w2.heap.size 3 ra R.length rc (i64s R.reverse) ∧ Below w.heap.size w w' ∧ w'.heap[rb]? = some (.cells #[.int .i64 0, .slice none 0 0] 24 (0, 0)) ∧ riseB 0 R.reverse = true ∧ ∀ N : Nat, 1048576 ≤ N → vl N R + u * pw N 0 = vl N (srt (bitsA l))) := by
        obtain ⟨s1, s2, s3⟩ := H2.out
        refine (d20 ba _ bc _ w2 s1 (by omega) (up_srt _ (bits_mem l HA.out.2))).mono ?_
        rintro e w' ⟨u, R, ra, rc, rfl, h1, h2, h3, h4, h5⟩
        have h6 := rise_len R.reverse 0 (by omega) h4
        simp only [List.length_reverse] at h6
        exact ⟨u, R, ra, rc, rfl, h5.1, by omega, by omega, h1, s2.trans (h2.mono s2.size), (h2.block rb (Array.getElem?_eq_some_iff.1 s3).1).trans s3, h4, h3⟩
      go_wp2_with fail
      refine H20.mono ?_
      rintro e w3 ⟨u, R, ra, rc, rfl, hu0, hu1, hRl, H3⟩
      clear H20 H2
      have H21 : Calls Tryd.prog 21 #[.slice ra R.length rc] w3 fun e w' => ∃ a' c', e = .returned (.slice a' R.length c') ∧ Hid (blk a' ≠ some rb) ∧ Hid (Sl w' a' R.length c' R.reverse ∧ Below w.heap.size w w' ∧ w'.heap[rb]? = some (.cells #[.int .i64 0, .slice none 0 0] 24 (0, 0))) := by
        obtain ⟨s1, s2, s3, _⟩ := H3.out
        refine (d21 ra _ rc R.reverse w3 s1.in (by omega) (fun e => ?_)).mono ?_
        · rcases s1.mem with ⟨_, e2⟩ | ⟨g, cu, e2, _⟩
          · have := s1.cap; omega
          · rw [e] at e2; cases e2
        · rintro e w' ⟨a', c', rfl, h1, h2⟩
          refine ⟨a', c', rfl, fun e => by have := (h1.lt e).1; have := (Array.getElem?_eq_some_iff.1 s3).1; omega, ⟨h1.in, by omega, h1.cap, fun e => ?_⟩, s2.trans (h2.mono s2.size), (h2.block rb (Array.getElem?_eq_some_iff.1 s3).1).trans s3⟩
          rcases h1.mem with ⟨_, e2⟩ | ⟨g, cu, e2, _⟩
          · have := h1.cap; omega
          · rw [e] at e2; cases e2
      go_wp2_with fail
      refine H21.mono ?_
      rintro e w4 ⟨a', c', rfl, HNE, H4⟩
      clear H21
      have HZ : Hid ((rightB (wsum l + u) R.reverse = true → SumIs l 0 (wsum l + u) R.reverse) ∧ (rightB (wsum l + u) R.reverse = false → SumIs l 3 0 [])) := by
        obtain ⟨_, _, _, h4, h5⟩ := H3.out
        exact sum_is l u R hw.1 hu0 h4 h5
      obtain ⟨U, hU⟩ : ∃ U, w4.alloc (.cells #[.int .i64 0, .slice none 0 0] 24) = U := ⟨_, rfl⟩
      obtain ⟨vb, hvb⟩ : ∃ vb, w4.heap.size = vb := ⟨_, rfl⟩
      obtain ⟨⟨c0, c1, g0, g1⟩, hbV, hcV⟩ := stored24 (x := .int .i64 (wsum l + u)) (y := .slice a' R.length c') hU hvb
      obtain ⟨V, hV⟩ : ∃ V, (U.setCell ⟨vb, 0, none⟩ (.int .i64 (wsum l + u))).setCell ⟨vb, 1, none⟩ (.slice a' R.length c') = V := ⟨_, rfl⟩
      rw [hV] at hbV hcV
      obtain ⟨q0, q1⟩ := box2 hcV
      obtain ⟨rr, hrr⟩ : ∃ rr, rightB (wsum l + u) R.reverse = rr := ⟨_, rfl⟩
      have H9 : Calls Tryd.prog 9 #[.agg #[.int .i64 (wsum l + u), .slice a' R.length c']] V fun e w' => e = .returned (.bool rr) ∧ Hid (w'.heap[vb]? = some (.cells #[.int .i64 (wsum l + u), .slice a' R.length c'] 24 (0, 0)) ∧ Sl w' a' R.length c' R.reverse ∧ Below w.heap.size w w' ∧ w'.heap[rb]? = some (.cells #[.int .i64 0, .slice none 0 0] 24 (0, 0))) := by
        obtain ⟨v1, v2, v3⟩ := H4.out
        refine (d9 _ (wsum l + u) R.reverse V ⟨a', R.length, c', rfl, v1.below hbV⟩).mono ?_
        rintro e w' ⟨rfl, h2⟩
        rw [hrr]
        have hb3 := hbV.trans (h2.mono hbV.size)
        exact ⟨rfl, (h2.block vb (Array.getElem?_eq_some_iff.1 hcV).1).trans hcV, v1.below hb3, v2.trans (hb3.mono v2.size), (hb3.block rb (Array.getElem?_eq_some_iff.1 v3).1).trans v3⟩
      rw [hrr] at HZ
      clear hbV hcV H3 H4 hrr
      have hwb : wsum l ≤ 214748364700 := by omega
      generalize wsum l = Ws at *
      cases rr
      · go_wp2_with fail
        refine H9.mono ?_
        rintro e w5 ⟨rfl, H5⟩
        clear H9 hU hvb c0 c1 g0 g1 hV q0 q1
        obtain ⟨x1, x2, x3, x4⟩ := H5.out
        have k0 := frozen_of_row w5 rb 0 _ 24 x4
        have k1 := frozen_of_row w5 rb 1 _ 24 x4
        obtain ⟨c0, c1⟩ := box2 x4
        obtain ⟨X, hX⟩ : ∃ X, (w5.setCell ⟨rb, 0, none⟩ (.int .i64 0)).setCell ⟨rb, 1, none⟩ (.slice none 0 0) = X := ⟨_, rfl⟩
        have HX : Hid (X.heap[rb]? = some (.cells #[.int .i64 0, .slice none 0 0] 24 (0, 0)) ∧ Below w.heap.size w X) := by
          have e1 := heap_setCell_same w5 rb 0 _ 24 (.int .i64 0) x4
          have e2 := heap_setCell_same _ rb 1 _ 24 (.slice none 0 0) e1
          rw [← hX]
          exact ⟨e2, (x3.setCell (p := ⟨rb, 0, none⟩) HRB.out _).setCell (p := ⟨rb, 1, none⟩) HRB.out _⟩
        clear x1 x2 x3 x4
        go_wp2_with fail
        obtain ⟨z0, z1⟩ := box2 HX.out.1
        exact bodyPost_ret (v := .tuple #[.agg #[.int .i64 0, .slice none 0 0], .int .i64 3]) (by simp [results, Tryd.results10, go_sem, z0, z1]) rfl ⟨3, 0, none, 0, 0, [], rfl, ⟨in_nil _ _, by omega, by omega, fun _ => rfl⟩, HX.out.2, HZ.out.2 (by trivial)⟩
      · go_wp2_with fail
        refine H9.mono ?_
        rintro e w5 ⟨rfl, H5⟩
        clear H9 hU hvb c0 c1 g0 g1 hV q0 q1
        obtain ⟨x1, x2, x3, x4⟩ := H5.out
        have k0 := frozen_of_row w5 rb 0 _ 24 x4
        have k1 := frozen_of_row w5 rb 1 _ 24 x4
        obtain ⟨c0, c1⟩ := box2 x4
        obtain ⟨q0, q1⟩ := box2 x1
        obtain ⟨X, hX⟩ : ∃ X, (w5.setCell ⟨rb, 0, none⟩ (.int .i64 (Ws + u))).setCell ⟨rb, 1, none⟩ (.slice a' R.length c') = X := ⟨_, rfl⟩
        have HX : Hid (X.heap[rb]? = some (.cells #[.int .i64 (Ws + u), .slice a' R.length c'] 24 (0, 0)) ∧ Below w.heap.size w X ∧ Sl X a' R.length c' R.reverse) := by
          have e1 := heap_setCell_same w5 rb 0 _ 24 (.int .i64 (Ws + u)) x4
          have e2 := heap_setCell_same _ rb 1 _ 24 (.slice a' R.length c') e1
          have hne : blk a' ≠ some rb := HNE.out
          rw [← hX]
          exact ⟨e2, (x3.setCell (p := ⟨rb, 0, none⟩) HRB.out _).setCell (p := ⟨rb, 1, none⟩) HRB.out _, in_set (in_set x2.i _ _ hne) _ _ hne, x2.max, x2.cap, x2.nil⟩
        clear x1 x2 x3 x4
        go_wp2_with fail
        obtain ⟨z0, z1⟩ := box2 HX.out.1
        exact bodyPost_ret (v := .tuple #[.agg #[.int .i64 (Ws + u), .slice a' R.length c'], .int .i64 0]) (by simp [results, Tryd.results10, go_sem, z0, z1]) rfl ⟨0, Ws + u, a', R.length, c', R.reverse, rfl, HX.out.2.2, HX.out.2.1, HZ.out.1 (by trivial)⟩
end Go.Proofs.YtopapmnoepnpcaaDoor
