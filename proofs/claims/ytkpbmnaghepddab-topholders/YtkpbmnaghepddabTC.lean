/- Contract of TopHolders. -/
import Derived.Test.YtkpbmnaghepddabTB
namespace Go.Proofs.Ytkpbmnaghepddab
open Go.RowKit
attribute [local go_sem ↓] Go.wp_at_zero Go.wp_at_succ
theorem stored {wr W2 : World} {vb : Nat} {y1 y2 : Int} (hW2 : wr.alloc (.cells #[.int .i64 0, .int .i64 0] 31) = W2) (hvb : wr.heap.size = vb) :
    (W2.cell? ⟨vb, 0, none⟩ = some (.int .i64 0) ∧ W2.cell? ⟨vb, 1, none⟩ = some (.int .i64 0) ∧ W2.frozen? ⟨vb, 0, none⟩ = false ∧ W2.frozen? ⟨vb, 1, none⟩ = false) ∧ Below wr.heap.size wr ((W2.setCell ⟨vb, 0, none⟩ (.int .i64 y1)).setCell ⟨vb, 1, none⟩ (.int .i64 y2)) ∧ ((W2.setCell ⟨vb, 0, none⟩ (.int .i64 y1)).setCell ⟨vb, 1, none⟩ (.int .i64 y2)).heap[vb]? = some (.cells #[.int .i64 y1, .int .i64 y2] 31 (0, 0)) := by
  have hc : W2.heap[vb]? = some (.cells #[.int .i64 0, .int .i64 0] 31 (0, 0)) := by rw [← hW2, ← hvb]; exact heap_alloc_new wr _
  obtain ⟨c0, c1⟩ := box2 hc
  have h1 : Below wr.heap.size wr W2 := by rw [← hW2]; exact (Below.refl _ _).alloc (Nat.le_refl _) _
  have h0 : wr.heap.size ≤ vb := by omega
  have e1 := heap_setCell_same W2 vb 0 _ 31 (.int .i64 y1) hc
  exact ⟨⟨c0, c1, frozen_of_row W2 vb 0 _ 31 hc, frozen_of_row W2 vb 1 _ 31 hc⟩, (h1.setCell (p := ⟨vb, 0, none⟩) h0 _).setCell (p := ⟨vb, 1, none⟩) h0 _, heap_setCell_same _ vb 1 _ 31 (.int .i64 y2) e1⟩
theorem wf_small (x : Int) (h1 : 0 ≤ x) (h2 : x ≤ 1000) : wfI x := by
  unfold wfI Lit.wf
  simp only [IntKind.min, IntKind.max, IntKind.bits, IntKind.signed]
  simp
  omega
theorem in_one (w : World) (k : Int) : Ow.In (w.alloc (.cells #[.int .i64 k] 3)) (some ⟨w.heap.size, 0, none⟩) 1 [k] :=
  ⟨rfl, .inr ⟨_, _, rfl, by simp, fun j u hu => by rw [Nat.zero_add, cell_of_row _ w.heap.size j _ 3 (0, 0) (heap_alloc_new w _)]; simpa [Ow.i64s] using hu⟩⟩
theorem no3 (y : Int) : 1 + whF y 3 ∈ ([1, 2, 3] : List Int) := by
  have := whF_bd y 3 (by omega)
  simp
  omega
abbrev No3 : List Int := [1, 2, 3]
/-- Behind so many rounds. -/
def Rd (w0 w : World) (ot rb wb rt eb ib vb : Nat) (x2 : Int) (i : Nat) (m L : List Int) (ta : Option Addr) (tc : Nat) : Prop :=
  (∃ s, Th w0 w ot rb wb i s m rt eb ib i (cnt L) vb x2 ta i tc L) ∧ L.length = i ∧ m ∈ rowsS ∧ (m = [] ↔ L = []) ∧ (∀ x ∈ L, x ∈ No3)
/-- Behind Tell: what was told. -/
def Tl (w0 w : World) (ot rb wb rt eb ib vb : Nat) (x2 : Int) (nR : Nat) (c : Int → Int) (k : Nat) (m L : List Int) (ta : Option Addr) (tc : Nat) (pa : Option Addr) : Prop :=
  (∃ s nO, Th w0 w ot rb wb nO s [] rt eb ib nR c vb x2 ta k tc L) ∧ Ow.In w pa m.length m
theorem Tl.below {w0 w w' : World} {ot rb wb rt eb ib vb nR k tc : Nat} {x2 : Int} {c : Int → Int} {m L : List Int} {ta pa : Option Addr} (h : Tl w0 w ot rb wb rt eb ib vb x2 nR c k m L ta tc pa) (hb : Below w.heap.size w w') : Tl w0 w' ot rb wb rt eb ib vb x2 nR c k m L ta tc pa :=
  ⟨h.1.elim fun s h1 => h1.elim fun nO h2 => ⟨s, nO, h2.below hb⟩, h.2.below hb⟩
/-- Behind all. -/
def Tz (w0 w : World) (ot rb wb rt eb ib vb : Nat) (x2 : Int) (nR : Nat) (c : Int → Int) (k : Nat) (L : List Int) (ta : Option Addr) (tc : Nat) : Prop :=
  ∃ s nO, Th w0 w ot rb wb nO s [] rt eb ib nR c vb x2 ta k tc L
theorem Tz.below {w0 w w' : World} {ot rb wb rt eb ib vb nR k tc : Nat} {x2 : Int} {c : Int → Int} {L : List Int} {ta : Option Addr} (h : Tz w0 w ot rb wb rt eb ib vb x2 nR c k L ta tc) (hb : Below w.heap.size w w') : Tz w0 w' ot rb wb rt eb ib vb x2 nR c k L ta tc :=
  h.elim fun s h1 => h1.elim fun nO h2 => ⟨s, nO, h2.below hb⟩
theorem Tz.cells {w0 w : World} {ot rb wb rt eb ib vb nR k tc : Nat} {x2 : Int} {c : Int → Int} {L : List Int} {ta : Option Addr} (h : Tz w0 w ot rb wb rt eb ib vb x2 nR c k L ta tc) : w.cell? ⟨vb, 0, none⟩ = some (.int .i64 0) ∧ w.cell? ⟨vb, 1, none⟩ = some (.int .i64 x2) :=
  h.elim fun _ h1 => h1.elim fun _ h2 => h2.cells
abbrev TzS (w0 w : World) (ot rb wb rt eb ib vb : Nat) (x2 : Int) (nR : Nat) (k : Nat) (L : List Int) (ta : Option Addr) (tc : Nat) : Prop :=
  w.cell? ⟨vb, 0, none⟩ = some (.int .i64 0) ∧ w.cell? ⟨vb, 1, none⟩ = some (.int .i64 x2) ∧ Hid (Tz w0 w ot rb wb rt eb ib vb x2 nR (fun _ => 0) k L ta tc)
theorem tzs {w0 w : World} {ot rb wb rt eb ib vb nR k tc : Nat} {x2 : Int} {L : List Int} {ta : Option Addr} (h : Hid (Tz w0 w ot rb wb rt eb ib vb x2 nR (fun _ => 0) k L ta tc)) : TzS w0 w ot rb wb rt eb ib vb x2 nR k L ta tc := ⟨h.out.cells.1, h.out.cells.2, h⟩
theorem tzs_drew {w0 w : World} {ot rb wb rt eb ib vb nR k tc : Nat} {x2 : Int} {L : List Int} {ta : Option Addr} (h : Hid (Tz w0 w ot rb wb rt eb ib vb x2 nR (fun _ => 0) k L ta tc)) : TzS w0 w.drew ot rb wb rt eb ib vb x2 nR k L ta tc := tzs (h.out.below ((Below.refl _ w).drew))
set_option maxRecDepth 100000 in
set_option maxHeartbeats 8000000 in
theorem t3 (x : Int) (a : Option Addr) (n c : Nat) (xs : List Int) (w : World) (h : Ow.In w a n xs) : Calls Try.prog 3 #[.int .i64 x, .slice a n c] w fun e w' => e = .returned (.bool true) ∧ Below w.heap.size w w' := by
  have HN : Hid (Ow.In w a n xs) := h
  obtain ⟨x2, hx2⟩ : ∃ x2, whF x 1000 = x2 := ⟨_, rfl⟩
  have hxb := whF_bd x 1000 (by omega)
  rw [hx2] at hxb
  have HX : Hid (wfN (0, x2) ∧ Ow.wfN (0, x2)) := by
    have h1 : wfI x2 := wf_small x2 (by omega) (by omega)
    have h0 : wfI 0 := wf_small 0 (by omega) (by omega)
    exact ⟨⟨h0, h1⟩, h0, h1⟩
  have H4 : Calls Try.prog 4 #[] w fun e w' => e = .returned (.pointer (some ⟨w.heap.size + 2, 0, none⟩)) ∧ Hid (Ow.TbAt w' w.heap.size (w.heap.size + 2) w.heap.size (w.heap.size + 1) 0 (fun _ => ⟨none, 0, 0⟩) (fun _ => []) (fun _ => false) ∧ Below w.heap.size w w') := Ow.o7 w
  clear h
  go_enter Try.func3, Try.ntmps3
  go_wp2_with fail
  refine H4.mono ?_
  rintro e w1 ⟨rfl, H1⟩
  clear H4
  have H5 : Calls Try.prog 5 #[.int .i64 0, .int .i64 4] w1 fun e w' => ∃ tb eb ib, e = .returned (.tuple #[.pointer (some ⟨tb, 0, none⟩), .int .i64 0]) ∧ Hid (RtAt w' w1.heap.size tb eb ib 0 0 4 (fun _ => 0) (fun _ => 0) ∧ Below w1.heap.size w1 w') := r9 0 4 w1 (by decide) (by decide) (by decide)
  go_wp2_with fail
  refine H5.mono ?_
  rintro e w2 ⟨rt, eb, ib, rfl, H2⟩
  clear H5
  have H6 : Calls Try.prog 6 #[.int .i64 x, .int .i64 1000] w2 fun e w' => e = .returned (.int .i64 x2) ∧ w' = w2 := by
    rw [← hx2]; exact t6 x 1000 w2 (by omega) (by omega)
  clear hx2
  go_wp2_with fail
  refine H6.mono ?_
  rintro e w' ⟨rfl, hw⟩
  obtain rfl := hw.symm
  clear H6
  obtain ⟨U, hU⟩ : ∃ U, w2.alloc (.cells #[.int .i64 0, .int .i64 0] 31) = U := ⟨_, rfl⟩
  obtain ⟨vb, hvb⟩ : ∃ vb, w2.heap.size = vb := ⟨_, rfl⟩
  obtain ⟨⟨c0, c1, g0, g1⟩, hbV, hcV⟩ := stored (y1 := 0) (y2 := x2) hU hvb
  obtain ⟨V, hV⟩ : ∃ V, (U.setCell ⟨vb, 0, none⟩ (.int .i64 0)).setCell ⟨vb, 1, none⟩ (.int .i64 x2) = V := ⟨_, rfl⟩
  rw [hV] at hbV hcV
  obtain ⟨rb, hrb⟩ : ∃ rb, w.heap.size = rb := ⟨_, rfl⟩
  obtain ⟨wb, hwb⟩ : ∃ wb, rb + 1 = wb := ⟨_, rfl⟩
  obtain ⟨ot, hot⟩ : ∃ ot, rb + 2 = ot := ⟨_, rfl⟩
  have HS : Hid (Rd w V ot rb wb rt eb ib vb x2 0 [] [] none 0) := by
    obtain ⟨p1, p2⟩ := H1.out
    obtain ⟨q1, q2⟩ := H2.out
    rw [hrb, hot, hwb] at p1
    have hb2 := q2.trans (hbV.mono q2.size)
    have e1 : oneM x2 [] = fun _ => [] := by funext y; simp [oneM]
    have hl1 := p1.rows.lt
    have hl2 := p1.want.lt
    have := q1.hb
    refine ⟨⟨fun _ => ⟨none, 0, 0⟩, ⟨?_, ?_, hcV, Ow.row_nil _ _ _, fun y g _ e => by (cases e), by omega, ?_⟩⟩, rfl, by decide, by simp, fun y hy => by cases hy⟩
    · rw [e1, hrb]
      exact p1.below hb2
    · rw [cnt_nil, cntF_zero]
      have h3 := q1.below hbV
      have := p2.size
      exact ⟨h3.blk, h3.ex, h3.im, h3.ne, by omega⟩
    · exact p2.trans (hb2.mono p2.size)
  clear H1 H2 hbV hcV
  go_wp2_with fail
  clear hU hvb c0 c1 g0 g1 hV hot hrb hwb
  obtain ⟨i0, hi, hz, hsz, hby⟩ := Ow.infoI64
  have HI : Hid (Try.prog.info? 3 = some i0 ∧ i0.zero = some (.int .i64 0) ∧ i0.size = 1 ∧ i0.bytes = 8) := ⟨hi, hz, hsz, hby⟩
  clear hi hz hsz hby
  go_loopw [9, 10, 11] (fun t i _ wr => ∃ (k : Nat) (m L : List Int) (ta : Option Addr) (tc : Nat), k ≤ n ∧ k ≤ 50 ∧ t = .slice ta k tc ∧ i = .int .i64 k ∧ Hid (Rd w wr ot rb wb rt eb ib vb x2 k m L ta tc)) (fun _ i _ _ => n - (intOf i).toNat)
  case atStart => exact ⟨0, [], [], none, 0, Nat.zero_le _, Nat.zero_le _, rfl, rfl, HS⟩
  case round =>
    clear HS
    obtain ⟨k, m, L, ta, tc, hk, hk50, rfl, rfl, HR⟩ := hrel
    by_cases hlt : k < n ∧ k < 50
    · have hltI : (k : Int) < (n : Int) := by omega
      have hlt50 : (k : Int) < 50 := by omega
      have hk0 : (0 : Int) ≤ (k : Int) := by omega
      have HB : Hid (Below w.heap.size w wr) := HR.out.1.elim fun s hs => hs.bel
      obtain ⟨b, o, hx, rfl, p0⟩ := (HN.out.below HB.out).at hlt.1
      have H6 : Calls Try.prog 6 #[.int .i64 xs[k], .int .i64 3] wr fun e w' => e = .returned (.int .i64 (whF xs[k] 3)) ∧ w' = wr := t6 xs[k] 3 wr (by omega) (by omega)
      have HK : Hid (1 + whF xs[k] 3 ∈ No3) := no3 _
      have hkb := whF_bd xs[k] 3 (by omega)
      generalize whF xs[k] 3 = y at *
      generalize xs[k] = xk at *
      go_wp2_with fail
      refine H6.mono ?_
      rintro e w' ⟨rfl, hw⟩
      obtain rfl := hw.symm
      clear H6 p0
      obtain ⟨W, hW⟩ : ∃ W, wr.alloc (.cells #[.int .i64 (1 + y)] 3) = W := ⟨_, rfl⟩
      have HT : Hid (∃ s, Th w W ot rb wb k s m rt eb ib k (cnt L) vb x2 ta k tc L) := by
        obtain ⟨s, hs⟩ := HR.out.1
        rw [← hW]
        exact ⟨s, hs.below ((Below.refl _ wr).alloc (Nat.le_refl _) _)⟩
      have HO : Hid (Ow.In W (some ⟨wr.heap.size, 0, none⟩) 1 [1 + y]) := by rw [← hW]; exact in_one wr _
      have HR2 : Hid (L.length = k ∧ m ∈ rowsS ∧ (m = [] ↔ L = []) ∧ (∀ x ∈ L, x ∈ No3)) := HR.out.2
      clear HR HB
      go_wp2_with (at_builtin; refine Ow.wpList_append_row _ rfl _ _ 22 rfl w.heap.size 3 i0 (.int .i64 0) 8 Try.underlying22 HI.out.1 HI.out.2.1 HI.out.2.2.1 HI.out.2.2.2 rfl ta k tc (Ow.i64s L) rfl (HT.out.elim fun s hs => hs.to) _ 1 1 (Ow.i64s [1 + y]) rfl HO.out.reads (fun u hu => by simp [Ow.i64s] at hu; subst hu; rfl) (fun e => by cases e) (by unfold maxLen; omega) (by omega) (HT.out.elim fun s hs => hs.bel.size) ?_)
      intro ta' tc' w5 r1 r2 r3 _ _
      have H5 : Hid (∃ s, Th w w5 ot rb wb k s m rt eb ib k (cnt L) vb x2 ta' (k + 1) tc' (L ++ [1 + y])) := by
        obtain ⟨s, hs⟩ := HT.out
        refine ⟨s, hs.app r1 r2 ?_⟩
        rcases r3 with e | ⟨g, e, hg, _⟩
        · exact .inl e
        · exact .inr ⟨g, e, hg⟩
      clear r1 r2 r3 HT HO hW
      obtain ⟨v0, v1⟩ := H5.out.elim fun s hs => hs.cells
      have H7 : Calls Try.prog 7 #[.pointer (some ⟨ot, 0, none⟩), .agg #[.int .i64 0, .int .i64 x2], .int .i64 (1 + y)] w5 fun e w' => ∃ r, e = .returned (.bool r) ∧ Hid (∃ s, Th w w' ot rb wb (k + 1) s (putM m (1 + y)) rt eb ib k (cnt L) vb x2 ta' (k + 1) tc' (L ++ [1 + y])) := by
        obtain ⟨s, hs⟩ := H5.out
        have hm3 := rows_len m HR2.out.2.1
        refine (Ow.o11 _ ot rb wb k s _ _ (0, x2) (1 + y) w5 hs.ow HX.out.2 (by omega) (by simp [oneM]; omega) hs.bel.size).mono ?_
        rintro e w' ⟨rfl, s', h1, h2⟩
        rw [oneM_ask] at h1
        exact ⟨_, rfl, s', hs.tb h1 h2⟩
      go_wp2_with fail
      refine H7.mono ?_
      rintro e w6 ⟨r, rfl, H6⟩
      clear H7 H5 v0 v1
      obtain ⟨v0, v1⟩ := H6.out.elim fun s hs => hs.cells
      have H8 : Calls Try.prog 8 #[.pointer (some ⟨rt, 0, none⟩), .int .i64 (1 + y), .slice (some ⟨w6.heap.size, 0, none⟩) 1 1] (w6.alloc (.cells #[.int .i64 0, .int .i64 x2] 31)) fun e w' => e = .returned (.int .i64 0) ∧ Hid (Rd w w' ot rb wb rt eb ib vb x2 (k + 1) (putM m (1 + y)) (L ++ [1 + y]) ta' tc') := by
        obtain ⟨s, hs⟩ := H6.out
        have hL := hs.below ((Below.refl _ w6).alloc (Nat.le_refl _) (.cells #[.int .i64 0, .int .i64 x2] 31))
        have hc := cnt_le L (1 + y)
        obtain ⟨q1, q2, q3, q4⟩ := HR2.out
        refine (r19 _ rt eb ib k 0 4 _ _ (1 + y) _ 1 1 [(0, x2)] _ hL.rf (by simp [isN]; omega) (wf_small _ (by omega) (by omega)) (nm_one w6 (0, x2) HX.out.1) (fun j hj => by cases hj; exact ⟨hL.rf.ex.ne_cells (heap_alloc_new w6 _), hL.rf.im.ne_cells (heap_alloc_new w6 _)⟩) (by simp [allOwn]) (by omega)).mono ?_
        rintro e w' ⟨rfl, h1⟩
        rw [sentF_one, cntF_add _ _ _ _ (by omega) (by omega), cnt_snoc] at h1
        obtain ⟨z1, z2⟩ := rows_put m q2 (1 + y) HK.out
        refine ⟨rfl, ⟨s, hL.ref h1⟩, by simp [q1], z1, ⟨fun e => absurd e z2, fun e => by simp at e⟩, fun u hu => ?_⟩
        rcases List.mem_append.1 hu with e | e
        · exact q4 u e
        · simp at e; subst e; exact HK.out
      go_wp2_with fail
      refine H8.mono ?_
      rintro e w7 ⟨rfl, H7⟩
      clear H8 H6 v0 v1
      go_wp2_with fail
      go_roundw
      case rel => exact ⟨k + 1, _, _, ta', tc', by omega, by omega, by go_num, by go_num, H7⟩
      case measure => simp [intOf]; omega
    · have H1 : Hid (Rd w wr ot rb wb rt eb ib vb x2 k m L ta tc) := HR
      clear HR
      obtain ⟨v0, v1⟩ := H1.out.1.elim fun s hs => hs.cells
      have H9 : Calls Try.prog 9 #[.pointer (some ⟨ot, 0, none⟩), .agg #[.int .i64 0, .int .i64 x2]] wr fun e w' => ∃ pa pc, e = .returned (.slice pa m.length pc) ∧ Hid (Tl w w' ot rb wb rt eb ib vb x2 k (cnt L) k m L ta tc pa) := by
        obtain ⟨s, hs⟩ := H1.out.1
        refine (Ow.o14 _ ot rb wb k s _ _ (0, x2) wr hs.ow HX.out.2).mono ?_
        rintro e w' ⟨rfl, h1, h2, h3⟩
        rw [oneM_set] at h1
        have e1 : oneM x2 m (0, x2) = m := by simp [oneM]
        rw [e1] at h3
        have hl := h3.len
        refine ⟨(s (0, x2)).a, (s (0, x2)).c, by rw [hl], ⟨_, _, hs.tb h1 h2⟩, ?_⟩
        rw [hl]; exact h3
      have hge : k < n → ¬ k < 50 := fun h1 h2 => hlt ⟨h1, h2⟩
      have HR2 : Hid (L.length = k ∧ m ∈ rowsS ∧ (m = [] ↔ L = []) ∧ (∀ x ∈ L, x ∈ No3)) := H1.out.2
      clear H1
      have hm3 : m.length ≤ 3 := rows_len m HR2.out.2.1
      by_cases hkn : k < n
      all_goals (first
        | (have hknI : (k : Int) < (n : Int) := by omega
           have hk5 : ¬ (k : Int) < 50 := by omega
           clear hge hlt)
        | (have hknI : ¬ (k : Int) < (n : Int) := by omega
           clear hge hlt))
      all_goals (
        go_wp2_with fail
        refine H9.mono ?_
        rintro e w2 ⟨pa, pc, rfl, H2⟩
        clear H9 v0 v1 hknI
        go_wp2_with fail
        go_loopw [13, 14] (fun i _ wr => ∃ j : Nat, j ≤ m.length ∧ i = .int .i64 j ∧ Hid (Tl w wr ot rb wb rt eb ib vb x2 k (cnt L) k m L ta tc pa)) (fun i _ _ => m.length - (intOf i).toNat)
        case atStart => exact ⟨0, Nat.zero_le _, rfl, H2⟩
        case round =>
          clear H2
          obtain ⟨j, hj, rfl, HJ⟩ := hrel
          by_cases hjl : j < m.length
          · have hjI : (j : Int) < (m.length : Int) := by omega
            go_wp2_with fail
            go_loopw [14] (fun i wr => ∃ q : Nat, q ≤ j ∧ i = .int .i64 q ∧ Hid (Tl w wr ot rb wb rt eb ib vb x2 k (cnt L) k m L ta tc pa)) (fun i _ => j - (intOf i).toNat)
            case atStart => exact ⟨0, Nat.zero_le _, rfl, HJ⟩
            case round =>
              clear HJ
              obtain ⟨q, hq, rfl, HQ⟩ := hrel
              by_cases hql : q < j
              · have hqI : (q : Int) < (j : Int) := by omega
                have hqm : (q : Int) < (m.length : Int) := by omega
                have hj0 : (0 : Int) ≤ (j : Int) := by omega
                have hq0 : (0 : Int) ≤ (q : Int) := by omega
                obtain ⟨b, o, hx, rfl, p0⟩ := HQ.out.2.at hjl
                obtain ⟨b', o', hx', hp, p1⟩ := HQ.out.2.at (show q < m.length by omega)
                obtain ⟨rfl, rfl⟩ : b' = b ∧ o' = o := by cases hp; exact ⟨rfl, rfl⟩
                have hne : ¬ m[j] = m[q] := fun e => by
                  refine rows_apart m HR2.out.2.1 j (by simp; omega) q (by simp; omega) hql hjl ?_
                  rw [List.getElem?_eq_getElem hx, List.getElem?_eq_getElem hx', e]
                clear hp
                generalize m[j] = y1 at *
                generalize m[q] = y2 at *
                go_wp2_with fail
                go_region
                go_wp2_with fail
                go_roundw
                case rel => exact ⟨q + 1, by omega, by go_num, HQ.out.below ((Below.refl _ _).drew)⟩
                case measure => simp [intOf]; omega
              · go_wp2_with fail
                go_roundw
                case rel => exact ⟨j + 1, by omega, by go_num, HQ⟩
                case measure => simp [intOf]; omega
          · have H3 : Hid (Tz w wr ot rb wb rt eb ib vb x2 k (cnt L) k L ta tc) := HJ.out.1
            have hjI : ¬ (j : Int) < (m.length : Int) := by omega
            clear HJ
            obtain ⟨v0, v1⟩ := H3.out.cells
            have H10 : Calls Try.prog 10 #[.pointer (some ⟨rt, 0, none⟩), .agg #[.int .i64 0, .int .i64 x2]] wr fun e w' => e = .returned (.bool (decide ((0 : Int) < (k : Int)))) ∧ Hid (Tz w w' ot rb wb rt eb ib vb x2 (k + 0) (cnt (L.drop 0)) k L ta tc) := by
              obtain ⟨s, nO, hs⟩ := H3.out
              refine (r20 _ rt eb ib k 0 4 _ _ (0, x2) wr hs.rf HX.out.1 (by omega)).mono ?_
              rintro e w' ⟨rfl, h1⟩
              obtain ⟨q1, q2, q3, q4⟩ := HR2.out
              rw [exp_list x2 L q4, q1]
              refine ⟨?_, s, nO, hs.below h1⟩
              have : decide (0 < k) = decide ((0 : Int) < (k : Int)) := by simp
              rw [this]
            go_wp2_with fail
            refine H10.mono ?_
            rintro e w4 ⟨rfl, H4⟩
            clear H10 H3 v0 v1 hjI
            go_wp2_with fail
            go_loopw [15] (fun i wr => ∃ q : Nat, q ≤ k ∧ i = .int .i64 q ∧ Hid (Tz w wr ot rb wb rt eb ib vb x2 (k + q) (cnt (L.drop q)) k L ta tc)) (fun i _ => k - (intOf i).toNat)
            case atStart => exact ⟨0, Nat.zero_le _, rfl, H4⟩
            case round =>
              clear H4
              obtain ⟨q, hq, rfl, HQ⟩ := hrel
              obtain ⟨v0, v1⟩ := HQ.out.cells
              by_cases hql : q < k
              · have hqI : (q : Int) < (k : Int) := by omega
                have hq0 : (0 : Int) ≤ (q : Int) := by omega
                have HL : Hid (Ow.In wr ta k L) := HQ.out.elim fun s h1 => h1.elim fun nO h2 => h2.to.in
                obtain ⟨b, o, hx, rfl, p0⟩ := HL.out.at hql
                have HD : Hid (L.drop q = L[q] :: L.drop (q + 1)) := (List.drop_eq_getElem_cons hx)
                have HY : Hid (L[q] ∈ No3) := HR2.out.2.2.2 _ (List.getElem_mem hx)
                generalize L[q] = y at *
                have H11 : Calls Try.prog 11 #[.pointer (some ⟨rt, 0, none⟩), .agg #[.int .i64 0, .int .i64 x2], .int .i64 y, .int .i64 1] wr.drew fun e w' => e = .returned (.int .i64 0) ∧ Hid (Tz w w' ot rb wb rt eb ib vb x2 (k + (q + 1)) (cnt (L.drop (q + 1))) k L (some ⟨b, o, none⟩) tc) := by
                  obtain ⟨s, nO, hs⟩ := HQ.out.below ((Below.refl _ wr).drew)
                  have hy : y = 1 ∨ y = 2 ∨ y = 3 := by have := HY.out; simpa using this
                  have hc := cnt_le (L.drop q) y
                  have hc2 : (L.drop q).length ≤ 50 := by have := HR2.out.1; simp; omega
                  refine (r21 _ rt eb ib (k + q) 0 4 _ _ (0, x2) y 1 wr.drew hs.rf HX.out.1 rfl (by simp [isN]; omega) (wf_small _ (by omega) (by omega)) (by omega) (by omega) (by omega)).mono ?_
                  rintro e w' ⟨rfl, h1⟩
                  rw [cntF_add _ _ _ _ (by omega) (by omega), HD.out, cnt_cons] at h1
                  exact ⟨rfl, s, nO, hs.ref h1⟩
                clear HL
                go_wp2_with fail
                go_region_with (go_at_call 11; refine H11.mono ?_; rintro e w5 ⟨rfl, H5⟩)
                all_goals (
                  clear H11 HQ v0 v1 p0 HD HY
                  go_wp2_with fail
                  go_roundw
                  case rel => exact ⟨q + 1, by omega, by go_num, H5⟩
                  case measure => simp [intOf]; omega)
              · have H5 : Hid (Tz w wr ot rb wb rt eb ib vb x2 (k + k) (fun _ => 0) k L ta tc) := by
                  have := HQ.out
                  have hqk : q = k := by omega
                  subst hqk
                  rw [List.drop_of_length_le (by rw [HR2.out.1]; exact Nat.le_refl _), cnt_nil] at this
                  exact this
                have hqI : ¬ (q : Int) < (k : Int) := by omega
                clear HQ v0 v1
                have H9 : Hid (∀ W, Hid (Tz w W ot rb wb rt eb ib vb x2 (k + k) (fun _ => 0) k L ta tc) → Calls Try.prog 9 #[.pointer (some ⟨ot, 0, none⟩), .agg #[.int .i64 0, .int .i64 x2]] W fun e w' => ∃ p r, e = .returned (.slice p 0 r) ∧ Hid (Tz w w' ot rb wb rt eb ib vb x2 (k + k) (fun _ => 0) k L ta tc)) := fun W hW => by
                  obtain ⟨s, nO, hs⟩ := hW.out
                  refine (Ow.o14 _ ot rb wb nO s _ _ (0, x2) W hs.ow HX.out.2).mono ?_
                  rintro e w' ⟨rfl, h1, h2, h3⟩
                  rw [oneM_set] at h1
                  have e1 : oneM x2 [] (0, x2) = [] := by simp [oneM]
                  have hl := h3.len
                  rw [e1] at hl
                  exact ⟨_, _, by rw [← hl]; rfl, _, _, hs.tb h1 h2⟩
                have H10 : Hid (∀ W, Hid (Tz w W ot rb wb rt eb ib vb x2 (k + k) (fun _ => 0) k L ta tc) → Calls Try.prog 10 #[.pointer (some ⟨rt, 0, none⟩), .agg #[.int .i64 0, .int .i64 x2]] W fun e w' => e = .returned (.bool false) ∧ Hid (Tz w w' ot rb wb rt eb ib vb x2 (k + k) (fun _ => 0) k L ta tc)) := fun W hW => by
                  obtain ⟨s, nO, hs⟩ := hW.out
                  refine (r20 _ rt eb ib (k + k) 0 4 _ _ (0, x2) W hs.rf HX.out.1 (by omega)).mono ?_
                  rintro e w' ⟨rfl, h1⟩
                  have e1 : expB (cntF (0, x2) fun _ => 0) 4 (0, x2) = false := by rw [exp_cnt _ _ rfl]; rfl
                  rw [e1]
                  exact ⟨rfl, s, nO, hs.below h1⟩
                have H12 : Hid (∀ W, Hid (Tz w W ot rb wb rt eb ib vb x2 (k + k) (fun _ => 0) k L ta tc) → Calls Try.prog 12 #[.pointer (some ⟨rt, 0, none⟩)] W fun e w' => ∃ p r, e = .returned (.slice p 0 r) ∧ Hid (Tz w w' ot rb wb rt eb ib vb x2 (k + k) (fun _ => 0) k L ta tc)) := fun W hW => by
                  obtain ⟨s, nO, hs⟩ := hW.out
                  have hr := hs.rf
                  rw [cntF_zero] at hr
                  refine (r18 _ rt eb ib _ 0 4 _ _ ((0, x2), 0) W hr (fun _ _ _ => rfl) ⟨HX.out.1, HX.out.1.1⟩).mono ?_
                  rintro e w' ⟨p, r, z, rfl, h1⟩
                  obtain rfl := rise_none h1 rfl
                  exact ⟨p, z, rfl, s, nO, hs.below h1.2⟩
                have hml : (m.length : Int) ≤ 3 := by omega
                have hmk : ((0 : Int) < (m.length : Int) ∧ (0 : Int) < (k : Int)) ∨ (m.length = 0 ∧ k = 0) := by
                  obtain ⟨q1, q2, q3, q4⟩ := HR2.out
                  by_cases e : L = []
                  · have e2 := q3.2 e
                    subst e; subst e2
                    exact .inr ⟨rfl, q1.symm⟩
                  · have e2 : ¬ m = [] := fun h => e (q3.1 h)
                    have := List.length_pos_iff.2 e
                    have := List.length_pos_iff.2 e2
                    exact .inl ⟨by omega, by omega⟩
                generalize m.length = ml at *
                rcases hmk with ⟨hm1, hm2⟩ | ⟨rfl, rfl⟩
                all_goals (first
                  | (exfalso; omega)
                  | (obtain ⟨v0, v1⟩ := H5.out.cells
                     go_wp2_with fail
                     refine (H9.out _ H5).mono ?_
                     rintro e w6 ⟨p, r, rfl, H6⟩
                     clear v0 v1
                     obtain ⟨v0, v1⟩ := H6.out.cells
                     go_wp2_with fail
                     refine (H10.out _ H6).mono ?_
                     rintro e w7 ⟨rfl, H7⟩
                     clear v0 v1
                     go_wp2_with fail
                     refine (H12.out _ H7).mono ?_
                     rintro e w8 ⟨p', r', rfl, H8⟩
                     go_wp2_with fail
                     go_ret
                     exact ⟨rfl, H8.out.elim fun s h1 => h1.elim fun nO h2 => h2.bel⟩)))
end Go.Proofs.Ytkpbmnaghepddab
