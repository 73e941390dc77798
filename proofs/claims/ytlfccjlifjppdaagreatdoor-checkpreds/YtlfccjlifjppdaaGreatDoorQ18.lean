/- Contracts of the reference's small looks: IsSum, simple, call. A row of predicates, new or not, and row.add of one predicate that lies in a block of its own. Contract of called. A program in memory; contract of Calls. Contracts of the law's own helpers: local, of. Contracts of IndexFunc and ContainsFunc over rows of terms, at a predicate that may make memory. -/
import Derived.Test.YtlfccjlifjppdaaGreatDoorQ17
import Derived.Test.YtlfccjlifjppdaaGreatDoorQ11
import Derived.Test.YtlfccjlifjppdaaGreatDoorQ15
namespace Go.Proofs.YtlfccjlifjppdaaGreatDoor
open Go.RowKit
def simpleS (l : List C) : Bool := (headC l).k != 3
set_option maxRecDepth 100000 in
theorem k31 (l : List C) (v : Value) (w : World) (h : TermAt w v l) (h1 : 0 < l.length) :
    Calls Tryz.prog 94 #[v] w fun e w' => e = .returned (.bool (simpleS l)) ∧ Below w.heap.size w w' := by
  have HS : Hid (simpleS l = (l[0].k != 3)) := by
    show simpleS l = _
    unfold simpleS; rw [headC_get h1]
  obtain ⟨⟨hc, htx⟩, h⟩ := h
  rcases h with ⟨rfl, _⟩ | ⟨b, o, cap, rfl, h2, h5, h3, h4⟩
  · simp at h1
  · obtain ⟨p0, p1, p2, p3, p4⟩ := term_cells h3 0 h1
    simp only [Nat.zero_mul, Nat.add_zero] at p0 p1 p2 p3 p4
    have h1' : (0 : Int) < (l.length : Int) := by omega
    generalize l[0] = c at *
    go_enter Tryz.func94, Tryz.ntmps94
    go_wp2_with fail
    go_ret
    exact ⟨by rw [HS.out]; rfl, Below.refl _ _⟩
/-- Is a right term a call? -/
def callS (l : List C) : Bool := ((headC l).k == 2 && !((headC l).t.toList == [116, 114, 117, 101])) || ((headC l).k == 3 && isNameB (headC l).t.data.toList)
set_option maxRecDepth 100000 in
theorem k51 (l : List C) (v : Value) (w : World) (h : TermAt w v l) (h1 : 0 < l.length) :
    Calls Tryz.prog 84 #[v] w fun e w' => e = .returned (.bool (callS l)) ∧ Below w.heap.size w w' := by
  have HC : Hid (callS l = ((l[0].k == 2 && !(l[0].t.toList == [116, 114, 117, 101])) || (l[0].k == 3 && isNameB l[0].t.data.toList))) := by
    show callS l = _
    unfold callS; rw [headC_get h1]
  obtain ⟨⟨hc, htx⟩, h⟩ := h
  rcases h with ⟨rfl, _⟩ | ⟨b, o, cap, rfl, h2, h5, h3, h4⟩
  · simp at h1
  · obtain ⟨p0, p1, p2, p3, p4⟩ := term_cells h3 0 h1
    simp only [Nat.zero_mul, Nat.add_zero] at p0 p1 p2 p3 p4
    have h1' : (0 : Int) < (l.length : Int) := by omega
    have ht := htx l[0] (List.getElem_mem h1)
    have H60 := fun w => c40 l[0].t w ht
    generalize l[0] = c at *
    generalize isNameB c.t.data.toList = nm at *
    cases k2 : (c.k == 2)
    · cases k3 : (c.k == 3)
      · rw [k2, k3] at HC
        go_enter Tryz.func84, Tryz.ntmps84
        go_wp2_with fail
        go_ret
        exact ⟨by rw [HC.out]; rfl, Below.refl _ _⟩
      · rw [k2, k3] at HC
        go_enter Tryz.func84, Tryz.ntmps84
        go_wp2_with fail
        refine (H60 _).mono ?_
        rintro e w' ⟨rfl, hw'⟩
        obtain rfl := hw'.symm
        go_wp2_with fail
        go_ret
        exact ⟨by rw [HC.out]; simp, Below.refl _ _⟩
    · have k3 : (c.k == 3) = false := by
        have := eq_of_beq k2
        rw [this]; rfl
      cases kt : (c.t.toList == [116, 114, 117, 101])
      · rw [k2, k3, kt] at HC
        go_enter Tryz.func84, Tryz.ntmps84
        go_wp2_with fail
        go_ret
        exact ⟨by rw [HC.out]; rfl, Below.refl _ _⟩
      · rw [k2, k3, kt] at HC
        go_enter Tryz.func84, Tryz.ntmps84
        go_wp2_with fail
        go_ret
        exact ⟨by rw [HC.out]; rfl, Below.refl _ _⟩
end Go.Proofs.YtlfccjlifjppdaaGreatDoor
namespace Go.Proofs.YtlfccjlifjppdaaGreatDoor
open Go.RowKit
def RowAny (w : World) (base R : Nat) (acc : List Pd) : Prop :=
  (acc = [] ∧ w.heap[R]? = some (.cells #[.slice none 0 0, .map none] 90 (0, 0)) ∧ base ≤ R) ∨ ∃ m lv, RowSt w base R m lv acc
theorem RowSt.below {w w' : World} {base R m : Nat} {lv : Value} {acc : List Pd} (h : RowSt w base R m lv acc) (hb : Below w.heap.size w w') : RowSt w' base R m lv acc := by
  obtain ⟨h1, h2, h3, h4, h5, h6⟩ := h
  refine ⟨(hb.block R (Array.getElem?_eq_some_iff.1 h1).1).trans h1, h2, h3, ⟨h4.1, ?_⟩, ?_, h6⟩
  · rcases h4.2 with h | ⟨g, c, cur, e1, e2, e3, e4⟩
    · exact .inl h
    · exact .inr ⟨g, c, cur, e1, e2, (hb.block g (Array.getElem?_eq_some_iff.1 e3).1).trans e3, e4⟩
  · obtain ⟨es, ck, hh, h⟩ := h5
    exact ⟨es, ck, (hb.block m (Array.getElem?_eq_some_iff.1 hh).1).trans hh, h⟩
theorem RowAny.below {w w' : World} {base R : Nat} {acc : List Pd} (h : RowAny w base R acc) (hb : Below w.heap.size w w') : RowAny w' base R acc := by
  rcases h with ⟨h1, h2, h3⟩ | ⟨m, lv, h⟩
  · exact .inl ⟨h1, (hb.block R (Array.getElem?_eq_some_iff.1 h2).1).trans h2, h3⟩
  · exact .inr ⟨m, lv, h.below hb⟩
theorem RowAny.lt {w : World} {base R : Nat} {acc : List Pd} (h : RowAny w base R acc) : R < w.heap.size := by
  rcases h with ⟨_, h2, _⟩ | ⟨m, lv, h⟩
  · exact (Array.getElem?_eq_some_iff.1 h2).1
  · exact (Array.getElem?_eq_some_iff.1 h.1).1
theorem RowAny.cell {w : World} {base R : Nat} {acc : List Pd} (h : RowAny w base R acc) : ∃ lv, w.cell? ⟨R, 0, none⟩ = some lv ∧ w.ownsRow base 61 2 lv acc.length (flatP acc) := by
  rcases h with ⟨rfl, h2, _⟩ | ⟨m, lv, h⟩
  · exact ⟨.slice none 0 0, by rw [cell_of_row w R 0 _ 90 (0, 0) h2]; rfl, World.ownsRow_nil _ _ _ _⟩
  · exact ⟨lv, h.cells.1, h.2.2.2.1⟩
theorem k39_one (x : Pd) (acc : List Pd) (base R : Nat) (w : World) (h : RowAny w base R acc) (hx : wfP x) (hn : acc.length + 1 ≤ 5864062014805) (hbase : base ≤ w.heap.size) :
    Calls Tryz.prog 39 #[.pointer (some ⟨R, 0, none⟩), .slice (some ⟨w.heap.size, 0, none⟩) 1 1] (w.alloc (.cells #[.string x.1, .int .i64 x.2] 61)) fun e w' => e = .returned (.tuple #[]) ∧ RowAny w' base R (addP acc x) ∧ Below base w w' := by
  have hr : (w.alloc (.cells #[.string x.1, .int .i64 x.2] 61)).rangeAt w.heap.size 0 (flatP [x]) := range_new w (flatP [x]) 61
  have hb : w.heap.size < (w.alloc (.cells #[.string x.1, .int .i64 x.2] 61)).heap.size := by simp
  have hxs : ∀ y ∈ [x], wfP y := fun y hy => by simp at hy; rw [hy]; exact hx
  have hbs : base ≤ (w.alloc (.cells #[.string x.1, .int .i64 x.2] 61)).heap.size := by omega
  have hB : Below base w (w.alloc (.cells #[.string x.1, .int .i64 x.2] 61)) := (Below.refl base w).alloc hbase _
  have hRl := h.lt
  rcases h with ⟨rfl, h2, h3⟩ | ⟨m, lv, h⟩
  · refine (k39_new [x] base R w.heap.size 0 1 _ (by rw [heap_alloc_old w _ hRl]; exact h2) h3 hr hb (by omega) hxs (by simp) hbs).mono ?_
    rintro e w' ⟨rfl, ⟨m, lv, hS⟩, hb'⟩
    exact ⟨rfl, .inr ⟨m, lv, hS⟩, hB.trans hb'⟩
  · have hml : m < w.heap.size := by
      obtain ⟨es, ck, hh, _⟩ := h.2.2.2.2.1
      exact (Array.getElem?_eq_some_iff.1 hh).1
    have hlb : lv.ownBlock ≠ some w.heap.size := fun e => by
      have := (h.2.2.2.1.lt _ e).2
      omega
    refine (k39_on [x] acc lv base R m w.heap.size 0 1 _ (h.alloc _) hr hb (by omega) (by omega) hlb hxs (by simpa using hn) hbs).mono ?_
    rintro e w' ⟨rfl, ⟨lv', hS⟩, hb'⟩
    exact ⟨rfl, .inr ⟨m, lv', hS⟩, hB.trans hb'⟩
def callT (l : List C) : List C := if (headC l).t.toList == [64] then leftL l else l
def callB (l : List C) : Bool := rightB l && (hasNameS (callT l) && !isTrueS (callT l))
def predsOf (ls : List (List C)) : List Pd := (ls.filter callB).map fun l => predS (callT l)
def calledS (ls : List (List C)) : List Pd := (predsOf ls).foldl addP []
theorem calledS_yes (ls : List (List C)) (k : Nat) (hk : k < ls.length) (h : callB ls[k] = true) : calledS (ls.take (k + 1)) = addP (calledS (ls.take k)) (predS (callT ls[k])) := by
  unfold calledS predsOf
  rw [List.take_succ_eq_append_getElem hk, List.filter_append, List.map_append, List.foldl_append]
  simp [h]
theorem calledS_no (ls : List (List C)) (k : Nat) (hk : k < ls.length) (h : callB ls[k] = false) : calledS (ls.take (k + 1)) = calledS (ls.take k) := by
  unfold calledS predsOf
  rw [List.take_succ_eq_append_getElem hk, List.filter_append]
  simp [h]
end Go.Proofs.YtlfccjlifjppdaaGreatDoor
namespace Go.Proofs.YtlfccjlifjppdaaGreatDoor
open Go.RowKit
theorem predS_wf {w : World} {v : Value} {t : List C} (h : TermAt w v t) (hr : rightB t = true) (hn : hasNameS t = true) : wfP (predS t) := by
  have h1 : 0 < t.length := (right_len hr).1
  have hok := right_cell hr _ (List.getElem_mem h1)
  have ht := h.1.2 _ (List.getElem_mem h1)
  have hk : t[0].k = 2 ∨ t[0].k = 3 := by
    match t, h1, hn with
    | c :: r, _, hn =>
      simp [hasNameS] at hn
      exact hn.1
  unfold predS
  rw [headC_get h1]
  generalize t[0] = c at *
  rcases hk with hk | hk
  · rw [hk]; exact ⟨ht, rfl⟩
  · rw [hk]
    refine ⟨ht, ?_⟩
    have hb : 1 ≤ c.n ∧ c.n ≤ 8 := by
      rcases ok_struct hok hk with h | h <;> omega
    show (Lit.int .i64 c.n).wf = true
    have h8 : c.n = 1 ∨ c.n = 2 ∨ c.n = 3 ∨ c.n = 4 ∨ c.n = 5 ∨ c.n = 6 ∨ c.n = 7 ∨ c.n = 8 := by omega
    rcases h8 with h | h | h | h | h | h | h | h <;> rw [h] <;> rfl
set_option maxRecDepth 100000 in
set_option maxHeartbeats 4000000 in
theorem k38 (ls : List (List C)) (v : Value) (w : World) (hR : RowAt w v ls) (hS : Signs w) (hl : ls.length ≤ 5864062014805) :
    Calls Tryz.prog 44 #[v] w fun e w' => ∃ u, e = .returned u ∧ w'.ownsRow w.heap.size 61 2 u (calledS ls).length (flatP (calledS ls)) ∧ Below w.heap.size w w' := by
  have HRow : Hid (RowAt w v ls) := hR
  have HSg : Hid (Signs w) := hS
  obtain ⟨ad, cap, hv⟩ := hR.form
  subst hv
  have HI0 : Hid (RowAny (w.alloc (.cells #[.slice none 0 0, .map none] 90)) w.heap.size w.heap.size (calledS (ls.take 0))) := .inl ⟨rfl, heap_alloc_new w _, Nat.le_refl _⟩
  have HB0 : Hid (Below w.heap.size w (w.alloc (.cells #[.slice none 0 0, .map none] 90))) := (Below.refl _ w).alloc (Nat.le_refl _) _
  clear hR hS
  go_enter Tryz.func44, Tryz.ntmps44
  go_wp2_with fail
  go_loopw [8] (fun i wr => ∃ k : Nat, k ≤ ls.length ∧ i = .int .i64 k ∧ Hid (RowAny wr w.heap.size w.heap.size (calledS (ls.take k))) ∧ Below w.heap.size w wr) (fun i _ => ls.length - (intOf i).toNat)
  case atStart => exact ⟨0, by omega, rfl, HI0, HB0.out⟩
  case round =>
    obtain ⟨k, hk, rfl, HI, hbr⟩ := hrel
    have hsz := hbr.size
    by_cases hlt : k < ls.length
    · have hlt' : (k : Int) < (ls.length : Int) := by omega
      have hk0 : (0 : Int) ≤ (k : Int) := by omega
      obtain ⟨b, o, cap', x, hv', hc, ht, hbw⟩ := row_at (HRow.out.below hbr) k hlt
      simp only [Value.slice.injEq] at hv'
      obtain ⟨rfl, _, rfl⟩ := hv'
      have hlen : (calledS (ls.take k)).length ≤ k := by
        unfold calledS predsOf
        refine Nat.le_trans (foldP_len _ _) ?_
        rw [List.length_map]
        have := List.length_filter_le callB (ls.take k)
        rw [List.length_take] at this
        simp; omega
      have HY := calledS_yes ls k hlt
      have HN := calledS_no ls k hlt
      have H24 := c22 ls[k] x wr ht (HSg.out.below hbr)
      have HT : Hid (TermAt wr x ls[k]) := ht
      have HY : Hid (callB ls[k] = true → calledS (ls.take (k + 1)) = addP (calledS (ls.take k)) (predS (callT ls[k]))) := HY
      have HN : Hid (callB ls[k] = false → calledS (ls.take (k + 1)) = calledS (ls.take k)) := HN
      clear ht
      generalize ls[k] = l at *
      generalize calledS (ls.take k) = ac at *
      obtain ⟨adx, cpx, hx⟩ := HT.out.form
      cases hr : rightB l
      · rw [hr] at H24
        have HE : Hid (calledS (ls.take (k + 1)) = ac) := HN.out (by unfold callB; rw [hr]; rfl)
        clear HY HN hr
        subst hx
        go_wp2_with fail
        refine H24.mono ?_
        rintro e w1 ⟨rfl, hb1⟩
        go_wp2_with fail
        go_roundw
        case rel => exact ⟨k + 1, by omega, by go_num, by rw [HE.out]; exact HI.out.below hb1, hbr.trans (hb1.mono hsz)⟩
        case measure => simp [intOf]; omega
      · rw [hr] at H24
        have h1 : 0 < l.length := (right_len hr).1
        have HR1 : Hid (rightB l = true) := hr
        have h1' : (0 : Int) < (l.length : Int) := by omega
        have HCL : Hid (∀ W, Below wr.heap.size wr W → ∃ b o cap, x = .slice (some ⟨b, o, none⟩) l.length cap ∧ W.cell? ⟨b, o + 1, none⟩ = some (.string l[0].t)) := fun W hW => by
          obtain ⟨_, h⟩ := HT.out.below hW
          rcases h with ⟨e, _⟩ | ⟨b, o, cap, e, _, _, h3, _⟩
          · rw [e] at h1; simp at h1
          · obtain ⟨p0, p1, p2, p3, p4⟩ := term_cells h3 0 h1
            simp only [Nat.zero_mul, Nat.add_zero] at p0 p1 p2 p3 p4
            exact ⟨b, o, cap, e, p1⟩
        have HCT : Hid (callT l = if l[0].t.toList == [64] then leftL l else l) := by
          show callT l = _
          unfold callT; rw [headC_get h1]
        have HCB : Hid (callB l = (hasNameS (callT l) && !isTrueS (callT l))) := by
          show callB l = _
          unfold callB; rw [hr]; rfl
        have H32 : Hid ((l[0].t.toList == [64]) = true → rightB (leftL l) = true ∧ ∀ W, Below wr.heap.size wr W → Calls Tryz.prog 73 #[x] W fun e w' => ∃ x y, e = .returned (.tuple #[x, y]) ∧ TermAt w' x (leftL l) ∧ TermAt w' y (rightL l) ∧ Below W.heap.size W w') := fun hs => by
          have hs' : isSignB l[0].t.data.toList = true := by
            have : l[0].t.data.toList = [64] := by rw [← ByteArray.toList_eq]; simpa using hs
            rw [this]; decide
          obtain ⟨e1, e2⟩ := sign_cell (right_cell hr _ (List.getElem_mem h1)) hs'
          exact ⟨(left_right hr h1 e1 e2).1, fun W hW => k32 l x W (HT.out.below hW) hr h1 e1 e2⟩
        clear hr
        generalize l[0] = c at *
        cases hq : (c.t.toList == [64])
        · rw [hq] at HCT
          have HCT' : Hid (callT l = l) := HCT.out
          rw [HCT'.out] at HCB HY
          clear H32 HCT HCT' hx
          go_wp2_with fail
          refine H24.mono ?_
          rintro e w1 ⟨rfl, hb1⟩
          obtain ⟨bx, ox, cx, rfl, p1⟩ := HCL.out _ hb1
          have HTt : Hid (TermAt w1 (.slice (some ⟨bx, ox, none⟩) l.length cx) l) := HT.out.below hb1
          have hb1' : Hid (Below w.heap.size w w1) := hbr.trans (hb1.mono hsz)
          have HIt : Hid (RowAny w1 w.heap.size w.heap.size ac) := HI.out.below hb1
          clear HCL
          go_wp2_with fail
          have H50 := k50 l (.slice (some ⟨bx, ox, none⟩) l.length cx) w1 HTt.out
          cases hn : hasNameS l
          · rw [hn] at HCB H50
            have HE : Hid (calledS (ls.take (k + 1)) = ac) := HN.out HCB.out
            clear HY HN
            refine H50.mono ?_
            rintro e w5 ⟨rfl, hb5⟩
            go_wp2_with fail
            go_roundw
            case rel => exact ⟨k + 1, by omega, by go_num, by rw [HE.out]; exact HIt.out.below hb5, hb1'.out.trans (hb5.mono hb1'.out.size)⟩
            case measure => simp [intOf]; omega
          · rw [hn] at HCB H50
            have HWF : Hid (wfP (predS l)) := predS_wf HTt.out HR1.out hn
            have HTb : Hid (∀ W, Below w1.heap.size w1 W → TermAt W (.slice (some ⟨bx, ox, none⟩) l.length cx) l) := fun W hW => HTt.out.below hW
            refine H50.mono ?_
            rintro e w5 ⟨rfl, hb5⟩
            have H29 := k29 l _ w5 (HTb.out _ hb5)
            cases hi : isTrueS l
            · rw [hi] at HCB H29
              have HE : Hid (calledS (ls.take (k + 1)) = addP ac (predS l)) := HY.out HCB.out
              clear HY HN
              go_wp2_with fail
              refine H29.mono ?_
              rintro e w6 ⟨rfl, hb6⟩
              have hb56 := hb5.trans (hb6.mono hb5.size)
              have H55 := k55 l _ w6 (HTb.out _ hb56) (right_len HR1.out).1
              go_wp2_with fail
              refine H55.mono ?_
              rintro e w7 ⟨rfl, hb7⟩
              have hb57 := hb56.trans (hb7.mono hb56.size)
              have hbw7 : Hid (Below w.heap.size w w7) := hb1'.out.trans (hb57.mono hb1'.out.size)
              have H39 := k39_one (predS l) ac w.heap.size w.heap.size w7 (HIt.out.below hb57) HWF.out (by omega) hbw7.out.size
              unfold Pd.val
              go_wp2_with fail
              refine H39.mono ?_
              rintro e w8 ⟨rfl, hA8, hb8⟩
              have HA8 : Hid (RowAny w8 w.heap.size w.heap.size (addP ac (predS l))) := hA8
              clear hA8
              go_wp2_with fail
              go_roundw
              case rel => exact ⟨k + 1, by omega, by go_num, by rw [HE.out]; exact HA8.out, hbw7.out.trans hb8⟩
              case measure => simp [intOf]; omega
            · rw [hi] at HCB H29
              have HE : Hid (calledS (ls.take (k + 1)) = ac) := HN.out HCB.out
              clear HY HN
              go_wp2_with fail
              refine H29.mono ?_
              rintro e w6 ⟨rfl, hb6⟩
              have hb56 := hb5.trans (hb6.mono hb5.size)
              go_wp2_with fail
              go_roundw
              case rel => exact ⟨k + 1, by omega, by go_num, by rw [HE.out]; exact HIt.out.below hb56, hb1'.out.trans (hb56.mono hb1'.out.size)⟩
              case measure => simp [intOf]; omega
        · rw [hq] at HCT
          have HCT' : Hid (callT l = leftL l) := HCT.out
          rw [HCT'.out] at HCB HY
          obtain ⟨hrl, H32'⟩ := H32.out hq
          have HRl : Hid (rightB (leftL l) = true) := hrl
          clear H32 HCT HCT' hx hrl
          go_wp2_with fail
          refine H24.mono ?_
          rintro e w1 ⟨rfl, hb1⟩
          obtain ⟨bx, ox, cx, rfl, p1⟩ := HCL.out _ hb1
          have hb1' : Hid (Below w.heap.size w w1) := hbr.trans (hb1.mono hsz)
          have HIt1 : Hid (RowAny w1 w.heap.size w.heap.size ac) := HI.out.below hb1
          clear HCL
          go_wp2_with fail
          refine (H32' _ hb1).mono ?_
          rintro e w2 ⟨xl, xr, rfl, htl, htr, hb2⟩
          have HTt : Hid (TermAt w2 xl (leftL l)) := htl
          have hb2' : Hid (Below w.heap.size w w2) := hb1'.out.trans (hb2.mono hb1'.out.size)
          have HIt : Hid (RowAny w2 w.heap.size w.heap.size ac) := HIt1.out.below hb2
          obtain ⟨adl, cpl, hxl⟩ := htl.form
          obtain ⟨adr, cpr, hxr⟩ := htr.form
          clear htl htr
          subst hxl hxr
          generalize leftL l = l at *
          go_wp2_with fail
          have H50 := k50 l (.slice adl l.length cpl) w2 HTt.out
          cases hn : hasNameS l
          · rw [hn] at HCB H50
            have HE : Hid (calledS (ls.take (k + 1)) = ac) := HN.out HCB.out
            clear HY HN
            refine H50.mono ?_
            rintro e w5 ⟨rfl, hb5⟩
            go_wp2_with fail
            go_roundw
            case rel => exact ⟨k + 1, by omega, by go_num, by rw [HE.out]; exact HIt.out.below hb5, hb2'.out.trans (hb5.mono hb2'.out.size)⟩
            case measure => simp [intOf]; omega
          · rw [hn] at HCB H50
            have HWF : Hid (wfP (predS l)) := predS_wf HTt.out HRl.out hn
            have HTb : Hid (∀ W, Below w2.heap.size w2 W → TermAt W (.slice adl l.length cpl) l) := fun W hW => HTt.out.below hW
            refine H50.mono ?_
            rintro e w5 ⟨rfl, hb5⟩
            have H29 := k29 l _ w5 (HTb.out _ hb5)
            cases hi : isTrueS l
            · rw [hi] at HCB H29
              have HE : Hid (calledS (ls.take (k + 1)) = addP ac (predS l)) := HY.out HCB.out
              clear HY HN
              go_wp2_with fail
              refine H29.mono ?_
              rintro e w6 ⟨rfl, hb6⟩
              have hb56 := hb5.trans (hb6.mono hb5.size)
              have H55 := k55 l _ w6 (HTb.out _ hb56) (right_len HRl.out).1
              go_wp2_with fail
              refine H55.mono ?_
              rintro e w7 ⟨rfl, hb7⟩
              have hb57 := hb56.trans (hb7.mono hb56.size)
              have hbw7 : Hid (Below w.heap.size w w7) := hb2'.out.trans (hb57.mono hb2'.out.size)
              have H39 := k39_one (predS l) ac w.heap.size w.heap.size w7 (HIt.out.below hb57) HWF.out (by omega) hbw7.out.size
              unfold Pd.val
              go_wp2_with fail
              refine H39.mono ?_
              rintro e w8 ⟨rfl, hA8, hb8⟩
              have HA8 : Hid (RowAny w8 w.heap.size w.heap.size (addP ac (predS l))) := hA8
              clear hA8
              go_wp2_with fail
              go_roundw
              case rel => exact ⟨k + 1, by omega, by go_num, by rw [HE.out]; exact HA8.out, hbw7.out.trans hb8⟩
              case measure => simp [intOf]; omega
            · rw [hi] at HCB H29
              have HE : Hid (calledS (ls.take (k + 1)) = ac) := HN.out HCB.out
              clear HY HN
              go_wp2_with fail
              refine H29.mono ?_
              rintro e w6 ⟨rfl, hb6⟩
              have hb56 := hb5.trans (hb6.mono hb5.size)
              go_wp2_with fail
              go_roundw
              case rel => exact ⟨k + 1, by omega, by go_num, by rw [HE.out]; exact HIt.out.below hb56, hb2'.out.trans (hb56.mono hb2'.out.size)⟩
              case measure => simp [intOf]; omega
    · have hlt' : ¬ ((k : Int) < (ls.length : Int)) := by omega
      have HF : Hid (RowAny wr w.heap.size w.heap.size (calledS ls)) := by
        have h := HI.out
        rw [List.take_of_length_le (by omega)] at h
        exact h
      obtain ⟨lv, hc0, hown⟩ := HF.out.cell
      have HO : Hid (wr.ownsRow w.heap.size 61 2 lv (calledS ls).length (flatP (calledS ls))) := hown
      clear hown
      go_wp2_with fail
      go_ret
      exact ⟨lv, rfl, HO.out, hbr⟩
end Go.Proofs.YtlfccjlifjppdaaGreatDoor
namespace Go.Proofs.YtlfccjlifjppdaaGreatDoor
open Go.RowKit
structure ClV where
  hv : Value
  gv : Value
  bv : Value
  n : Int
def ClV.vals (x : ClV) : List Value := [x.hv, x.gv, x.bv, .int .i64 x.n]
def flatK (l : List ClV) : List Value := l.flatMap ClV.vals
/-- A clause: its head, its guards, its body, its number of variables. -/
structure Cl where
  hd : List C
  gs : List (List C)
  bs : List (List C)
  n : Int
def ClAt (w : World) (x : ClV) (c : Cl) : Prop := TermAt w x.hv c.hd ∧ RowAt w x.gv c.gs ∧ RowAt w x.bv c.bs ∧ x.n = c.n
theorem ClAt.below {w w' : World} {x : ClV} {c : Cl} (h : ClAt w x c) (hb : Below w.heap.size w w') : ClAt w' x c :=
  ⟨h.1.below hb, h.2.1.below hb, h.2.2.1.below hb, h.2.2.2⟩
def ProgAt (w : World) (v : Value) (cs : List Cl) : Prop :=
  cs.length ≤ maxLen ∧ ((cs = [] ∧ ∃ ad : Option Addr, v = .slice ad 0 0) ∨ ∃ (b o cap : Nat) (xs : List ClV), v = .slice (some ⟨b, o, none⟩) cs.length cap ∧ cs.length ≤ cap ∧ cap ≤ maxLen ∧ b < w.heap.size ∧ xs.length = cs.length ∧ w.rangeAt b o (flatK xs) ∧ ∀ (i : Nat) (x : ClV) (c : Cl), xs[i]? = some x → cs[i]? = some c → ClAt w x c)
theorem ProgAt.below {w w' : World} {v : Value} {cs : List Cl} (h : ProgAt w v cs) (hb : Below w.heap.size w w') : ProgAt w' v cs := by
  obtain ⟨h0, h⟩ := h
  refine ⟨h0, ?_⟩
  rcases h with h | ⟨b, o, cap, xs, h1, h2, h3, h4, h5, h6, h7⟩
  · exact .inl h
  · exact .inr ⟨b, o, cap, xs, h1, h2, h3, Nat.lt_of_lt_of_le h4 hb.size, h5, range_below h6 h4 hb, fun i x c e1 e2 => (h7 i x c e1 e2).below hb⟩
theorem ProgAt.form {w : World} {v : Value} {cs : List Cl} (h : ProgAt w v cs) : ∃ (ad : Option Addr) (cap : Nat), v = .slice ad cs.length cap := by
  rcases h.2 with ⟨rfl, ad, rfl⟩ | ⟨b, o, cap, xs, rfl, _⟩
  · exact ⟨ad, 0, rfl⟩
  · exact ⟨_, _, rfl⟩
theorem flatK_get (l : List ClV) (i j : Nat) (hi : i < l.length) (hj : j < 4) : (flatK l)[4 * i + j]? = (l[i].vals)[j]? := by
  induction l generalizing i with
  | nil => simp at hi
  | cons a r ih =>
    cases i with
    | zero =>
      have : j < a.vals.length := by simp [ClV.vals]; omega
      simp [flatK, List.getElem?_append_left, this]
    | succ i =>
      have e : 4 * (i + 1) + j = a.vals.length + (4 * i + j) := by simp [ClV.vals]; omega
      show (a.vals ++ flatK r)[4 * (i + 1) + j]? = _
      rw [e, List.getElem?_append_right (by omega), Nat.add_sub_cancel_left, ih i (by simp at hi; omega)]
      rfl
theorem prog_at {w : World} {v : Value} {cs : List Cl} (h : ProgAt w v cs) (i : Nat) (hi : i < cs.length) : ∃ b o cap x, v = .slice (some ⟨b, o, none⟩) cs.length cap ∧ (w.cell? ⟨b, o + i * 4, none⟩ = some x.hv ∧ w.cell? ⟨b, o + i * 4 + 1, none⟩ = some x.gv ∧ w.cell? ⟨b, o + i * 4 + 2, none⟩ = some x.bv ∧ w.cell? ⟨b, o + i * 4 + 3, none⟩ = some (.int .i64 x.n)) ∧ ClAt w x cs[i] ∧ b < w.heap.size := by
  rcases h.2 with ⟨rfl, _⟩ | ⟨b, o, cap, xs, h1, h2, h3, h4, h5, h6, h7⟩
  · simp at hi
  · have hx : i < xs.length := by omega
    have g : ∀ j v, j < 4 → (xs[i].vals)[j]? = some v → w.cell? ⟨b, o + i * 4 + j, none⟩ = some v := fun j v hj hv => by
      have := h6 (4 * i + j) v ((flatK_get xs i j hx hj).trans hv)
      rwa [show o + (4 * i + j) = o + i * 4 + j by omega] at this
    exact ⟨b, o, cap, xs[i], h1, ⟨g 0 _ (by omega) rfl, g 1 _ (by omega) rfl, g 2 _ (by omega) rfl, g 3 _ (by omega) rfl⟩, h7 i _ _ (List.getElem?_eq_getElem hx) (List.getElem?_eq_getElem hi), h4⟩
def callsS (cs : List Cl) (i : Int) : List Pd := if 0 ≤ i then (match cs[i.toNat]? with | some c => calledS c.bs | none => []) else []
set_option maxRecDepth 100000 in
set_option maxHeartbeats 1000000 in
theorem k16 (cs : List Cl) (v : Value) (i : Int) (w : World) (h : ProgAt w v cs) (hS : Signs w) (hl : ∀ c ∈ cs, c.bs.length ≤ 5864062014805) :
    Calls Tryz.prog 20 #[v, .int .i64 i] w fun e w' => ∃ u, e = .returned u ∧ w'.ownsRow w.heap.size 61 2 u (callsS cs i).length (flatP (callsS cs i)) ∧ Below w.heap.size w w' := by
  have HP : Hid (ProgAt w v cs) := h
  by_cases hi : 0 ≤ i ∧ i < (cs.length : Int)
  · obtain ⟨h0, h1⟩ := hi
    have hlt : i.toNat < cs.length := by omega
    obtain ⟨b, o, cap, x, hv, ⟨p0, p1, p2, p3⟩, ⟨_, _, hb, _⟩, hbw⟩ := prog_at HP.out i.toNat hlt
    have H38 := k38 cs[i.toNat].bs x.bv w hb hS (hl _ (List.getElem_mem hlt))
    have HC : Hid (callsS cs i = calledS cs[i.toNat].bs) := by
      show callsS cs i = _
      unfold callsS; rw [if_pos h0, List.getElem?_eq_getElem hlt]
    rw [HC.out]
    generalize cs[i.toNat].bs = bs at *
    have hn : i = (i.toNat : Int) := by omega
    generalize i.toNat = k at *
    subst hn hv
    have q0 : ((k : Int) < 0) = False := by simp
    have q1 : ¬ ((cs.length : Int) ≤ (k : Int)) := by omega
    clear h HP hl HC hb
    go_enter Tryz.func20, Tryz.ntmps20
    go_wp2_with fail
    refine H38.mono ?_
    rintro e w1 ⟨u, rfl, hO, hb1⟩
    have HO : Hid (w1.ownsRow w.heap.size 61 2 u (calledS bs).length (flatP (calledS bs))) := hO
    clear hO
    go_wp2_with fail
    go_ret
    exact ⟨u, rfl, HO.out, hb1⟩
  · have HC : Hid (callsS cs i = []) := by
      show callsS cs i = _
      unfold callsS
      split
      · rw [List.getElem?_eq_none (by omega)]
      · rfl
    rw [HC.out]
    obtain ⟨ad, cap, hv⟩ := h.form
    subst hv
    clear HP h hl HC
    by_cases h0 : i < 0
    · go_enter Tryz.func20, Tryz.ntmps20
      go_wp2_with fail
      go_ret
      exact ⟨_, rfl, World.ownsRow_nil _ _ _ _, Below.refl _ _⟩
    · have h1 : (cs.length : Int) ≤ i := by omega
      clear hi
      go_enter Tryz.func20, Tryz.ntmps20
      go_wp2_with fail
      go_ret
      exact ⟨_, rfl, World.ownsRow_nil _ _ _ _, Below.refl _ _⟩
end Go.Proofs.YtlfccjlifjppdaaGreatDoor
namespace Go.Proofs.YtlfccjlifjppdaaGreatDoor
open Go.RowKit
def localC (k : Int) : C := ⟨4, ⟨#[]⟩, 0, -1, k⟩
theorem own_one (w : World) (c : C) : OwnT (w.alloc (.cells #[.int .u8 c.k, .string c.t, .int .i64 c.n, .int .i64 c.vn, .int .i64 c.vk] 82)) w.heap.size (.slice (some ⟨w.heap.size, 0, none⟩) 1 1) [c] := by
  refine ⟨by rw [flat_length]; rfl, .inr ⟨w.heap.size, 1, _, rfl, Nat.le_refl _, heap_alloc_new w _, Nat.le_refl _, by unfold maxLen; omega, rfl, rfl⟩⟩
set_option maxRecDepth 100000 in
theorem k23 (k : Int) (w : World) :
    Calls Tryz.prog 33 #[.int .i64 k] w fun e w' => ∃ u, e = .returned u ∧ OwnT w' w.heap.size u [localC k] ∧ Below w.heap.size w w' := by
  have H := own_one w (localC k)
  have HO : Hid (OwnT (w.alloc (.cells #[.int .u8 4, .string ⟨#[]⟩, .int .i64 0, .int .i64 (-1), .int .i64 k] 82)) w.heap.size (.slice (some ⟨w.heap.size, 0, none⟩) 1 1) [localC k]) := H
  clear H
  go_enter Tryz.func33, Tryz.ntmps33
  go_wp2_with fail
  go_ret
  exact ⟨_, rfl, HO.out, (Below.refl _ _).alloc (Nat.le_refl _) _⟩
def ofL (text : ByteArray) (ls : List (List C)) (n : Int) : List C := ⟨3, text, n, 0, 0⟩ :: ls.flatten
theorem flatten_take_le (ls : List (List C)) (k : Nat) : (ls.take k).flatten.length ≤ ls.flatten.length := by
  have h : ls.flatten = (ls.take k).flatten ++ (ls.drop k).flatten := by rw [← List.flatten_append, List.take_append_drop]
  rw [h, List.length_append]; omega
set_option maxRecDepth 100000 in
set_option maxHeartbeats 2000000 in
theorem k22 (text : ByteArray) (ls : List (List C)) (v : Value) (w : World) (hR : RowAt w v ls) (hne : ∀ l ∈ ls, 0 < l.length) (hT : ls.flatten.length ≤ 100000) (hls : ls.length ≤ 100000) :
    Calls Tryz.prog 32 #[.string text, v] w fun e w' => ∃ u, e = .returned u ∧ OwnT w' w.heap.size u (ofL text ls ls.length) ∧ Below w.heap.size w w' := by
  have HRow : Hid (RowAt w v ls) := hR
  have HNe : Hid (∀ l ∈ ls, 0 < l.length) := hne
  obtain ⟨ad, cap, hv⟩ := hR.form
  subst hv
  obtain ⟨i0, hi, hz, hs, hby⟩ := info60
  have HO : Hid (OwnT (w.alloc (.cells #[.int .u8 3, .string text, .int .i64 (ls.length : Nat), .int .i64 0, .int .i64 0] 82)) w.heap.size (.slice (some ⟨w.heap.size, 0, none⟩) 1 1) (ofL text (ls.take 0) ls.length)) := own_one w ⟨3, text, ls.length, 0, 0⟩
  clear hR hne
  go_enter Tryz.func32, Tryz.ntmps32
  go_wp2_with fail
  go_loopw [5, 6] (fun t i wr => ∃ k : Nat, k ≤ ls.length ∧ i = .int .i64 k ∧ Hid (OwnT wr w.heap.size t (ofL text (ls.take k) ls.length)) ∧ Below w.heap.size w wr) (fun _ i _ => ls.length - (intOf i).toNat)
  case atStart => exact ⟨0, by omega, rfl, HO, (Below.refl _ _).alloc (Nat.le_refl _) _⟩
  case round =>
    obtain ⟨k, hk, rfl, HI, hbr⟩ := hrel
    have hsz := hbr.size
    by_cases hlt : k < ls.length
    · have hlt' : (k : Int) < (ls.length : Int) := by omega
      have hk0 : (0 : Int) ≤ (k : Int) := by omega
      obtain ⟨b, o, cap', x, hv', hc, ht, hbw⟩ := row_at (HRow.out.below hbr) k hlt
      simp only [Value.slice.injEq] at hv'
      obtain ⟨rfl, _, rfl⟩ := hv'
      have hpos := HNe.out ls[k] (List.getElem_mem hlt)
      obtain ⟨_, ht⟩ := ht
      rcases ht with ⟨e, _⟩ | ⟨bk, ok, ck, rfl, _, _, hrk, _⟩
      · rw [e] at hpos; simp at hpos
      have hfk : (ls.take (k + 1)).flatten = (ls.take k).flatten ++ ls[k] := by
        rw [List.take_succ_eq_append_getElem hlt, List.flatten_append]; simp
      have hle := flatten_take_le ls (k + 1)
      rw [hfk, List.length_append] at hle
      have HF : Hid (ofL text (ls.take (k + 1)) ls.length = ofL text (ls.take k) ls.length ++ ls[k]) := by
        show ofL text (ls.take (k + 1)) ls.length = _
        unfold ofL; rw [hfk]; rfl
      have hol : (ofL text (ls.take k) ls.length).length = 1 + (ls.take k).flatten.length := by unfold ofL; simp; omega
      have hHN : Hid (∀ j u, (flat ls[k])[j]? = some u → wr.cell? ((⟨bk, ok, none⟩ : Addr).add j) = some u) := fun j u hu => by rw [Addr.add_mid]; exact hrk j u hu
      have hlen : Hid ((flat ls[k]).length = ls[k].length * 5) := by
        show (flat ls[k]).length = ls[k].length * 5
        rw [flat_length]; omega
      generalize (ls.take k).flatten.length = tl at *
      have HOwn : Hid (wr.ownsRow w.heap.size 82 5 u5 (ofL text (ls.take k) ls.length).length (flat (ofL text (ls.take k) ls.length))) := HI.out
      generalize ofL text (ls.take k) ls.length = pre at *
      generalize ls[k] = l at *
      clear hrk hfk
      go_wp2_with (at_builtin; refine wpList_append_own _ rfl _ _ 64 rfl w.heap.size 82 i0 zero60 5 48 Tryz.underlying64 hi hz hs hby rfl (by decide) _ _ _ rfl HOwn.out ⟨bk, ok, none⟩ l.length ck (flat l) rfl hlen.out hHN.out (flat_one _) (by unfold maxLen; omega) (by omega) hsz ?_)
      intro v' w' hown' hgrow hnil
      have HN : Hid (OwnT w' w.heap.size v' (ofL text (ls.take (k + 1)) ls.length)) := by
        show w'.ownsRow w.heap.size 82 5 v' _ _
        rw [HF.out, List.length_append, flat_append, hol]; exact hown'
      have hbr' : Below w.heap.size w w' := hbr.grown hgrow hsz (fun g hg => (HOwn.out.lt g hg).1)
      clear hgrow hnil hown'
      go_wp2_with fail
      go_roundw
      case rel => exact ⟨k + 1, by omega, by go_num, HN, hbr'⟩
      case measure => simp [intOf]; omega
    · have hlt' : ¬ ((k : Int) < (ls.length : Int)) := by omega
      have HF : Hid (OwnT wr w.heap.size u5 (ofL text ls ls.length)) := by
        have h := HI.out
        rw [List.take_of_length_le (by omega)] at h
        exact h
      go_wp2_with fail
      go_ret
      exact ⟨_, rfl, HF.out, hbr⟩
end Go.Proofs.YtlfccjlifjppdaaGreatDoor
namespace Go.Proofs.YtlfccjlifjppdaaGreatDoor
open Go.RowKit
def idxS (p : List C → Bool) (ls : List (List C)) : Int := match ls.findIdx? p with | some i => (i : Int) | none => -1
def noneUpto (p : List C → Bool) (ls : List (List C)) (k : Nat) : Prop := ∀ j (h : j < ls.length), j < k → p ls[j] = false
theorem idxS_at (p : List C → Bool) (ls : List (List C)) (k : Nat) (hk : k < ls.length) (h : noneUpto p ls k) (hp : p ls[k] = true) : idxS p ls = (k : Int) := by
  unfold idxS
  have : ls.findIdx? p = some k := by
    rw [List.findIdx?_eq_some_iff_getElem]
    exact ⟨hk, hp, fun j hj => by simp [h j (by omega) hj]⟩
  rw [this]
theorem idxS_none (p : List C → Bool) (ls : List (List C)) (h : noneUpto p ls ls.length) : idxS p ls = -1 := by
  unfold idxS
  have : ls.findIdx? p = none := by
    rw [List.findIdx?_eq_none_iff]
    intro x hx
    obtain ⟨j, hj, rfl⟩ := List.getElem_of_mem hx
    exact h j hj hj
  rw [this]
set_option maxRecDepth 100000 in
set_option maxHeartbeats 1000000 in
theorem k94 (g : Nat) (lb : Array Value) (eg : ∀ args w, (callFunc g args).run Tryz.prog w = .ok (.enter g args) w) (p : List C → Bool) (ls : List (List C)) (v : Value) (w : World) (hR : RowAt w v ls) (hl : ls.length ≤ 5864062014805)
    (hp : ∀ W x l, Below w.heap.size w W → l ∈ ls → TermAt W x l → Calls Tryz.prog g (#[x] ++ lb) W fun e w' => e = .returned (.bool (p l)) ∧ Below W.heap.size W w') :
    Calls Tryz.prog 90 #[v, .func (.func g) #[] lb] w fun e w' => e = .returned (.int .i64 (idxS p ls)) ∧ Below w.heap.size w w' := by
  have HRow : Hid (RowAt w v ls) := hR
  have HP : Hid (∀ W x l, Below w.heap.size w W → l ∈ ls → TermAt W x l → Calls Tryz.prog g (#[x] ++ lb) W fun e w' => e = .returned (.bool (p l)) ∧ Below W.heap.size W w') := hp
  obtain ⟨ad, cap, hv⟩ := hR.form
  subst hv
  clear hR hp
  go_enter Tryz.func90, Tryz.ntmps90
  go_wp2_with fail
  go_loopw [8] (fun i wr => ∃ k : Nat, k ≤ ls.length ∧ i = .int .i64 k ∧ Hid (noneUpto p ls k) ∧ Below w.heap.size w wr) (fun i _ => ls.length - (intOf i).toNat)
  case atStart => exact ⟨0, by omega, rfl, fun j _ hj => by omega, Below.refl _ _⟩
  case round =>
    obtain ⟨k, hk, rfl, HI, hbr⟩ := hrel
    have hsz := hbr.size
    by_cases hlt : k < ls.length
    · have hlt' : (k : Int) < (ls.length : Int) := by omega
      have hk0 : (0 : Int) ≤ (k : Int) := by omega
      obtain ⟨b, o, cap', x, hv', hc, ht, hbw⟩ := row_at (HRow.out.below hbr) k hlt
      simp only [Value.slice.injEq] at hv'
      obtain ⟨rfl, _, rfl⟩ := hv'
      have HC := HP.out wr x ls[k] hbr (List.getElem_mem hlt) ht
      clear ht
      cases hq : p ls[k]
      · rw [hq] at HC
        have HN : Hid (noneUpto p ls (k + 1)) := fun j hj h => if e : j = k then by subst e; exact hq else HI.out j hj (by omega)
        clear hq
        go_wp2_with fail
        refine HC.mono ?_
        rintro e w1 ⟨rfl, hb1⟩
        go_wp2_with fail
        go_roundw
        case rel => exact ⟨k + 1, by omega, by go_num, HN, hbr.trans (hb1.mono hsz)⟩
        case measure => simp [intOf]; omega
      · rw [hq] at HC
        have HN : Hid (idxS p ls = (k : Int)) := idxS_at p ls k hlt HI.out hq
        clear hq
        go_wp2_with fail
        refine HC.mono ?_
        rintro e w1 ⟨rfl, hb1⟩
        go_wp2_with fail
        go_ret
        exact ⟨by rw [HN.out]; rfl, hbr.trans (hb1.mono hsz)⟩
    · have hlt' : ¬ ((k : Int) < (ls.length : Int)) := by omega
      have HN : Hid (idxS p ls = -1) := idxS_none p ls (fun j hj _ => HI.out j hj (by omega))
      go_wp2_with fail
      go_ret
      exact ⟨by rw [HN.out]; rfl, hbr⟩
theorem idxS_any (p : List C → Bool) (ls : List (List C)) : decide ((0 : Int) ≤ idxS p ls) = ls.any p := by
  unfold idxS
  cases h : ls.findIdx? p with
  | none =>
    have h' := List.findIdx?_eq_none_iff.1 h
    have : ls.any p = false := by
      rw [List.any_eq_false]
      intro x hx
      simp [h' x hx]
    rw [this]; rfl
  | some i =>
    obtain ⟨hi, hp, _⟩ := List.findIdx?_eq_some_iff_getElem.1 h
    have : ls.any p = true := List.any_eq_true.2 ⟨ls[i], List.getElem_mem hi, hp⟩
    rw [this]; simp
set_option maxRecDepth 100000 in
set_option maxHeartbeats 1000000 in
theorem k69 (g : Nat) (lb : Array Value) (eg : ∀ args w, (callFunc g args).run Tryz.prog w = .ok (.enter g args) w) (p : List C → Bool) (ls : List (List C)) (v : Value) (w : World) (hR : RowAt w v ls) (hl : ls.length ≤ 5864062014805)
    (hp : ∀ W x l, Below w.heap.size w W → l ∈ ls → TermAt W x l → Calls Tryz.prog g (#[x] ++ lb) W fun e w' => e = .returned (.bool (p l)) ∧ Below W.heap.size W w') :
    Calls Tryz.prog 58 #[v, .func (.func g) #[] lb] w fun e w' => e = .returned (.bool (ls.any p)) ∧ Below w.heap.size w w' := by
  have H94 := k94 g lb eg p ls v w hR hl hp
  have HE : Hid (decide ((0 : Int) ≤ idxS p ls) = ls.any p) := idxS_any p ls
  obtain ⟨ad, cap, hv⟩ := hR.form
  subst hv
  clear hR hp eg
  generalize idxS p ls = i at *
  go_enter Tryz.func58, Tryz.ntmps58
  go_wp2_with fail
  refine H94.mono ?_
  rintro e w1 ⟨rfl, hb1⟩
  go_wp2_with fail
  go_ret
  exact ⟨by rw [← HE.out]; rfl, hb1⟩
end Go.Proofs.YtlfccjlifjppdaaGreatDoor
