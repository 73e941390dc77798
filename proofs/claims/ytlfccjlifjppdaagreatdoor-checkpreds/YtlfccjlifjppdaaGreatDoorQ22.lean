/- Contracts of the reference's isHead, twice, bad, within. Contracts of the reference's of, with, called. Contracts of the reference's goal and IsGoal. The contract of the reference's goal, where a place may stand. Goals: the two ways to tell one agree; the reference's IsGoal. Contract of the reference's called. -/
import Derived.Test.YtlfccjlifjppdaaGreatDoorQ21
import Derived.Test.YtlfccjlifjppdaaGreatDoorQ20
import Derived.Maps.AppendAt
import Derived.Test.YtlfccjlifjppdaaGreatDoorQ18
namespace Go.Proofs.YtlfccjlifjppdaaGreatDoor
open Go.RowKit
attribute [local go_sem ↓] Go.wp_at_zero Go.wp_at_succ
set_option maxRecDepth 100000 in
theorem z41 (l : List C) (v : Value) (w : World) (h : TermAt w v l) :
    Calls Tryz.prog 41 #[v] w fun e w' => e = .returned (.bool (hasNameS l)) ∧ Below w.heap.size w w' := by
  obtain ⟨⟨hc, htx⟩, h⟩ := h
  rcases h with ⟨rfl, ad, rfl⟩ | ⟨b, o, cap, rfl, h2, h5, h3, h4⟩
  · go_enter Tryz.func41, Tryz.ntmps41
    go_wp2_with fail
    go_ret
    exact ⟨rfl, Below.refl _ _⟩
  · cases l with
    | nil =>
      go_enter Tryz.func41, Tryz.ntmps41
      go_wp2_with fail
      go_ret
      exact ⟨rfl, Below.refl _ _⟩
    | cons c r =>
      obtain ⟨p0, p1, p2, p3, p4⟩ := term_cells h3 0 (by simp)
      simp only [Nat.zero_mul, Nat.add_zero, List.getElem_cons_zero] at p0 p1 p2 p3 p4
      have ht := htx c List.mem_cons_self
      have H81 := fun w => c40 c.t w ht
      have HH : Hid (hasNameS (c :: r) = ((c.k == 2 || c.k == 3) && isNameB c.t.data.toList)) := rfl
      have hl2 : (0 : Int) < ((c :: r).length : Int) := by simp
      generalize isNameB c.t.data.toList = nm at *
      generalize (c :: r).length = n at *
      cases hk2 : (c.k == 2)
      · cases hk3 : (c.k == 3)
        · rw [hk2, hk3] at HH
          go_enter Tryz.func41, Tryz.ntmps41
          go_wp2_with fail
          go_ret
          exact ⟨by rw [HH.out]; rfl, Below.refl _ _⟩
        · rw [hk2, hk3] at HH
          go_enter Tryz.func41, Tryz.ntmps41
          go_wp2_with fail
          refine (H81 _).mono ?_
          rintro e w' ⟨rfl, hw'⟩
          obtain rfl := hw'.symm
          go_wp2_with fail
          go_ret
          exact ⟨by rw [HH.out]; cases nm <;> rfl, Below.refl _ _⟩
      · have hk3 : (c.k == 3) = false := by
          have : c.k = 2 := by simpa using hk2
          rw [this]; rfl
        rw [hk2, hk3] at HH
        cases nm
        · go_enter Tryz.func41, Tryz.ntmps41
          go_wp2_with fail
          refine (H81 _).mono ?_
          rintro e w' ⟨rfl, hw'⟩
          obtain rfl := hw'.symm
          go_wp2_with fail
          go_ret
          exact ⟨by rw [HH.out]; rfl, Below.refl _ _⟩
        · go_enter Tryz.func41, Tryz.ntmps41
          go_wp2_with fail
          refine (H81 _).mono ?_
          rintro e w' ⟨rfl, hw'⟩
          obtain rfl := hw'.symm
          go_wp2_with fail
          go_ret
          exact ⟨by rw [HH.out]; rfl, Below.refl _ _⟩
def twiceS (l : List C) : Bool := (((varsOf l).length : Int) != ((nubN (varsOf l)).length : Int))
set_option maxRecDepth 100000 in
set_option maxHeartbeats 1000000 in
theorem z66 (l : List C) (v : Value) (w : World) (h : TermAt w v l) (hL : l.length ≤ 1000000000000) :
    Calls Tryz.prog 66 #[v] w fun e w' => e = .returned (.bool (twiceS l)) ∧ Below w.heap.size w w' := by
  have HT : Hid (TermAt w v l) := h
  have HK : Hid (twiceS l = (((varsOf l).length : Int) != ((nubN (varsOf l)).length : Int))) := rfl
  obtain ⟨ad, cap, hv⟩ := h.form
  subst hv
  clear h
  go_enter Tryz.func66, Tryz.ntmps66
  go_wp2_with fail
  go_loopw [3, 4] (fun n i wr => ∃ k : Nat, k ≤ l.length ∧ i = .int .i64 k ∧ n = .int .i64 ((varsOf (l.take k)).length : Nat) ∧ Below w.heap.size w wr) (fun _ i _ => l.length - (intOf i).toNat)
  case atStart => exact ⟨0, by omega, rfl, by simp [varsOf], Below.refl _ _⟩
  case round =>
    obtain ⟨k, hk, rfl, rfl, hbr⟩ := hrel
    by_cases hlt : k < l.length
    · have hlt' : (k : Int) < (l.length : Int) := by omega
      have hk0 : (0 : Int) ≤ (k : Int) := by omega
      rcases (HT.out.below hbr).2 with ⟨hn, _⟩ | ⟨b, o, cp, hf, _, _, h3, h4⟩
      · rw [hn] at hlt; simp at hlt
      simp only [Value.slice.injEq] at hf
      obtain ⟨rfl, _, rfl⟩ := hf
      obtain ⟨p0, p1, p2, p3, p4⟩ := term_cells h3 k hlt
      have hvl : (varsOf (l.take k)).length ≤ 1000000000000 := by
        unfold varsOf
        rw [List.length_map]
        exact Nat.le_trans (List.length_filter_le _ _) (by rw [List.length_take]; omega)
      clear h3
      cases hq : (l[k].k == 4)
      · have HS : Hid (varsOf (l.take (k + 1)) = varsOf (l.take k)) := varsOf_snoc_no l k hlt hq
        generalize varsOf (l.take k) = vs at *
        go_wp2_with fail
        go_roundw
        case rel => exact ⟨k + 1, by omega, by go_num, by rw [HS.out], hbr⟩
        case measure => simp [intOf]; omega
      · have HS : Hid (varsOf (l.take (k + 1)) = varsOf (l.take k) ++ [(l[k].vn, l[k].vk)]) := varsOf_snoc_yes l k hlt hq
        generalize varsOf (l.take k) = vs at *
        go_wp2_with fail
        go_roundw
        case rel => exact ⟨k + 1, by omega, by go_num, by rw [HS.out]; simp, hbr⟩
        case measure => simp [intOf]; omega
    · have hlt' : ¬ ((k : Int) < (l.length : Int)) := by omega
      rw [List.take_of_length_le (by omega)]
      have H70 := c42 l _ wr (HT.out.below hbr) hL
      go_wp2_with fail
      refine H70.mono ?_
      rintro e w1 ⟨u, rfl, hO, hb1⟩
      obtain ⟨au, cu, hu⟩ := owns_form hO
      subst hu
      clear hO
      go_wp2_with fail
      go_ret
      exact ⟨by rw [HK.out]; rfl, hbr.trans (hb1.mono hbr.size)⟩
set_option maxRecDepth 100000 in
set_option maxHeartbeats 1000000 in
theorem z67 (n : Int) (l : List C) (v : Value) (w : World) (h : TermAt w v l) :
    Calls Tryz.prog 67 #[v, .int .i64 n] w fun e w' => e = .returned (.bool (wrongS n l)) ∧ Below w.heap.size w w' := by
  have HT : Hid (TermAt w v l) := h
  have HK : Hid (wrongS n l = (!rightB l || (nubN (varsOf l)).any (foreignS n))) := rfl
  have H82 := c23 l v w h
  obtain ⟨ad, cap, hv⟩ := h.form
  subst hv
  clear h
  cases hr : rightB l
  · rw [hr] at HK H82
    go_enter Tryz.func67, Tryz.ntmps67
    go_wp2_with fail
    refine H82.mono ?_
    rintro e w1 ⟨rfl, hb1⟩
    go_wp2_with fail
    go_ret
    exact ⟨by rw [HK.out]; rfl, hb1⟩
  · rw [hr] at HK H82
    have hL := (right_len hr).2
    have hvl : (nubN (varsOf l)).length ≤ 256 := by
      refine Nat.le_trans (nubN_len _) ?_
      unfold varsOf
      rw [List.length_map]
      exact Nat.le_trans (List.length_filter_le _ _) hL
    clear hr
    go_enter Tryz.func67, Tryz.ntmps67
    go_wp2_with fail
    refine H82.mono ?_
    rintro e w1 ⟨rfl, hb1⟩
    have H70 := c42 l _ w1 (HT.out.below hb1) (by omega)
    clear H82
    go_wp2_with fail
    refine H70.mono ?_
    rintro e w2 ⟨u, rfl, hO, hb2⟩
    have hN : NamesAt w2 u (nubN (varsOf l)) := namesAt_of_owns hO (by unfold maxLen; omega)
    have HB2 : Hid (Below w.heap.size w w2) := hb1.trans (hb2.mono hb1.size)
    clear hO H70
    generalize nubN (varsOf l) = ns at *
    have HN : Hid (NamesAt w2 u ns) := hN
    obtain ⟨au, cu, hu⟩ := hN.form
    subst hu
    clear hN
    go_wp2_with fail
    go_loopw [6] (fun i wr => ∃ k : Nat, k ≤ ns.length ∧ i = .int .i64 k ∧ Hid (noneA (foreignS n) ns k) ∧ Below w2.heap.size w2 wr) (fun i _ => ns.length - (intOf i).toNat)
    case atStart => exact ⟨0, by omega, rfl, fun j _ hj => by omega, Below.refl _ _⟩
    case round =>
      obtain ⟨k, hk, rfl, HI, hbr⟩ := hrel
      by_cases hlt : k < ns.length
      · have hlt' : (k : Int) < (ns.length : Int) := by omega
        have hk0 : (0 : Int) ≤ (k : Int) := by omega
        obtain ⟨b, o, cp, hf, p0, p1⟩ := names_at (HN.out.below hbr) k hlt
        simp only [Value.slice.injEq] at hf
        obtain ⟨rfl, _, rfl⟩ := hf
        have HE : Hid (foreignS n ns[k] = ((ns[k].1 != -1) || decide (n ≤ ns[k].2))) := rfl
        cases hq : foreignS n ns[k]
        · have HN2 : Hid (noneA (foreignS n) ns (k + 1)) := fun j hj h => if e : j = k then by subst e; exact hq else HI.out j hj (by omega)
          rw [HE.out, Bool.or_eq_false_iff] at hq
          obtain ⟨q1, q2⟩ := hq
          have q3 : ¬ (n ≤ ns[k].2) := by simpa using q2
          clear q2 HE
          generalize ns[k] = y at *
          go_wp2_with fail
          go_roundw
          case rel => exact ⟨k + 1, by omega, by go_num, HN2, hbr⟩
          case measure => simp [intOf]; omega
        · have HN2 : Hid (ns.any (foreignS n) = true) := List.any_eq_true.2 ⟨ns[k], List.getElem_mem hlt, hq⟩
          rw [HE.out] at hq
          clear HE
          generalize ns[k] = y at *
          cases q1 : (y.1 != -1)
          · have q3 : n ≤ y.2 := by rw [q1] at hq; simpa using hq
            clear hq
            go_wp2_with fail
            go_ret
            exact ⟨by rw [HK.out, HN2.out]; rfl, HB2.out.trans (hbr.mono HB2.out.size)⟩
          · clear hq
            go_wp2_with fail
            go_ret
            exact ⟨by rw [HK.out, HN2.out]; rfl, HB2.out.trans (hbr.mono HB2.out.size)⟩
      · have hlt' : ¬ ((k : Int) < (ns.length : Int)) := by omega
        have HN2 : Hid (ns.any (foreignS n) = false) := by
          show ns.any (foreignS n) = false
          rw [List.any_eq_false]
          intro y hy
          obtain ⟨j, hj, rfl⟩ := List.getElem_of_mem hy
          have := HI.out j hj (by omega)
          simpa using this
        go_wp2_with fail
        go_ret
        exact ⟨by rw [HK.out, HN2.out]; rfl, HB2.out.trans (hbr.mono HB2.out.size)⟩
set_option maxRecDepth 100000 in
set_option maxHeartbeats 1000000 in
theorem z69 (g hd : List C) (v vn : Value) (w : World) (h : TermAt w v g) (hN0 : NamesAt w vn (nubN (varsOf hd))) (hL : g.length ≤ 256) :
    Calls Tryz.prog 69 #[v, vn] w fun e w' => e = .returned (.bool (!moreS g hd)) ∧ Below w.heap.size w w' := by
  have HT : Hid (TermAt w v g) := h
  have HN0 : Hid (NamesAt w vn (nubN (varsOf hd))) := hN0
  have HK : Hid (moreS g hd = (nubN (varsOf g)).any fun v => !hasN (nubN (varsOf hd)) v) := rfl
  have H70 := c42 g v w h (by omega)
  have hvl : (nubN (varsOf g)).length ≤ 256 := by
    refine Nat.le_trans (nubN_len _) ?_
    unfold varsOf
    rw [List.length_map]
    exact Nat.le_trans (List.length_filter_le _ _) hL
  obtain ⟨ad, cap, hv⟩ := h.form
  obtain ⟨adn, capn, hvn⟩ := hN0.form
  subst hv hvn
  generalize nubN (varsOf hd) = hs at *
  clear h hN0
  go_enter Tryz.func69, Tryz.ntmps69
  go_wp2_with fail
  refine H70.mono ?_
  rintro e w2 ⟨u, rfl, hO, hb2⟩
  have hN : NamesAt w2 u (nubN (varsOf g)) := namesAt_of_owns hO (by unfold maxLen; omega)
  have HB2 : Hid (Below w.heap.size w w2) := hb2
  clear hO H70
  generalize nubN (varsOf g) = ns at *
  have HN : Hid (NamesAt w2 u ns) := hN
  obtain ⟨au, cu, hu⟩ := hN.form
  subst hu
  clear hN
  go_wp2_with fail
  go_loopw [6] (fun i wr => ∃ k : Nat, k ≤ ns.length ∧ i = .int .i64 k ∧ Hid (noneA (fun v => !hasN hs v) ns k) ∧ Below w2.heap.size w2 wr) (fun i _ => ns.length - (intOf i).toNat)
  case atStart => exact ⟨0, by omega, rfl, fun j _ hj => by omega, Below.refl _ _⟩
  case round =>
    obtain ⟨k, hk, rfl, HI, hbr⟩ := hrel
    by_cases hlt : k < ns.length
    · have hlt' : (k : Int) < (ns.length : Int) := by omega
      have hk0 : (0 : Int) ≤ (k : Int) := by omega
      obtain ⟨b, o, cp, hf, p0, p1⟩ := names_at (HN.out.below hbr) k hlt
      simp only [Value.slice.injEq] at hf
      obtain ⟨rfl, _, rfl⟩ := hf
      have HBr : Hid (Below w.heap.size w wr) := HB2.out.trans (hbr.mono HB2.out.size)
      have H96 := c43 hs _ ns[k] wr (HN0.out.below HBr.out)
      cases hq : hasN hs ns[k]
      · have HN2 : Hid ((ns.any fun v => !hasN hs v) = true) := List.any_eq_true.2 ⟨ns[k], List.getElem_mem hlt, by rw [hq]; rfl⟩
        rw [hq] at H96
        clear hq
        generalize ns[k] = y at *
        go_wp2_with fail
        refine H96.mono ?_
        rintro e w3 ⟨rfl, hb3⟩
        go_wp2_with fail
        go_ret
        exact ⟨by rw [HK.out, HN2.out]; rfl, HBr.out.trans (hb3.mono HBr.out.size)⟩
      · have HN2 : Hid (noneA (fun v => !hasN hs v) ns (k + 1)) := fun j hj h => if e : j = k then by subst e; simp [hq] else HI.out j hj (by omega)
        rw [hq] at H96
        clear hq
        generalize ns[k] = y at *
        go_wp2_with fail
        refine H96.mono ?_
        rintro e w3 ⟨rfl, hb3⟩
        go_wp2_with fail
        go_roundw
        case rel => exact ⟨k + 1, by omega, by go_num, HN2, hbr.trans (hb3.mono hbr.size)⟩
        case measure => simp [intOf]; omega
    · have hlt' : ¬ ((k : Int) < (ns.length : Int)) := by omega
      have HN2 : Hid ((ns.any fun v => !hasN hs v) = false) := by
        show (ns.any fun v => !hasN hs v) = false
        rw [List.any_eq_false]
        intro y hy
        obtain ⟨j, hj, rfl⟩ := List.getElem_of_mem hy
        have := HI.out j hj (by omega)
        simpa using this
      go_wp2_with fail
      go_ret
      exact ⟨by rw [HK.out, HN2.out]; rfl, HB2.out.trans (hbr.mono HB2.out.size)⟩
end Go.Proofs.YtlfccjlifjppdaaGreatDoor
namespace Go.Proofs.YtlfccjlifjppdaaGreatDoor
open Go.RowKit
attribute [local go_sem ↓] Go.wp_at_zero Go.wp_at_succ
set_option maxRecDepth 100000 in
theorem z43 (l : List C) (v : Value) (w : World) (h : TermAt w v l) (h1 : 0 < l.length) (hk23 : l[0].k = 2 ∨ l[0].k = 3) :
    Calls Tryz.prog 43 #[v] w fun e w' => e = .returned (.agg #[.string (predS l).1, .int .i64 (predS l).2]) ∧ Below w.heap.size w w' := by
  have HP : Hid (predS l = if l[0].k == 2 then (l[0].t, (0 : Int)) else (l[0].t, l[0].n)) := by
    show predS l = _
    unfold predS; rw [headC_get h1]
  obtain ⟨⟨hc, htx⟩, h⟩ := h
  rcases h with ⟨rfl, _⟩ | ⟨b, o, cap, rfl, h2, h5, h3, h4⟩
  · simp at h1
  · obtain ⟨p0, p1, p2, p3, p4⟩ := term_cells h3 0 h1
    simp only [Nat.zero_mul, Nat.add_zero] at p0 p1 p2 p3 p4
    have h1' : (0 : Int) < (l.length : Int) := by omega
    generalize l[0] = c at *
    have hB : ∀ (o : Obj), Hid (Below w.heap.size w (w.alloc o)) := fun o => (Below.refl _ _).alloc (Nat.le_refl _) o
    have q0 : ∀ ob : Obj, (w.alloc ob).cell? ⟨b, o, none⟩ = some (.int .u8 c.k) := fun ob => ((hB ob).out.cell (p := ⟨b, o, none⟩) h4).trans p0
    have q1 : ∀ ob : Obj, (w.alloc ob).cell? ⟨b, o + 1, none⟩ = some (.string c.t) := fun ob => ((hB ob).out.cell (p := ⟨b, o + 1, none⟩) h4).trans p1
    have q2 : ∀ ob : Obj, (w.alloc ob).cell? ⟨b, o + 2, none⟩ = some (.int .i64 c.n) := fun ob => ((hB ob).out.cell (p := ⟨b, o + 2, none⟩) h4).trans p2
    have hbz : b ≠ w.heap.size := by omega
    rcases hk23 with hk | hk
    · have hk3 : (c.k == 3) = false := by rw [hk]; rfl
      rw [hk] at HP
      go_enter Tryz.func43, Tryz.ntmps43
      go_wp2_with fail
      exact bodyPost_ret (v := .agg #[.string c.t, .int .i64 0]) (by simp [results, Tryz.results43, go_sem]) rfl ⟨by rw [HP.out]; rfl, by first | exact (hB _).out | exact ((hB _).out.setCell (by simp) _).setCell (by simp) _⟩
    · have hk3 : (c.k == 3) = true := by rw [hk]; rfl
      rw [hk] at HP
      go_enter Tryz.func43, Tryz.ntmps43
      go_wp2_with fail
      go_region
      go_wp2_with fail
      exact bodyPost_ret (v := .agg #[.string c.t, .int .i64 c.n]) (by simp [results, Tryz.results43, go_sem]) rfl ⟨by rw [HP.out]; rfl, (hB _).out.drew⟩
theorem eql87 (a : ByteArray) (b : Int) (c : ByteArray) (d : Int) (w : World) :
    (binOp .eql 87 (.agg #[.string a, .int .i64 b]) (.agg #[.string c, .int .i64 d])).run Tryz.prog w = .ok (.bool (a.toList == c.toList && b == d)) w := by
  cases h1 : (a.toList == c.toList) <;> cases h2 : (b == d) <;> go_simp
theorem info87 : ∃ i, Tryz.prog.info? 87 = some i ∧ i.zero = some (.agg #[.string ⟨#[]⟩, .int .i64 0]) ∧ i.size = 2 ∧ i.bytes = 24 := by
  have h : (Tryz.prog.info? 87).map (fun i => (i.zero, i.size, i.bytes)) = some (some (.agg #[.string ⟨#[]⟩, .int .i64 0]), 2, 24) := by kernel_rfl
  cases hq : Tryz.prog.info? 87 with
  | none => rw [hq] at h; cases h
  | some i =>
    rw [hq] at h
    simp only [Option.map_some, Option.some.injEq, Prod.mk.injEq] at h
    exact ⟨i, rfl, h.1, h.2.1, h.2.2⟩
theorem predsAt_of_owns87 {w : World} {base : Nat} {v : Value} {l : List Pd} (h : w.ownsRow base 87 2 v l.length (flatP l)) (hl : l.length ≤ maxLen) : PredsAt w v l := by
  refine ⟨hl, ?_⟩
  rcases h.2 with ⟨h1, h2⟩ | ⟨g, cap, cur, h1, h2, h3, h4, h5, h6, h7⟩
  · exact Or.inl ⟨List.eq_nil_of_length_eq_zero h2, none, h1⟩
  · exact Or.inr ⟨g, 0, cap, h1, range_of_owns h3 h7, (Array.getElem?_eq_some_iff.1 h3).1⟩
/-- A row of the reference's predicates that with has grown. -/
def Grown (w w' : World) (v v' : Value) : Prop := (∀ k, k < w.heap.size → v.ownBlock ≠ some k → w'.heap[k]? = w.heap[k]?) ∧ ∀ k, v'.ownBlock = some k → v.ownBlock = some k ∨ w.heap.size ≤ k
set_option maxRecDepth 100000 in
set_option maxHeartbeats 2000000 in
theorem z42 (xs : List Pd) (x : Pd) (base : Nat) (v : Value) (w : World) (hO : w.ownsRow base 87 2 v xs.length (flatP xs)) (hl : xs.length ≤ 5864062014800) (hbase : base ≤ w.heap.size) :
    Calls Tryz.prog 42 #[v, .agg #[.string x.1, .int .i64 x.2]] w fun e w' => ∃ v', e = .returned v' ∧ w'.ownsRow base 87 2 v' (addP xs x).length (flatP (addP xs x)) ∧ Below base w w' ∧ Grown w w' v v' := by
  have HO : Hid (w.ownsRow base 87 2 v xs.length (flatP xs)) := hO
  have hPr : PredsAt w v xs := predsAt_of_owns87 hO (by unfold maxLen; omega)
  have HPr : Hid (PredsAt w v xs) := hPr
  obtain ⟨i0, hi, hz, hs, hby⟩ := info87
  have HYes : Hid (hasP xs x = true → addP xs x = xs) := fun h => by unfold addP; rw [h]; rfl
  have HNo : Hid (hasP xs x = false → addP xs x = xs ++ [x]) := fun h => by unfold addP; rw [h]; rfl
  have HAny : Hid (hasP xs x = xs.any fun y => eqP y x) := rfl
  obtain ⟨ad, cap, hv⟩ := hPr.form
  subst hv
  clear hPr hO
  obtain ⟨x1, x2⟩ := x
  have HB0 : Hid (Below w.heap.size w (w.alloc (.cells #[.string x1, .int .i64 x2] 87))) := (Below.refl _ w).alloc (Nat.le_refl _) _
  have HBox : Hid (∀ W, Below (w.alloc (.cells #[.string x1, .int .i64 x2] 87)).heap.size (w.alloc (.cells #[.string x1, .int .i64 x2] 87)) W → W.cell? ⟨w.heap.size, 0, none⟩ = some (.string x1) ∧ W.cell? ⟨w.heap.size, 1, none⟩ = some (.int .i64 x2)) := fun W hW => by
    have e1 : W.heap[w.heap.size]? = some (.cells #[.string x1, .int .i64 x2] 87 (0, 0)) := (hW.block w.heap.size (by simp)).trans (heap_alloc_new w _)
    constructor
    · rw [cell_of_row W _ 0 _ 87 (0, 0) e1]; rfl
    · rw [cell_of_row W _ 1 _ 87 (0, 0) e1]; rfl
  go_enter Tryz.func42, Tryz.ntmps42
  go_wp2_with fail
  go_loopw [5] (fun i wr => ∃ k : Nat, k ≤ xs.length ∧ i = .int .i64 k ∧ Hid (noneA (fun y => eqP y (x1, x2)) xs k) ∧ Below (w.heap.size + 1) (w.alloc (.cells #[.string x1, .int .i64 x2] 87)) wr) (fun i _ => xs.length - (intOf i).toNat)
  case atStart => exact ⟨0, by omega, rfl, fun j _ hj => by omega, Below.refl _ _⟩
  case round =>
    obtain ⟨k, hk, rfl, HI, hbr0⟩ := hrel
    have hbr : Below w.heap.size w wr := HB0.out.trans (hbr0.mono (by omega))
    obtain ⟨b0, b1⟩ := HBox.out wr (hbr0.mono (by simp))
    by_cases hlt : k < xs.length
    · have hlt' : (k : Int) < (xs.length : Int) := by omega
      have hk0 : (0 : Int) ≤ (k : Int) := by omega
      obtain ⟨b, o, cap', hv', hc, hc1⟩ := preds_at (HPr.out.below hbr) k hlt
      simp only [Value.slice.injEq] at hv'
      obtain ⟨rfl, _, rfl⟩ := hv'
      have hE := eql87 xs[k].1 xs[k].2 x1 x2
      have HE : Hid ((xs[k].1.toList == x1.toList && xs[k].2 == x2) = eqP xs[k] (x1, x2)) := rfl
      cases hq : eqP xs[k] (x1, x2)
      · rw [HE.out, hq] at hE
        have HN : Hid (noneA (fun y => eqP y (x1, x2)) xs (k + 1)) := fun j hj h => if e : j = k then by subst e; exact hq else HI.out j hj (by omega)
        clear hq HE
        generalize xs[k] = y at *
        go_wp2_with fail
        go_quiet (fail)
        go_wp2_with fail
        go_roundw
        case rel => exact ⟨k + 1, by omega, by go_num, HN, below_dN hbr0 _⟩
        case measure => simp [intOf]; omega
      · rw [HE.out, hq] at hE
        have HN : Hid ((xs.any fun y => eqP y (x1, x2)) = true) := List.any_eq_true.2 ⟨xs[k], List.getElem_mem hlt, hq⟩
        clear hq HE
        generalize xs[k] = y at *
        go_wp2_with fail
        go_quiet (fail)
        go_wp2_with fail
        go_ret
        have hbq := below_dN hbr nq
        refine ⟨_, rfl, ?_, hbq.mono hbase, fun k2 h1 _ => hbq.block k2 h1, fun k2 h1 => .inl h1⟩
        rw [HYes.out (HAny.out.trans HN.out)]
        exact owns_below HO.out hbq
    · have hlt' : ¬ ((k : Int) < (xs.length : Int)) := by omega
      have HN : Hid ((xs.any fun y => eqP y (x1, x2)) = false) := by
        show (xs.any fun y => eqP y (x1, x2)) = false
        rw [List.any_eq_false]
        intro y hy
        obtain ⟨j, hj, rfl⟩ := List.getElem_of_mem hy
        have := HI.out j hj (by omega)
        simpa using this
      have HOa : Hid ((wr.alloc (.cells #[.string x1, .int .i64 x2] 87)).ownsRow base 87 2 (.slice ad xs.length cap) xs.length (flatP xs)) := (owns_below HO.out hbr).alloc _
      have hbra : Below w.heap.size w (wr.alloc (.cells #[.string x1, .int .i64 x2] 87)) := hbr.alloc hbr.size _
      have HNews : Hid (∀ j u, (flatP [(x1, x2)])[j]? = some u → (wr.alloc (.cells #[.string x1, .int .i64 x2] 87)).cell? ((⟨wr.heap.size, 0, none⟩ : Addr).add j) = some u) := fun j u hu => by
        rw [Addr.add_mid]
        exact range_new wr [.string x1, .int .i64 x2] 87 j u hu
      have HOne : Hid (∀ u ∈ flatP [(x1, x2)], u.oneCell' = true) := fun u hu => by
        have h2 : u ∈ [Value.string x1, .int .i64 x2] := hu
        simp at h2
        rcases h2 with rfl | rfl <;> rfl
      have hszr := hbr.size
      have hl1 : xs.length ≤ 5864062014800 := hl
      go_wp2_with (at_builtin; go_loud (refine wpList_append_own_at _ rfl _ _ 41 rfl base 87 i0 (.agg #[.string ⟨#[]⟩, .int .i64 0]) 2 24 Tryz.underlying41 hi hz hs hby rfl (by decide) _ _ _ rfl HOa.out ⟨wr.heap.size, 0, none⟩ 1 1 (flatP [(x1, x2)]) rfl rfl HNews.out HOne.out (by unfold maxLen; omega) (by omega) (by simp; omega) ?_))
      intro v' w' hown hgr _ hloc
      have HF : Hid (w'.ownsRow base 87 2 v' (addP xs (x1, x2)).length (flatP (addP xs (x1, x2))) ∧ Below base w w' ∧ Grown w w' (.slice ad xs.length cap) v') := by
        have hn := HNo.out (HAny.out.trans HN.out)
        refine ⟨?_, (hbra.mono hbase).grown hgr (by simp; omega) (fun g hg => (HO.out.lt g hg).1), fun k2 h1 h2 => ?_, fun k2 h1 => ?_⟩
        · rw [hn, List.length_append, flatP_append]; exact hown
        · exact (hgr.block k2 (by simp; omega) (fun e => h2 e.symm)).trans (hbra.block k2 h1)
        · by_cases hk2 : w.heap.size ≤ k2
          · exact .inr hk2
          · rcases hloc with h | h
            · left; rw [← h]; exact h1
            · rw [h] at h1
              simp at h1
              omega
      clear hown hgr hloc
      go_wp2_with fail
      go_ret
      exact ⟨_, rfl, HF.out.1, HF.out.2.1, HF.out.2.2⟩
end Go.Proofs.YtlfccjlifjppdaaGreatDoor
namespace Go.Proofs.YtlfccjlifjppdaaGreatDoor
open Go.RowKit
def tEq : ByteArray := ⟨#[61]⟩
def tIs : ByteArray := ⟨#[58, 61]⟩
def tAt : ByteArray := ⟨#[64]⟩
def plainG (l : List C) : Bool := isTrueS l || isB l tEq 2 || callS l
def refGoal1 (l : List C) : Bool := plainG l || (isB l tIs 2 && sumAll (rightL l))
def refGoal0 (l : List C) : Bool := plainG l || (bif isB l tIs 2 then sumAll (rightL l) else (isB l tAt 2 && refGoal1 (leftL l) && placeS (headC (rightL l))))
theorem isB_two {l : List C} (s : ByteArray) (h : isB l s 2 = true) : ∃ h1 : 0 < l.length, l[0].k = 3 ∧ l[0].n = 2 ∧ l[0].t.toList = s.toList := by
  match l, h with
  | c :: r, h =>
    refine ⟨by simp, ?_⟩
    rw [isB_get (by simp)] at h
    simp at h
    simp only [List.getElem_cons_zero]
    exact ⟨h.2.1, h.2.2, h.1⟩
set_option maxRecDepth 100000 in
set_option maxHeartbeats 2000000 in
theorem k35t (l : List C) (v : Value) (w : World) (h : TermAt w v l) (hr : rightB l = true) :
    Calls Tryz.prog 98 #[v, .bool true] w fun e w' => e = .returned (.bool (refGoal1 l)) ∧ Below w.heap.size w w' := by
  have h1 : 0 < l.length := (right_len hr).1
  have HT : Hid (TermAt w v l) := h
  have Ht := fun W (hW : Below w.heap.size w W) => c29 l v tTrue 0 W (HT.out.below hW)
  have He := fun W (hW : Below w.heap.size w W) => c29 l v tEq 2 W (HT.out.below hW)
  have Hi := fun W (hW : Below w.heap.size w W) => c29 l v tIs 2 W (HT.out.below hW)
  have Hc := fun W (hW : Below w.heap.size w W) => k51 l v W (HT.out.below hW) h1
  have Ha := fun W (hW : Below w.heap.size w W) => c27 l v W (HT.out.below hW)
  have HG : Hid (refGoal1 l = (isB l tTrue 0 || isB l tEq 2 || callS l || (isB l tIs 2 && sumAll (rightL l)))) := rfl
  have HI : Hid (isB l tIs 2 = true → ∀ W u, RowAt W u (argsL l) → ∃ b o cap x, u = .slice (some ⟨b, o, none⟩) 2 cap ∧ W.cell? ⟨b, o + 1, none⟩ = some x ∧ Calls Tryz.prog 95 #[x] W fun e w' => e = .returned (.bool (sumAll (rightL l))) ∧ Below W.heap.size W w') := fun hh W u hR => by
    obtain ⟨_, e1, e2, _⟩ := isB_two tIs hh
    obtain ⟨m, hm1, hml, he, ha⟩ := two_parts hr h1 e1 e2
    have hlen : (argsL l).length = 2 := by rw [ha]; rfl
    obtain ⟨b, o, cap, x, hu, hc, ht, _⟩ := row_at hR 1 (by omega)
    rw [hlen] at hu
    have hx : (argsL l)[1] = rightL l := by
      unfold rightL
      rw [List.getElem?_eq_getElem (by omega)]; rfl
    rw [hx] at ht
    exact ⟨b, o, cap, x, hu, hc, k27 _ (rightL l) x W (Nat.le_refl _) ht (left_right hr h1 e1 e2).2⟩
  clear hr h
  obtain ⟨adv, cpv, hv⟩ := HT.out.form
  subst hv
  generalize sumAll (rightL l) = sr at *
  generalize callS l = cl at *
  simp only [tTrue, tEq, tIs] at Ht He Hi HI HG
  generalize isB l ⟨#[116, 114, 117, 101]⟩ 0 = b1 at *
  generalize isB l ⟨#[61]⟩ 2 = b2 at *
  generalize isB l ⟨#[58, 61]⟩ 2 = b3 at *
  cases b1
  · cases b2
    · cases cl
      · cases b3
        · go_enter Tryz.func98, Tryz.ntmps98
          go_wp2_with fail
          refine (Ht _ (Below.refl _ _)).mono ?_
          rintro e w' ⟨rfl, hw'⟩
          obtain rfl := hw'.symm
          go_wp2_with fail
          refine (He _ (Below.refl _ _)).mono ?_
          rintro e w' ⟨rfl, hw'⟩
          obtain rfl := hw'.symm
          go_wp2_with fail
          refine (Hc _ (Below.refl _ _)).mono ?_
          rintro e w1 ⟨rfl, hb1⟩
          go_wp2_with fail
          refine (Ha _ hb1).mono ?_
          rintro e w2 ⟨u, rfl, hR, hb2⟩
          have hb2' := hb1.trans (hb2.mono hb1.size)
          go_wp2_with fail
          refine (Hi _ hb2').mono ?_
          rintro e w' ⟨rfl, hw'⟩
          obtain rfl := hw'.symm
          go_wp2_with fail
          go_ret
          exact ⟨by rw [HG.out]; rfl, hb2'⟩
        · go_enter Tryz.func98, Tryz.ntmps98
          go_wp2_with fail
          refine (Ht _ (Below.refl _ _)).mono ?_
          rintro e w' ⟨rfl, hw'⟩
          obtain rfl := hw'.symm
          go_wp2_with fail
          refine (He _ (Below.refl _ _)).mono ?_
          rintro e w' ⟨rfl, hw'⟩
          obtain rfl := hw'.symm
          go_wp2_with fail
          refine (Hc _ (Below.refl _ _)).mono ?_
          rintro e w1 ⟨rfl, hb1⟩
          go_wp2_with fail
          refine (Ha _ hb1).mono ?_
          rintro e w2 ⟨u, rfl, hR, hb2⟩
          have hb2' := hb1.trans (hb2.mono hb1.size)
          obtain ⟨b, o, cap, x, rfl, hcx, H27⟩ := HI.out trivial _ _ hR
          go_wp2_with fail
          refine (Hi _ hb2').mono ?_
          rintro e w' ⟨rfl, hw'⟩
          obtain rfl := hw'.symm
          go_wp2_with fail
          refine H27.mono ?_
          rintro e w3 ⟨rfl, hb3⟩
          go_wp2_with fail
          go_ret
          exact ⟨by rw [HG.out]; rfl, hb2'.trans (hb3.mono hb2'.size)⟩
      · go_enter Tryz.func98, Tryz.ntmps98
        go_wp2_with fail
        refine (Ht _ (Below.refl _ _)).mono ?_
        rintro e w' ⟨rfl, hw'⟩
        obtain rfl := hw'.symm
        go_wp2_with fail
        refine (He _ (Below.refl _ _)).mono ?_
        rintro e w' ⟨rfl, hw'⟩
        obtain rfl := hw'.symm
        go_wp2_with fail
        refine (Hc _ (Below.refl _ _)).mono ?_
        rintro e w1 ⟨rfl, hb1⟩
        go_wp2_with fail
        go_ret
        exact ⟨by rw [HG.out]; rfl, hb1⟩
    · go_enter Tryz.func98, Tryz.ntmps98
      go_wp2_with fail
      refine (Ht _ (Below.refl _ _)).mono ?_
      rintro e w' ⟨rfl, hw'⟩
      obtain rfl := hw'.symm
      go_wp2_with fail
      refine (He _ (Below.refl _ _)).mono ?_
      rintro e w' ⟨rfl, hw'⟩
      obtain rfl := hw'.symm
      go_wp2_with fail
      go_ret
      exact ⟨by rw [HG.out]; rfl, Below.refl _ _⟩
  · go_enter Tryz.func98, Tryz.ntmps98
    go_wp2_with fail
    refine (Ht _ (Below.refl _ _)).mono ?_
    rintro e w' ⟨rfl, hw'⟩
    obtain rfl := hw'.symm
    go_wp2_with fail
    go_ret
    exact ⟨by rw [HG.out]; rfl, Below.refl _ _⟩
end Go.Proofs.YtlfccjlifjppdaaGreatDoor
namespace Go.Proofs.YtlfccjlifjppdaaGreatDoor
open Go.RowKit
set_option maxRecDepth 100000 in
set_option maxHeartbeats 2000000 in
theorem k35f (l : List C) (v : Value) (w : World) (h : TermAt w v l) (hr : rightB l = true) :
    Calls Tryz.prog 98 #[v, .bool false] w fun e w' => e = .returned (.bool (refGoal0 l)) ∧ Below w.heap.size w w' := by
  have h1 : 0 < l.length := (right_len hr).1
  have HT : Hid (TermAt w v l) := h
  have Ht := fun W (hW : Below w.heap.size w W) => c29 l v tTrue 0 W (HT.out.below hW)
  have He := fun W (hW : Below w.heap.size w W) => c29 l v tEq 2 W (HT.out.below hW)
  have Hi := fun W (hW : Below w.heap.size w W) => c29 l v tIs 2 W (HT.out.below hW)
  have Hc := fun W (hW : Below w.heap.size w W) => k51 l v W (HT.out.below hW) h1
  have Ha := fun W (hW : Below w.heap.size w W) => c27 l v W (HT.out.below hW)
  have HG : Hid (refGoal0 l = (isB l tTrue 0 || isB l tEq 2 || callS l || (bif isB l tIs 2 then sumAll (rightL l) else (isB l tAt 2 && refGoal1 (leftL l) && placeS (headC (rightL l)))))) := rfl
  have Hat := fun W (hW : Below w.heap.size w W) => c29 l v tAt 2 W (HT.out.below hW)
  have HAt : Hid (isB l tAt 2 = true → ∀ W u, RowAt W u (argsL l) → ∃ b o cap x y by_ oy cy, u = .slice (some ⟨b, o, none⟩) 2 cap ∧ W.cell? ⟨b, o, none⟩ = some x ∧ (∀ W2, Below W.heap.size W W2 → W2.cell? ⟨b, o + 1, none⟩ = some y) ∧ TermAt W x (leftL l) ∧ y = .slice (some ⟨by_, oy, none⟩) (rightL l).length cy ∧ 0 < (rightL l).length ∧ rightB (leftL l) = true ∧ (∀ W2, Below W.heap.size W W2 → W2.cell? ⟨by_, oy, none⟩ = some (.int .u8 (headC (rightL l)).k) ∧ W2.cell? ⟨by_, oy + 1, none⟩ = some (.string (headC (rightL l)).t) ∧ W2.cell? ⟨by_, oy + 2, none⟩ = some (.int .i64 (headC (rightL l)).n) ∧ W2.cell? ⟨by_, oy + 3, none⟩ = some (.int .i64 (headC (rightL l)).vn) ∧ W2.cell? ⟨by_, oy + 4, none⟩ = some (.int .i64 (headC (rightL l)).vk))) := fun hh W u hR => by
    obtain ⟨_, e1, e2, _⟩ := isB_two tAt hh
    obtain ⟨m, hm1, hml, he, ha⟩ := two_parts hr h1 e1 e2
    have hlen : (argsL l).length = 2 := by rw [ha]; rfl
    obtain ⟨b, o, cap, x, hu, hc, ht, _⟩ := row_at hR 0 (by omega)
    obtain ⟨b', o', cap', y, hu', hc', ht', hb'⟩ := row_at hR 1 (by omega)
    rw [hlen] at hu hu'
    rw [hu] at hu'
    simp only [Value.slice.injEq, Option.some.injEq, Addr.mk.injEq, and_true, true_and] at hu'
    obtain ⟨⟨rfl, rfl⟩, rfl⟩ := hu'
    have hx0 : (argsL l)[0] = leftL l := by
      unfold leftL
      rw [List.getElem?_eq_getElem (by omega)]; rfl
    have hx : (argsL l)[1] = rightL l := by
      unfold rightL
      rw [List.getElem?_eq_getElem (by omega)]; rfl
    rw [hx0] at ht
    rw [hx] at ht'
    have hrr := left_right hr h1 e1 e2
    have hl2 : 0 < (rightL l).length := (right_len hrr.2).1
    rw [Nat.add_zero] at hc
    obtain ⟨_, hty⟩ := ht'
    rcases hty with ⟨e, _⟩ | ⟨by_, oy, cy, ey, _, _, hry, hby⟩
    · rw [e] at hl2; simp at hl2
    refine ⟨b, o, cap, x, y, by_, oy, cy, hu, hc, fun W2 hW2 => (hW2.cell (p := ⟨b, o + 1, none⟩) hb').trans hc', ht, ey, hl2, hrr.1, fun W2 hW2 => ?_⟩
    obtain ⟨p0, p1, p2, p3, p4⟩ := term_cells (range_below hry hby hW2) 0 hl2
    simp only [Nat.zero_mul, Nat.add_zero] at p0 p1 p2 p3 p4
    rw [headC_get hl2]
    exact ⟨p0, p1, p2, p3, p4⟩
  have HI : Hid (isB l tIs 2 = true → ∀ W u, RowAt W u (argsL l) → ∃ b o cap x, u = .slice (some ⟨b, o, none⟩) 2 cap ∧ W.cell? ⟨b, o + 1, none⟩ = some x ∧ Calls Tryz.prog 95 #[x] W fun e w' => e = .returned (.bool (sumAll (rightL l))) ∧ Below W.heap.size W w') := fun hh W u hR => by
    obtain ⟨_, e1, e2, _⟩ := isB_two tIs hh
    obtain ⟨m, hm1, hml, he, ha⟩ := two_parts hr h1 e1 e2
    have hlen : (argsL l).length = 2 := by rw [ha]; rfl
    obtain ⟨b, o, cap, x, hu, hc, ht, _⟩ := row_at hR 1 (by omega)
    rw [hlen] at hu
    have hx : (argsL l)[1] = rightL l := by
      unfold rightL
      rw [List.getElem?_eq_getElem (by omega)]; rfl
    rw [hx] at ht
    exact ⟨b, o, cap, x, hu, hc, k27 _ (rightL l) x W (Nat.le_refl _) ht (left_right hr h1 e1 e2).2⟩
  clear hr h
  obtain ⟨adv, cpv, hv⟩ := HT.out.form
  subst hv
  generalize sumAll (rightL l) = sr at *
  generalize callS l = cl at *
  simp only [tTrue, tEq, tIs, tAt] at Ht He Hi HI HG Hat HAt
  generalize isB l ⟨#[116, 114, 117, 101]⟩ 0 = b1 at *
  generalize isB l ⟨#[61]⟩ 2 = b2 at *
  generalize isB l ⟨#[58, 61]⟩ 2 = b3 at *
  generalize isB l ⟨#[64]⟩ 2 = b4 at *
  cases b1
  · cases b2
    · cases cl
      · cases b3
        · cases b4
          · go_enter Tryz.func98, Tryz.ntmps98
            go_wp2_with fail
            refine (Ht _ (Below.refl _ _)).mono ?_
            rintro e w' ⟨rfl, hw'⟩
            obtain rfl := hw'.symm
            go_wp2_with fail
            refine (He _ (Below.refl _ _)).mono ?_
            rintro e w' ⟨rfl, hw'⟩
            obtain rfl := hw'.symm
            go_wp2_with fail
            refine (Hc _ (Below.refl _ _)).mono ?_
            rintro e w1 ⟨rfl, hb1⟩
            go_wp2_with fail
            refine (Ha _ hb1).mono ?_
            rintro e w2 ⟨u, rfl, hR, hb2⟩
            have hb2' := hb1.trans (hb2.mono hb1.size)
            go_wp2_with fail
            refine (Hi _ hb2').mono ?_
            rintro e w' ⟨rfl, hw'⟩
            obtain rfl := hw'.symm
            go_wp2_with fail
            refine (Hat _ hb2').mono ?_
            rintro e w' ⟨rfl, hw'⟩
            obtain rfl := hw'.symm
            go_wp2_with fail
            go_ret
            exact ⟨by rw [HG.out]; rfl, hb2'⟩
          · go_enter Tryz.func98, Tryz.ntmps98
            go_wp2_with fail
            refine (Ht _ (Below.refl _ _)).mono ?_
            rintro e w' ⟨rfl, hw'⟩
            obtain rfl := hw'.symm
            go_wp2_with fail
            refine (He _ (Below.refl _ _)).mono ?_
            rintro e w' ⟨rfl, hw'⟩
            obtain rfl := hw'.symm
            go_wp2_with fail
            refine (Hc _ (Below.refl _ _)).mono ?_
            rintro e w1 ⟨rfl, hb1⟩
            go_wp2_with fail
            refine (Ha _ hb1).mono ?_
            rintro e w2 ⟨u, rfl, hR, hb2⟩
            have hb2' := hb1.trans (hb2.mono hb1.size)
            obtain ⟨b, o, cap, x, y, by_, oy, cy, rfl, hcx, hcy, htx, hyf, hl2, hrl, hpc⟩ := HAt.out trivial _ _ hR
            have H35 := k35t (leftL l) x w2 htx hrl
            have hl2' : (0 : Int) < ((rightL l).length : Int) := by omega
            have HPC : Hid (∀ W2, Below w2.heap.size w2 W2 → _) := hpc
            have HCY : Hid (∀ W2, Below w2.heap.size w2 W2 → _) := hcy
            clear htx hrl hpc hcy
            subst hyf
            generalize headC (rightL l) = pc at *
            cases hg1 : refGoal1 (leftL l)
            · rw [hg1] at HG H35
              go_wp2_with fail
              refine (Hi _ hb2').mono ?_
              rintro e w' ⟨rfl, hw'⟩
              obtain rfl := hw'.symm
              go_wp2_with fail
              refine (Hat _ hb2').mono ?_
              rintro e w' ⟨rfl, hw'⟩
              obtain rfl := hw'.symm
              go_wp2_with fail
              refine H35.mono ?_
              rintro e w3 ⟨rfl, hb3⟩
              go_wp2_with fail
              go_ret
              exact ⟨by rw [HG.out]; rfl, hb2'.trans (hb3.mono hb2'.size)⟩
            · rw [hg1] at HG H35
              have HP : Hid (placeS pc = ((pc.k == 4) || ((pc.k == 1) && decide (0 ≤ pc.n) && decide (pc.n < 4)))) := rfl
              go_wp2_with fail
              refine (Hi _ hb2').mono ?_
              rintro e w' ⟨rfl, hw'⟩
              obtain rfl := hw'.symm
              go_wp2_with fail
              refine (Hat _ hb2').mono ?_
              rintro e w' ⟨rfl, hw'⟩
              obtain rfl := hw'.symm
              go_wp2_with fail
              refine H35.mono ?_
              rintro e w3 ⟨rfl, hb3⟩
              have hb3' : Hid (Below w.heap.size w w3) := hb2'.trans (hb3.mono hb2'.size)
              have cy1 := HCY.out _ hb3
              obtain ⟨p0, p1, p2, p3, p4⟩ := HPC.out _ hb3
              have hba : ∀ ob : Obj, Hid (Below w.heap.size w (w3.alloc ob)) := fun ob => hb3'.out.alloc hb3'.out.size ob
              cases hk4 : (pc.k == 4)
              · cases hk1 : (pc.k == 1)
                · rw [hk4, hk1] at HP
                  go_wp2_with fail
                  go_ret
                  exact ⟨by rw [HG.out, HP.out]; rfl, (hba _).out⟩
                · rw [hk4, hk1] at HP
                  by_cases g0 : 0 ≤ pc.n
                  · by_cases g4 : pc.n < 4
                    · rw [decide_eq_true g0, decide_eq_true g4] at HP
                      go_wp2_with fail
                      go_ret
                      exact ⟨by rw [HG.out, HP.out]; rfl, (hba _).out⟩
                    · rw [decide_eq_true g0, decide_eq_false g4] at HP
                      go_wp2_with fail
                      go_ret
                      exact ⟨by rw [HG.out, HP.out]; first | rfl | (simp [g4]), (hba _).out⟩
                  · rw [decide_eq_false g0] at HP
                    go_wp2_with fail
                    go_ret
                    exact ⟨by rw [HG.out, HP.out]; rfl, (hba _).out⟩
              · rw [hk4] at HP
                go_wp2_with fail
                go_ret
                exact ⟨by rw [HG.out, HP.out]; rfl, (hba _).out⟩
        · go_enter Tryz.func98, Tryz.ntmps98
          go_wp2_with fail
          refine (Ht _ (Below.refl _ _)).mono ?_
          rintro e w' ⟨rfl, hw'⟩
          obtain rfl := hw'.symm
          go_wp2_with fail
          refine (He _ (Below.refl _ _)).mono ?_
          rintro e w' ⟨rfl, hw'⟩
          obtain rfl := hw'.symm
          go_wp2_with fail
          refine (Hc _ (Below.refl _ _)).mono ?_
          rintro e w1 ⟨rfl, hb1⟩
          go_wp2_with fail
          refine (Ha _ hb1).mono ?_
          rintro e w2 ⟨u, rfl, hR, hb2⟩
          have hb2' := hb1.trans (hb2.mono hb1.size)
          obtain ⟨b, o, cap, x, rfl, hcx, H27⟩ := HI.out trivial _ _ hR
          go_wp2_with fail
          refine (Hi _ hb2').mono ?_
          rintro e w' ⟨rfl, hw'⟩
          obtain rfl := hw'.symm
          go_wp2_with fail
          refine H27.mono ?_
          rintro e w3 ⟨rfl, hb3⟩
          go_wp2_with fail
          go_ret
          exact ⟨by rw [HG.out]; rfl, hb2'.trans (hb3.mono hb2'.size)⟩
      · go_enter Tryz.func98, Tryz.ntmps98
        go_wp2_with fail
        refine (Ht _ (Below.refl _ _)).mono ?_
        rintro e w' ⟨rfl, hw'⟩
        obtain rfl := hw'.symm
        go_wp2_with fail
        refine (He _ (Below.refl _ _)).mono ?_
        rintro e w' ⟨rfl, hw'⟩
        obtain rfl := hw'.symm
        go_wp2_with fail
        refine (Hc _ (Below.refl _ _)).mono ?_
        rintro e w1 ⟨rfl, hb1⟩
        go_wp2_with fail
        go_ret
        exact ⟨by rw [HG.out]; rfl, hb1⟩
    · go_enter Tryz.func98, Tryz.ntmps98
      go_wp2_with fail
      refine (Ht _ (Below.refl _ _)).mono ?_
      rintro e w' ⟨rfl, hw'⟩
      obtain rfl := hw'.symm
      go_wp2_with fail
      refine (He _ (Below.refl _ _)).mono ?_
      rintro e w' ⟨rfl, hw'⟩
      obtain rfl := hw'.symm
      go_wp2_with fail
      go_ret
      exact ⟨by rw [HG.out]; rfl, Below.refl _ _⟩
  · go_enter Tryz.func98, Tryz.ntmps98
    go_wp2_with fail
    refine (Ht _ (Below.refl _ _)).mono ?_
    rintro e w' ⟨rfl, hw'⟩
    obtain rfl := hw'.symm
    go_wp2_with fail
    go_ret
    exact ⟨by rw [HG.out]; rfl, Below.refl _ _⟩
end Go.Proofs.YtlfccjlifjppdaaGreatDoor
namespace Go.Proofs.YtlfccjlifjppdaaGreatDoor
open Go.RowKit
theorem sign_not_name {t : List UInt8} (h : isSignB t = true) : isNameB t = false := by
  have h' : t ∈ signs := by
    unfold isSignB at h
    simpa using h
  revert t
  have H : ∀ t ∈ signs, isNameB t = false := by decide
  intro t _ ht
  exact H t ht
theorem bare_eq {l : List C} (hr : rightB l = true) : bareS l = refGoal1 l := by
  have h1 : 0 < l.length := (right_len hr).1
  have hok := right_cell hr _ (List.getElem_mem h1)
  unfold refGoal1 plainG isTrueS callS
  rw [headC_get h1, isB_get h1, isB_get h1, isB_get h1]
  have hb : bareS l = if l[0].t.toList == [61] then true else if l[0].t.toList == [58, 61] then sumAll (rightL l) else ((l[0].k == 2 || l[0].k == 3) && isNameB l[0].t.data.toList) := by
    match l, h1 with
    | c :: r, _ => rfl
  rw [hb]
  generalize sumAll (rightL l) = s
  generalize l[0] = c at *
  rw [← ByteArray.toList_eq]
  have e1 : tTrue.toList = [116, 114, 117, 101] := by rw [ByteArray.toList_eq]; rfl
  have e2 : tEq.toList = [61] := by rw [ByteArray.toList_eq]; rfl
  have e3 : tIs.toList = [58, 61] := by rw [ByteArray.toList_eq]; rfl
  rw [e1, e2, e3]
  have n1 : isNameB [61] = false := by decide
  have n2 : isNameB [58, 61] = false := by decide
  rcases ok_kinds hok with hk | hk | hk | hk
  · rw [ok_var hok (.inl hk), hk]; simp
  · obtain ⟨hn, hm⟩ := ok_atom hok hk
    rw [hk, hn]
    generalize c.t.toList = T at *
    have x1 : T ≠ [61] := fun h => by rw [h, n1] at hm; cases hm
    have x2 : T ≠ [58, 61] := fun h => by rw [h, n2] at hm; cases hm
    rw [hm]
    simp [x1, x2]
  · rcases ok_struct hok hk with ⟨hm, hn⟩ | ⟨hm, hn⟩
    · rw [hk]
      generalize c.t.toList = T at *
      have x1 : T ≠ [61] := fun h => by rw [h, n1] at hm; cases hm
      have x2 : T ≠ [58, 61] := fun h => by rw [h, n2] at hm; cases hm
      rw [hm]
      simp [x1, x2]
    · have hx := sign_not_name hm
      rw [hk, hn]
      generalize c.t.toList = T at *
      rw [hx]
      by_cases x1 : T = [61]
      · subst x1; simp
      · by_cases x2 : T = [58, 61]
        · subst x2; simp
        · simp [x1, x2]
  · rw [ok_var hok (.inr hk), hk]; simp
theorem goal_eq {l : List C} (hr : rightB l = true) : refGoal0 l = goalS l := by
  have h1 : 0 < l.length := (right_len hr).1
  have hok := right_cell hr _ (List.getElem_mem h1)
  have hb := bare_eq hr
  have e4 : tAt.toList = [64] := by rw [ByteArray.toList_eq]; rfl
  have hA : isB l tAt 2 = (l[0].t.toList == [64]) := by
    rw [isB_get h1, e4]
    by_cases hT : l[0].t.toList = [64]
    · have hs' : isSignB l[0].t.data.toList = true := by
        rw [← ByteArray.toList_eq, hT]; decide
      obtain ⟨e1, e2⟩ := sign_cell hok hs'
      rw [hT, e1, e2]; rfl
    · simp [hT]
  unfold refGoal0 goalS
  rw [hA, headC_get h1]
  by_cases hT : l[0].t.toList = [64]
  · have hs' : isSignB l[0].t.data.toList = true := by
      rw [← ByteArray.toList_eq, hT]; decide
    obtain ⟨e1, e2⟩ := sign_cell hok hs'
    obtain ⟨hl, _⟩ := left_right hr h1 e1 e2
    have hbl := bare_eq hl
    have hp : plainG l = false ∧ isB l tIs 2 = false := by
      unfold plainG isTrueS callS
      rw [headC_get h1, isB_get h1, isB_get h1, isB_get h1, hT, e1, e2]
      rw [← ByteArray.toList_eq, hT]
      have a1 : tTrue.toList = [116, 114, 117, 101] := by rw [ByteArray.toList_eq]; rfl
      have a2 : tEq.toList = [61] := by rw [ByteArray.toList_eq]; rfl
      have a3 : tIs.toList = [58, 61] := by rw [ByteArray.toList_eq]; rfl
      rw [a1, a2, a3]
      decide
    rw [hp.1, hp.2, hT, ← hbl]
    have hz : (headC (leftL l)).t.toList = [64] → bareS (leftL l) = false := by
      intro hz
      have g1 : 0 < (leftL l).length := (right_len hl).1
      generalize leftL l = m at *
      match m, g1 with
      | c :: r, _ =>
        have hz' : c.t.toList = [64] := hz
        unfold bareS hasNameS
        simp only [← ByteArray.toList_eq, hz']
        have : isNameB [64] = false := by decide
        rw [this]; simp
    by_cases hq : (headC (leftL l)).t.toList = [64]
    · rw [hz hq]; simp
    · have hq' : ((headC (leftL l)).t.toList == [64]) = false := by simpa using hq
      rw [hq']; simp
  · have : (l[0].t.toList == [64]) = false := by simpa using hT
    rw [this, hb]
    unfold refGoal1
    cases isB l tIs 2 <;> simp
set_option maxRecDepth 100000 in
theorem k13 (l : List C) (v : Value) (w : World) (h : TermAt w v l) :
    Calls Tryz.prog 71 #[v] w fun e w' => e = .returned (.bool (isGoalS l)) ∧ Below w.heap.size w w' := by
  have H26 := c23 l v w h
  cases hr : rightB l
  · have e : isGoalS l = false := by unfold isGoalS; rw [hr]; rfl
    rw [e]
    rw [hr] at H26
    go_enter Tryz.func71, Tryz.ntmps71
    go_wp2_with fail
    refine H26.mono ?_
    rintro e w' ⟨rfl, hb⟩
    go_wp2_with fail
    go_ret
    exact ⟨rfl, hb⟩
  · have e : isGoalS l = refGoal0 l := by unfold isGoalS; rw [hr, goal_eq hr]; rfl
    have H27 := fun W (hW : Below w.heap.size w W) => k35f l v W (h.below hW) hr
    rw [e]
    rw [hr] at H26
    generalize refGoal0 l = b at *
    clear e hr
    go_enter Tryz.func71, Tryz.ntmps71
    go_wp2_with fail
    refine H26.mono ?_
    rintro e w' ⟨rfl, hb⟩
    go_wp2_with fail
    refine (H27 _ hb).mono ?_
    rintro e w'' ⟨rfl, hb2⟩
    go_wp2_with fail
    go_ret
    exact ⟨rfl, hb.trans (hb2.mono hb.size)⟩
end Go.Proofs.YtlfccjlifjppdaaGreatDoor
namespace Go.Proofs.YtlfccjlifjppdaaGreatDoor
open Go.RowKit
attribute [local go_sem ↓] Go.wp_at_zero Go.wp_at_succ
theorem call_eq {l : List C} (hr : rightB l = true) : callS l = (hasNameS l && !isTrueS l) := by
  have h1 : 0 < l.length := (right_len hr).1
  have hok := right_cell hr _ (List.getElem_mem h1)
  have hn : hasNameS l = ((l[0].k == 2 || l[0].k == 3) && isNameB l[0].t.data.toList) := by
    match l, h1 with
    | c :: r, _ => rfl
  unfold isTrueS callS
  rw [hn, headC_get h1, isB_get h1]
  generalize l[0] = c at *
  rw [← ByteArray.toList_eq]
  have e1 : tTrue.toList = [116, 114, 117, 101] := by rw [ByteArray.toList_eq]; rfl
  rw [e1]
  rcases ok_kinds hok with hk | hk | hk | hk
  · rw [hk]; simp
  · obtain ⟨hn, hm⟩ := ok_atom hok hk
    rw [hk, hn, hm]; simp
  · rcases ok_struct hok hk with ⟨hm, hn, _⟩ | ⟨hm, hn⟩
    · have h0 : (c.n == 0) = false := by rw [beq_eq_false_iff_ne]; omega
      rw [hk, hm, h0]; simp
    · rw [hk, sign_not_name hm]; simp
  · rw [hk]; simp
theorem at_eq {l : List C} (hr : rightB l = true) : isB l tAt 2 = ((headC l).t.toList == [64]) := by
  have h1 : 0 < l.length := (right_len hr).1
  have hok := right_cell hr _ (List.getElem_mem h1)
  rw [headC_get h1, isB_get h1]
  have e1 : tAt.toList = [64] := by rw [ByteArray.toList_eq]; rfl
  rw [e1]
  cases hs : (l[0].t.toList == [64])
  · rfl
  · have hs' : isSignB l[0].t.data.toList = true := by
      have : l[0].t.data.toList = [64] := by rw [← ByteArray.toList_eq]; simpa using hs
      rw [this]; decide
    obtain ⟨e1, e2⟩ := sign_cell hok hs'
    rw [e1, e2]; rfl
theorem call_kind {l : List C} (h1 : 0 < l.length) (h : callS l = true) : l[0].k = 2 ∨ l[0].k = 3 := by
  unfold callS at h
  rw [headC_get h1] at h
  simp at h
  rcases h with h | h
  · exact .inl h.1
  · exact .inr h.1
/-- The tail of called: the term is right, its predicate is told if it is a call. -/
def R87 (w : World) : World := w.alloc (.cells #[.string ⟨#[]⟩, .int .i64 0] 87)
theorem r87_cells {w W : World} (hW : Below (R87 w).heap.size (R87 w) W) : W.cell? ⟨w.heap.size, 0, none⟩ = some (.string ⟨#[]⟩) ∧ W.cell? ⟨w.heap.size, 1, none⟩ = some (.int .i64 0) ∧ W.frozen? ⟨w.heap.size, 0, none⟩ = false ∧ W.frozen? ⟨w.heap.size, 1, none⟩ = false := by
  have e1 : W.heap[w.heap.size]? = some (.cells #[.string ⟨#[]⟩, .int .i64 0] 87 (0, 0)) := (hW.block w.heap.size (by simp [R87])).trans (heap_alloc_new w _)
  refine ⟨?_, ?_, frozen_of_row W _ 0 _ 87 e1, frozen_of_row W _ 1 _ 87 e1⟩
  · rw [cell_of_row W _ 0 _ 87 (0, 0) e1]; rfl
  · rw [cell_of_row W _ 1 _ 87 (0, 0) e1]; rfl
theorem r87_below (w : World) : Below w.heap.size w (R87 w) := (Below.refl _ _).alloc (Nat.le_refl _) _
set_option maxRecDepth 100000 in
set_option maxHeartbeats 2000000 in
theorem z46 (l : List C) (v : Value) (w : World) (h : TermAt w v l) :
    Calls Tryz.prog 46 #[v] w fun e w' => ∃ p : Pd, e = .returned (.tuple #[.agg #[.string p.1, .int .i64 p.2], .bool (callB l)]) ∧ (callB l = true → p = predS (callT l)) ∧ Below w.heap.size w w' := by
  have HT : Hid (TermAt w v l) := h
  have HR := @r87_cells w
  have HB0 := r87_below w
  have H82 := c23 l v (R87 w) (h.below (r87_below w))
  have HCB : Hid (callB l = (rightB l && (hasNameS (callT l) && !isTrueS (callT l)))) := rfl
  obtain ⟨ad, cap, hv⟩ := h.form
  subst hv
  clear h
  have hsz : w.heap.size < (R87 w).heap.size := by simp [R87]
  have HR : Hid (∀ W, Below (R87 w).heap.size (R87 w) W → W.cell? ⟨w.heap.size, 0, none⟩ = some (.string ⟨#[]⟩) ∧ W.cell? ⟨w.heap.size, 1, none⟩ = some (.int .i64 0) ∧ W.frozen? ⟨w.heap.size, 0, none⟩ = false ∧ W.frozen? ⟨w.heap.size, 1, none⟩ = false) := fun W hW => HR hW
  have HS : Hid (∀ (W : World) (a b : Value), Below (R87 w).heap.size (R87 w) W → Below w.heap.size w ((W.setCell ⟨w.heap.size, 0, none⟩ a).setCell ⟨w.heap.size, 1, none⟩ b)) := fun W a b hW => ((HB0.trans (hW.mono (by omega))).setCell (Nat.le_refl _) _).setCell (Nat.le_refl _) _
  cases hr : rightB l
  · rw [hr] at H82 HCB
    have HC : Hid (callB l = false) := HCB.out
    clear HCB
    unfold R87 at *
    go_enter Tryz.func46, Tryz.ntmps46
    go_wp2_with fail
    refine H82.mono ?_
    rintro e w1 ⟨rfl, hb1⟩
    obtain ⟨f0, f1, f2, f3⟩ := HR.out w1 hb1
    clear H82
    go_wp2_with fail
    exact bodyPost_ret (v := .tuple #[.agg #[.string ⟨#[]⟩, .int .i64 0], .bool false]) (by simp [results, Tryz.results46, go_sem, f0, f1]) rfl ⟨(⟨#[]⟩, 0), by rw [HC.out], fun e => (by rw [HC.out] at e; cases e), HS.out _ _ _ hb1⟩
  · rw [hr] at H82 HCB
    have HRt : Hid (rightB l = true) := hr
    have h1 := (right_len hr).1
    have HAt : Hid (isB l tAt 2 = ((headC l).t.toList == [64])) := at_eq hr
    have H27 : Hid (∀ W, Below w.heap.size w W → Calls Tryz.prog 27 #[.slice ad l.length cap, .string tAt, .int .i64 2] W fun e w' => e = .returned (.bool (isB l tAt 2)) ∧ w' = W) := fun W hW => c29 l _ tAt 2 W (HT.out.below hW)
    have HTail : Hid (∀ (t : List C) (u : Value) (W : World), Below (R87 w).heap.size (R87 w) W → TermAt W u t → rightB t = true → callT l = t → Calls Tryz.prog 84 #[u] W (fun e w' => e = .returned (.bool (callB l)) ∧ Below W.heap.size W w') ∧ (callB l = true → ∀ W', Below W.heap.size W W' → Calls Tryz.prog 43 #[u] W' fun e w' => e = .returned (.agg #[.string (predS t).1, .int .i64 (predS t).2]) ∧ Below W'.heap.size W' w')) := fun t u W hW hT hrt hct => by
      have ht1 := (right_len hrt).1
      have e1 : callB l = callS t := by rw [HCB.out, hct, call_eq hrt]; rfl
      refine ⟨?_, fun hcb W' hW' => ?_⟩
      · rw [e1]; exact k51 t u W hT ht1
      · rw [e1] at hcb
        exact z43 t u W' (hT.below hW') ht1 (call_kind ht1 hcb)
    cases ha : isB l tAt 2
    · have hct : callT l = l := by
        unfold callT
        rw [← HAt.out, ha]; rfl
      rw [ha] at H27
      unfold tAt at H27
      clear ha HAt HCB hr
      rw [hct]
      unfold R87 at *
      go_enter Tryz.func46, Tryz.ntmps46
      go_wp2_with fail
      refine H82.mono ?_
      rintro e w1 ⟨rfl, hb1⟩
      have HB1 : Hid (Below w.heap.size w w1) := HB0.trans (hb1.mono (by omega))
      clear H82
      go_wp2_with fail
      refine (H27.out w1 HB1.out).mono ?_
      rintro e w2 ⟨rfl, hw2⟩
      obtain rfl := hw2.symm
      obtain ⟨H84, H43⟩ := HTail.out l _ w1 hb1 (HT.out.below HB1.out) HRt.out hct
      cases hcb : callB l
      · rw [hcb] at H84
        have HC : Hid (callB l = false) := hcb
        clear H43 hcb hct
        go_wp2_with fail
        refine H84.mono ?_
        rintro e w3 ⟨rfl, hb3⟩
        have hb3' := hb1.trans (hb3.mono hb1.size)
        obtain ⟨f0, f1, f2, f3⟩ := HR.out w3 hb3'
        go_wp2_with fail
        exact bodyPost_ret (v := .tuple #[.agg #[.string ⟨#[]⟩, .int .i64 0], .bool false]) (by simp [results, Tryz.results46, go_sem, f0, f1]) rfl ⟨(⟨#[]⟩, 0), by rw [HC.out], fun e => (by rw [HC.out] at e; cases e), HS.out _ _ _ hb3'⟩
      · rw [hcb] at H84
        have H43 := H43 hcb
        have HC : Hid (callB l = true) := hcb
        clear hcb hct
        go_wp2_with fail
        refine H84.mono ?_
        rintro e w3 ⟨rfl, hb3⟩
        have hb3' := hb1.trans (hb3.mono hb1.size)
        have H43 := H43 w3 hb3
        obtain ⟨p, hp⟩ : ∃ p, predS l = p := ⟨_, rfl⟩
        rw [hp] at H43
        have Hp : Hid (predS l = p) := hp
        clear hp
        go_wp2_with fail
        refine H43.mono ?_
        rintro e w4 ⟨rfl, hb4⟩
        have hb4' := hb3'.trans (hb4.mono hb3'.size)
        obtain ⟨f0, f1, f2, f3⟩ := HR.out w4 hb4'
        go_wp2_with fail
        exact bodyPost_ret (v := .tuple #[.agg #[.string p.1, .int .i64 p.2], .bool true]) (by simp [results, Tryz.results46, go_sem, f0, f1]) rfl ⟨p, by rw [HC.out], fun _ => Hp.out.symm, HS.out _ _ _ hb4'⟩
    · have hct : callT l = leftL l := by
        unfold callT
        rw [← HAt.out, ha]; rfl
      have hs' : isSignB l[0].t.data.toList = true := by
        have h2 := HAt.out
        rw [ha, headC_get h1] at h2
        have : l[0].t.data.toList = [64] := by rw [← ByteArray.toList_eq]; simpa using h2.symm
        rw [this]; decide
      obtain ⟨hk3, hn2⟩ := sign_cell (right_cell hr _ (List.getElem_mem h1)) hs'
      have HLr : Hid (rightB (leftL l) = true) := (left_right hr h1 hk3 hn2).1
      have HAr : Hid (∃ x, argsL l = leftL l :: [x]) := by
        obtain ⟨m, _, _, _, h5⟩ := two_parts hr h1 hk3 hn2
        refine ⟨l.drop (1 + m), ?_⟩
        have e1 : leftL l = (l.drop 1).take m := by unfold leftL; rw [h5]; rfl
        rw [h5, e1]
      have H83 : Hid (∀ W, Below w.heap.size w W → Calls Tryz.prog 83 #[.slice ad l.length cap] W fun e w' => ∃ u, e = .returned u ∧ RowAt w' u (argsL l) ∧ Below W.heap.size W w') := fun W hW => c27 l _ W (HT.out.below hW)
      rw [ha] at H27
      unfold tAt at H27
      clear ha HAt HCB hr hs' hk3 hn2
      rw [hct]
      unfold R87 at *
      go_enter Tryz.func46, Tryz.ntmps46
      go_wp2_with fail
      refine H82.mono ?_
      rintro e w1 ⟨rfl, hb1⟩
      have HB1 : Hid (Below w.heap.size w w1) := HB0.trans (hb1.mono (by omega))
      clear H82
      go_wp2_with fail
      refine (H27.out w1 HB1.out).mono ?_
      rintro e w2 ⟨rfl, hw2⟩
      obtain rfl := hw2.symm
      go_wp2_with fail
      refine (H83.out w1 HB1.out).mono ?_
      rintro e w5 ⟨u5, rfl, hR5, hb5⟩
      have hb5' := hb1.trans (hb5.mono hb1.size)
      obtain ⟨x, hx⟩ := HAr.out
      rw [hx] at hR5
      obtain ⟨rb, ro, rc, y, hu5, cy, hTy, _⟩ := row_at hR5 0 (by simp)
      simp only [Nat.add_zero, List.getElem_cons_zero] at cy hTy
      obtain ⟨H84, H43⟩ := HTail.out (leftL l) y w5 hb5' hTy HLr.out hct
      obtain ⟨ay, cpy, hy⟩ := hTy.form
      have hpos : (0 : Int) < ((leftL l :: [x]).length : Int) := by simp
      subst hu5 hy
      clear hR5 hTy hx
      generalize (leftL l :: [x]).length = nn at *
      generalize (leftL l).length = ln at *
      cases hcb : callB l
      · rw [hcb] at H84
        have HC : Hid (callB l = false) := hcb
        clear H43 hcb hct
        go_wp2_with fail
        refine H84.mono ?_
        rintro e w3 ⟨rfl, hb3⟩
        have hb3' := hb5'.trans (hb3.mono hb5'.size)
        obtain ⟨f0, f1, f2, f3⟩ := HR.out w3 hb3'
        go_wp2_with fail
        exact bodyPost_ret (v := .tuple #[.agg #[.string ⟨#[]⟩, .int .i64 0], .bool false]) (by simp [results, Tryz.results46, go_sem, f0, f1]) rfl ⟨(⟨#[]⟩, 0), by rw [HC.out], fun e => (by rw [HC.out] at e; cases e), HS.out _ _ _ hb3'⟩
      · rw [hcb] at H84
        have H43 := H43 hcb
        have HC : Hid (callB l = true) := hcb
        clear hcb hct
        go_wp2_with fail
        refine H84.mono ?_
        rintro e w3 ⟨rfl, hb3⟩
        have hb3' := hb5'.trans (hb3.mono hb5'.size)
        have H43 := H43 w3 hb3
        obtain ⟨p, hp⟩ : ∃ p, predS (leftL l) = p := ⟨_, rfl⟩
        rw [hp] at H43
        have Hp : Hid (predS (leftL l) = p) := hp
        clear hp
        go_wp2_with fail
        refine H43.mono ?_
        rintro e w4 ⟨rfl, hb4⟩
        have hb4' := hb3'.trans (hb4.mono hb3'.size)
        obtain ⟨f0, f1, f2, f3⟩ := HR.out w4 hb4'
        go_wp2_with fail
        exact bodyPost_ret (v := .tuple #[.agg #[.string p.1, .int .i64 p.2], .bool true]) (by simp [results, Tryz.results46, go_sem, f0, f1]) rfl ⟨p, by rw [HC.out], fun _ => Hp.out.symm, HS.out _ _ _ hb4'⟩
end Go.Proofs.YtlfccjlifjppdaaGreatDoor
