/- Contract of Put: for every term and row of locals it returns the term with them put in, or its error. -/
import Derived.Test.YtaehhophaaipdabDoorV3
import Derived.Test.YtaehhophaaipdabDoorJR
namespace Go.Proofs.YtaehhophaaipdabDoor
open Go.RowKit Go.Shelf
def isLoc (c : C) : Bool := c.k == 4 && c.vn == -1
def putC (ls : List (List C)) (c : C) : List C := if isLoc c then ls[c.vk.toNat]?.getD [] else [c]
def putL (ls : List (List C)) (l : List C) : List C := l.flatMap (putC ls)
def putE (l : List C) (ls : List (List C)) : Int := if rightB l && localsB ls then (if lacksB l ls then 4 else if (256 : Int) < ((putL ls l).length : Int) then 5 else 0) else 6
def putT (l : List C) (ls : List (List C)) : List C := if putE l ls = 0 then putL ls l else []
theorem put_snoc (ls : List (List C)) (l : List C) (k : Nat) (hk : k < l.length) : putL ls (l.take (k + 1)) = putL ls (l.take k) ++ putC ls l[k] := by
  unfold putL
  rw [List.take_succ_eq_append_getElem hk, List.flatMap_append]; simp
theorem locals_len {ls : List (List C)} (h : localsB ls = true) : ∀ x ∈ ls, x.length ≤ 256 := by
  intro x hx
  unfold localsB at h
  have h1 := List.all_eq_true.1 h x hx
  unfold emptyOrRight at h1
  simp only [Bool.or_eq_true, decide_eq_true_eq] at h1
  rcases h1 with h1 | h1
  · omega
  · exact (right_len h1).2
theorem putC_len {ls : List (List C)} (h : localsB ls = true) (c : C) : (putC ls c).length ≤ 256 := by
  unfold putC
  split
  · cases hq : ls[c.vk.toNat]? with
    | none => simp
    | some x => simp; exact locals_len h x (List.mem_of_getElem? hq)
  · simp
theorem put_len {ls : List (List C)} (h : localsB ls = true) (l : List C) : (putL ls l).length ≤ 256 * l.length := by
  induction l with
  | nil => simp [putL]
  | cons a r ih =>
    have := putC_len h a
    simp [putL] at *; omega
/-- Nothing is lacking: each place has a term. -/
theorem not_lack {l : List C} {ls : List (List C)} (hr : rightB l = true) (h : lacksB l ls = false) (k : Nat) (hk : k < l.length) (h4 : (l[k].k == 4) = true) (h1 : (l[k].vn == -1) = true) : ∃ m : Nat, l[k].vk = m ∧ ∃ hm : m < ls.length, 1 ≤ ls[m].length := by
  have hx : (l[k].vn, l[k].vk) ∈ varsOf l := by
    unfold varsOf
    exact List.mem_map.2 ⟨l[k], List.mem_filter.2 ⟨List.getElem_mem _, h4⟩, rfl⟩
  have h0 := (right_vars hr _ hx).1
  unfold lacksB at h
  rw [List.any_eq_false] at h
  have h2 := h _ hx
  simp only [h1, Bool.true_and, lackB, Bool.or_eq_true, decide_eq_true_eq, beq_iff_eq, not_or] at h2
  refine ⟨l[k].vk.toNat, by simp at h0; omega, by omega, ?_⟩
  have h3 := h2.2
  rw [List.getElem?_eq_getElem (by omega)] at h3
  simp at h3
  cases hq : ls[l[k].vk.toNat] with
  | nil => exact absurd hq h3
  | cons a r => simp
theorem owns_form {w : World} {base : Nat} {e : TypeId} {s : Nat} {v : Value} {n : Nat} {xs : List Value} (h : w.ownsRow base e s v n xs) : ∃ ad cap, v = .slice ad n cap := by
  rcases h.2 with ⟨h1, h2⟩ | ⟨g, cap, cur, h1, _⟩
  · exact ⟨none, 0, by rw [h1, h2]⟩
  · exact ⟨_, _, h1⟩
theorem c56 (a b : Int) (w : World) : Calls Tryd.prog 20 #[.agg #[.int .i64 a, .int .i64 b]] w fun e w' => e = .returned (.bool (a == -1)) ∧ w' = w.alloc (.cells #[.int .i64 a, .int .i64 b] 26) :=
  (callsIn_wide (n := 6)).1 (isLocal_in Fence.wide 6 trivial rfl a b w)
theorem news_new (W : World) (c : C) : ∀ j u, (flat [c])[j]? = some u → (W.alloc (.cells #[.int .u8 c.k, .string c.t, .int .i64 c.n, .int .i64 c.vn, .int .i64 c.vk] 52)).cell? ((⟨W.heap.size, 0, none⟩ : Addr).add j) = some u := by
  intro j u hu
  rw [Addr.add_mid]
  exact range_new W (flat [c]) 52 j u hu
set_option maxHeartbeats 1000000 in
theorem c31_form (l : List C) (v : Value) (ls : List (List C)) (u : Value) (w : World) (h : TermAt w v l) (_hR : RowAt w u ls) (hS : Signs w) (hno : rightB l = false) :
    Calls Tryd.prog 9 #[v, u] w fun e w' => e = .returned (.tuple #[.slice none 0 0, .int .i64 6]) ∧ Below w.heap.size w w' := by
  have H22 := c22 l v w h hS
  rw [hno] at H22
  clear h _hR hS hno
  go_enter Tryd.func9, Tryd.ntmps9
  go_wp2_with fail
  refine H22.mono ?_
  rintro e w1 ⟨rfl, hb1⟩
  go_wp2_with fail
  go_ret2
  exact ⟨rfl, hb1⟩
set_option maxHeartbeats 1000000 in
theorem c31_locals (l : List C) (v : Value) (ls : List (List C)) (u : Value) (w : World) (h : TermAt w v l) (hR : RowAt w u ls) (hS : Signs w) (hyes : rightB l = true) (hno : localsB ls = false) :
    Calls Tryd.prog 9 #[v, u] w fun e w' => e = .returned (.tuple #[.slice none 0 0, .int .i64 6]) ∧ Below w.heap.size w w' := by
  have H22 := c22 l v w h hS
  have H54 : Hid (∀ w1, Below w.heap.size w w1 → Calls Tryd.prog 18 #[u] w1 fun e w' => e = .returned (.bool (localsB ls)) ∧ Below w1.heap.size w1 w') := fun w1 hb => c54 ls u w1 (hR.below hb) (hS.below hb)
  rw [hyes] at H22
  rw [hno] at H54
  clear h hR hS hno hyes
  go_enter Tryd.func9, Tryd.ntmps9
  go_wp2_with fail
  refine H22.mono ?_
  rintro e w1 ⟨rfl, hb1⟩
  go_wp2_with fail
  refine (H54.out _ hb1).mono ?_
  rintro e w2 ⟨rfl, hb2⟩
  go_wp2_with fail
  go_ret2
  exact ⟨rfl, hb1.trans (hb2.mono hb1.size)⟩
set_option maxHeartbeats 1000000 in
theorem c31_none (l : List C) (v : Value) (ls : List (List C)) (u : Value) (w : World) (h : TermAt w v l) (hR : RowAt w u ls) (hS : Signs w) (hr : rightB l = true) (hl : localsB ls = true) (hno : lacksB l ls = true) :
    Calls Tryd.prog 9 #[v, u] w fun e w' => e = .returned (.tuple #[.slice none 0 0, .int .i64 4]) ∧ Below w.heap.size w w' := by
  have H22 := c22 l v w h hS
  have H54 : Hid (∀ w1, Below w.heap.size w w1 → Calls Tryd.prog 18 #[u] w1 fun e w' => e = .returned (.bool (localsB ls)) ∧ Below w1.heap.size w1 w') := fun w1 hb => c54 ls u w1 (hR.below hb) (hS.below hb)
  have H55 : Hid (∀ w1, Below w.heap.size w w1 → Calls Tryd.prog 19 #[v, u] w1 fun e w' => e = .returned (.bool (lacksB l ls)) ∧ Below w1.heap.size w1 w') := fun w1 hb => c55 l v ls u w1 (h.below hb) (hR.below hb) hr
  rw [hr] at H22
  rw [hl] at H54
  rw [hno] at H55
  clear h hR hS hno hl hr
  go_enter Tryd.func9, Tryd.ntmps9
  go_wp2_with fail
  refine H22.mono ?_
  rintro e w1 ⟨rfl, hb1⟩
  go_wp2_with fail
  refine (H54.out _ hb1).mono ?_
  rintro e w2 ⟨rfl, hb2⟩
  have hb2 := hb1.trans (hb2.mono hb1.size)
  go_wp2_with fail
  refine (H55.out _ hb2).mono ?_
  rintro e w3 ⟨rfl, hb3⟩
  go_wp2_with fail
  go_ret2
  exact ⟨rfl, hb2.trans (hb3.mono hb2.size)⟩
set_option maxRecDepth 100000 in
set_option maxHeartbeats 4000000 in
theorem c31_made (l : List C) (v : Value) (ls : List (List C)) (u : Value) (w : World) (h : TermAt w v l) (hR : RowAt w u ls) (hS : Signs w) (hr : rightB l = true) (hl : localsB ls = true) (hno : lacksB l ls = false) :
    Calls Tryd.prog 9 #[v, u] w fun e w' => ∃ t, e = .returned (.tuple #[t, .int .i64 (if (256 : Int) < ((putL ls l).length : Int) then 5 else 0)]) ∧ OwnT w' w.heap.size t (if (256 : Int) < ((putL ls l).length : Int) then [] else putL ls l) ∧ Below w.heap.size w w' := by
  have H22 := c22 l v w h hS
  have H54 : Hid (∀ w1, Below w.heap.size w w1 → Calls Tryd.prog 18 #[u] w1 fun e w' => e = .returned (.bool (localsB ls)) ∧ Below w1.heap.size w1 w') := fun w1 hb => c54 ls u w1 (hR.below hb) (hS.below hb)
  have H55 : Hid (∀ w1, Below w.heap.size w w1 → Calls Tryd.prog 19 #[v, u] w1 fun e w' => e = .returned (.bool (lacksB l ls)) ∧ Below w1.heap.size w1 w') := fun w1 hb => c55 l v ls u w1 (h.below hb) (hR.below hb) hr
  rw [hr] at H22
  rw [hl] at H54
  rw [hno] at H55
  have hrl := right_len hr
  have HLk : Hid (∀ (k : Nat) (hk : k < l.length), (l[k].k == 4) = true → (l[k].vn == -1) = true → ∃ m : Nat, l[k].vk = m ∧ ∃ hm : m < ls.length, 1 ≤ ls[m].length) := fun k hk h4 h1 => not_lack hr hno k hk h4 h1
  have HRow : Hid (RowAt w u ls) := hR
  have HLL : Hid (localsB ls = true) := hl
  have hlsm : ls.length ≤ 2 ^ 63 - 1 := hR.1
  obtain ⟨ad0, cap0, hfu⟩ := hR.form
  obtain ⟨_, h⟩ := h
  rcases h with ⟨rfl, ad, rfl⟩ | ⟨b, o, cap, rfl, h2, h5, h3, h4⟩
  · simp at hrl
  have HR : Hid (w.rangeAt b o (flat l)) := h3
  obtain ⟨i0, hi, hz, hs, hby⟩ := info60
  clear hR hS hno hl hr h3 h5 h2
  rw [hfu] at H54 H55 HRow ⊢
  clear hfu
  go_enter Tryd.func9, Tryd.ntmps9
  go_wp2_with fail
  refine H22.mono ?_
  rintro e w1 ⟨rfl, hb1⟩
  go_wp2_with fail
  refine (H54.out _ hb1).mono ?_
  rintro e w2 ⟨rfl, hb2⟩
  have hb2 := hb1.trans (hb2.mono hb1.size)
  go_wp2_with fail
  refine (H55.out _ hb2).mono ?_
  rintro e w3 ⟨rfl, hb3⟩
  have hb3 := hb2.trans (hb3.mono hb2.size)
  clear hb1 hb2 H22 H54 H55
  go_wp2_with fail
  go_loopw [6, 22] (fun pv i wr => ∃ k : Nat, k ≤ l.length ∧ i = .int .i64 k ∧ Hid (OwnT wr w.heap.size pv (putL ls (l.take k))) ∧ Below w.heap.size w wr) (fun _ i _ => l.length - (intOf i).toNat)
  case atStart => exact ⟨0, Nat.zero_le _, rfl, World.ownsRow_nil _ _ _ _, hb3⟩
  case round =>
    obtain ⟨k, hk, rfl, hown, hbr⟩ := hrel
    have hsz := hbr.size
    by_cases hlt : k < l.length
    · have hlt' : (k : Int) < (l.length : Int) := by omega
      obtain ⟨p0, p1, p2, p3, p4⟩ := term_cells (range_below HR.out h4 hbr) k hlt
      have hbz : b < wr.heap.size := Nat.lt_of_lt_of_le h4 hbr.size
      have hpl : (putL ls (l.take k)).length ≤ 256 * 256 := by
        have h := put_len HLL.out (l.take k)
        have h2 : (l.take k).length ≤ k := List.length_take_le _ _
        omega
      have hpc := putC_len HLL.out l[k]
      have HSN : Hid (putL ls (l.take (k + 1)) = putL ls (l.take k) ++ putC ls l[k]) := put_snoc ls l k hlt
      cases h4' : (l[k].k == 4)
      · have hC : putC ls l[k] = [l[k]] := by unfold putC isLoc; rw [h4']; rfl
        rw [hC] at HSN
        clear hC hpc
        have hnews := news_new (wr.alloc (.cells #[.int .u8 l[k].k, .string l[k].t, .int .i64 l[k].n, .int .i64 l[k].vn, .int .i64 l[k].vk] 52)) l[k]
        rw [World.size_alloc] at hnews
        have hnews : Hid (∀ j u, (flat [l[k]])[j]? = some u → ((wr.alloc (.cells #[.int .u8 l[k].k, .string l[k].t, .int .i64 l[k].n, .int .i64 l[k].vn, .int .i64 l[k].vk] 52)).alloc (.cells #[.int .u8 l[k].k, .string l[k].t, .int .i64 l[k].n, .int .i64 l[k].vn, .int .i64 l[k].vk] 52)).cell? ((⟨wr.heap.size + 1, 0, none⟩ : Addr).add j) = some u) := hnews
        have hlen : Hid ((flat [l[k]]).length = 1 * 5) := rfl
        have hBa : ∀ o1 o2 : Obj, Hid (Below w.heap.size w ((wr.alloc o1).alloc o2)) := fun o1 o2 => (hbr.alloc hsz o1).alloc (by simp; omega) o2
        go_wp2_with (at_builtin; refine wpList_append_own _ rfl _ _ 23 rfl w.heap.size 52 i0 zero60 5 48 Tryd.underlying23 hi hz hs hby rfl (by decide) _ _ _ rfl ((hown.out.alloc _).alloc _) ⟨wr.heap.size + 1, 0, none⟩ 1 1 (flat [l[k]]) rfl hlen.out hnews.out (flat_one _) (by unfold maxLen; omega) (by omega) (by simp; omega) ?_)
        intro v' w' hown' hgrow hnil
        have hown' : Hid (OwnT w' w.heap.size v' (putL ls (l.take (k + 1)))) := by
          show w'.ownsRow w.heap.size 52 5 v' _ _
          rw [HSN.out, flat_append, List.length_append]; exact hown'
        have hbr' : Hid (Below w.heap.size w w') := (hBa _ _).out.grown hgrow (by simp; omega) (fun g hg => (hown.out.lt g hg).1)
        clear hgrow hnil
        go_wp2_with fail
        go_roundw
        case rel => exact ⟨k + 1, by omega, by go_num, hown', hbr'.out⟩
        case measure => simp [intOf]; omega
      · cases h1' : (l[k].vn == -1)
        · have hC : putC ls l[k] = [l[k]] := by unfold putC isLoc; rw [h4', h1']; rfl
          rw [hC] at HSN
          clear hC hpc
          have H56 := fun W => c56 l[k].vn l[k].vk W
          rw [h1'] at H56
          have H56 : Hid (∀ W, _) := H56
          have hnews := news_new ((wr.alloc (.cells #[.int .u8 l[k].k, .string l[k].t, .int .i64 l[k].n, .int .i64 l[k].vn, .int .i64 l[k].vk] 52)).alloc (.cells #[.int .i64 l[k].vn, .int .i64 l[k].vk] 26)) l[k]
          rw [World.size_alloc, World.size_alloc] at hnews
          have hnews : Hid (∀ j u, (flat [l[k]])[j]? = some u → (((wr.alloc (.cells #[.int .u8 l[k].k, .string l[k].t, .int .i64 l[k].n, .int .i64 l[k].vn, .int .i64 l[k].vk] 52)).alloc (.cells #[.int .i64 l[k].vn, .int .i64 l[k].vk] 26)).alloc (.cells #[.int .u8 l[k].k, .string l[k].t, .int .i64 l[k].n, .int .i64 l[k].vn, .int .i64 l[k].vk] 52)).cell? ((⟨wr.heap.size + 1 + 1, 0, none⟩ : Addr).add j) = some u) := hnews
          have hlen : Hid ((flat [l[k]]).length = 1 * 5) := rfl
          have hBa : ∀ o1 o2 o3 : Obj, Hid (Below w.heap.size w (((wr.alloc o1).alloc o2).alloc o3)) := fun o1 o2 o3 => ((hbr.alloc hsz o1).alloc (by simp; omega) o2).alloc (by simp; omega) o3
          clear h1'
          go_wp2_with fail
          refine (H56.out _).mono ?_
          rintro e w' ⟨rfl, rfl⟩
          go_wp2_with (at_builtin; refine wpList_append_own _ rfl _ _ 23 rfl w.heap.size 52 i0 zero60 5 48 Tryd.underlying23 hi hz hs hby rfl (by decide) _ _ _ rfl (((hown.out.alloc _).alloc _).alloc _) ⟨wr.heap.size + 1 + 1, 0, none⟩ 1 1 (flat [l[k]]) rfl hlen.out hnews.out (flat_one _) (by unfold maxLen; omega) (by omega) (by simp; omega) ?_)
          intro v' w' hown' hgrow hnil
          have hown' : Hid (OwnT w' w.heap.size v' (putL ls (l.take (k + 1)))) := by
            show w'.ownsRow w.heap.size 52 5 v' _ _
            rw [HSN.out, flat_append, List.length_append]; exact hown'
          have hbr' : Hid (Below w.heap.size w w') := (hBa _ _ _).out.grown hgrow (by simp; omega) (fun g hg => (hown.out.lt g hg).1)
          clear hgrow hnil
          go_wp2_with fail
          go_roundw
          case rel => exact ⟨k + 1, by omega, by go_num, hown', hbr'.out⟩
          case measure => simp [intOf]; omega
        · obtain ⟨m, hm, hml, hm1⟩ := HLk.out k hlt h4' h1'
          have hC : putC ls l[k] = ls[m] := by unfold putC isLoc; rw [h4', h1', hm]; simp [hml]
          rw [hC] at HSN hpc
          clear hC
          have H56 := fun W => c56 l[k].vn l[k].vk W
          rw [h1', hm] at H56
          have H56 : Hid (∀ W, _) := H56
          have hBa : ∀ o1 o2 : Obj, Hid (Below w.heap.size w ((wr.alloc o1).alloc o2)) := fun o1 o2 => (hbr.alloc hsz o1).alloc (by simp; omega) o2
          obtain ⟨_, hRw⟩ := HRow.out
          rcases hRw with ⟨hnil, _⟩ | ⟨bu, ou, cu, vs, hfu, _, _, hbu, hvl, hru, htu⟩
          · rw [hnil] at hml; simp at hml
          simp only [Value.slice.injEq, true_and] at hfu
          obtain ⟨hfu1, hfu2⟩ := hfu
          subst hfu1 hfu2
          have hmv : m < vs.length := by omega
          have q0 : ∀ o1 o2 : Obj, ((wr.alloc o1).alloc o2).cell? ⟨bu, ou + m, none⟩ = some vs[m] := fun o1 o2 => row_cell (range_below hru hbu (hBa o1 o2).out) m hmv
          obtain ⟨_, htm⟩ := htu m _ _ (List.getElem?_eq_getElem hmv) (List.getElem?_eq_getElem hml)
          rcases htm with ⟨hnil, _⟩ | ⟨bm, om, cm, hfm, _, _, hrm, hbm⟩
          · rw [hnil] at hm1; simp at hm1
          rw [hfm] at q0
          have hnews : ∀ o1 o2 : Obj, Hid (∀ j u, (flat ls[m])[j]? = some u → ((wr.alloc o1).alloc o2).cell? ((⟨bm, om, none⟩ : Addr).add j) = some u) := fun o1 o2 j u hu => by rw [Addr.add_mid]; exact range_below hrm hbm (hBa o1 o2).out j u hu
          have hlen : Hid ((flat ls[m]).length = ls[m].length * 5) := by
            show (flat ls[m]).length = ls[m].length * 5
            rw [flat_length]; omega
          have hml' : (m : Int) < (ls.length : Int) := by omega
          rw [hm] at p4
          clear h1' hrm hru htu hfm hvl hm
          go_wp2_with fail
          refine (H56.out _).mono ?_
          rintro e w' ⟨rfl, rfl⟩
          go_wp2_with (at_builtin; refine wpList_append_own _ rfl _ _ 23 rfl w.heap.size 52 i0 zero60 5 48 Tryd.underlying23 hi hz hs hby rfl (by decide) _ _ _ rfl ((hown.out.alloc _).alloc _) ⟨bm, om, none⟩ ls[m].length cm (flat ls[m]) rfl hlen.out (hnews _ _).out (flat_one _) (by unfold maxLen; omega) (by omega) (by simp; omega) ?_)
          intro v' w' hown' hgrow hnil
          have hown' : Hid (OwnT w' w.heap.size v' (putL ls (l.take (k + 1)))) := by
            show w'.ownsRow w.heap.size 52 5 v' _ _
            rw [HSN.out, flat_append, List.length_append]; exact hown'
          have hbr' : Hid (Below w.heap.size w w') := (hBa _ _).out.grown hgrow (by simp; omega) (fun g hg => (hown.out.lt g hg).1)
          clear hgrow hnil
          go_wp2_with fail
          go_roundw
          case rel => exact ⟨k + 1, by omega, by go_num, hown', hbr'.out⟩
          case measure => simp [intOf]; omega
    · obtain rfl : k = l.length := by omega
      rw [List.take_of_length_le (Nat.le_refl _)] at hown
      obtain ⟨adp, capp, hfp⟩ := owns_form hown.out
      have hpl := put_len HLL.out l
      subst hfp
      have hlt' : ¬ ((l.length : Int) < (l.length : Int)) := by omega
      by_cases hbig : (256 : Int) < ((putL ls l).length : Int)
      · go_wp2_with fail
        go_ret2
        exact ⟨.slice none 0 0, rfl, World.ownsRow_nil _ _ _ _, hbr⟩
      · go_wp2_with fail
        go_ret2
        exact ⟨.slice adp (putL ls l).length capp, by first | rfl | (rw [if_neg (by omega)]; rfl), by first | exact hown.out | (rw [if_neg (by omega)]; exact hown.out), hbr⟩
theorem c31 (l : List C) (v : Value) (ls : List (List C)) (u : Value) (w : World) (h : TermAt w v l) (hR : RowAt w u ls) (hS : Signs w) :
    Calls Tryd.prog 9 #[v, u] w fun e w' => ∃ t, e = .returned (.tuple #[t, .int .i64 (putE l ls)]) ∧ OwnT w' w.heap.size t (putT l ls) ∧ Below w.heap.size w w' := by
  unfold putT
  cases hr : rightB l
  · have e : putE l ls = 6 := by unfold putE; rw [hr]; rfl
    rw [e]
    exact (c31_form l v ls u w h hR hS hr).mono fun e w' ⟨h1, h2⟩ => ⟨_, h1, World.ownsRow_nil _ _ _ _, h2⟩
  · cases hl : localsB ls
    · have e : putE l ls = 6 := by unfold putE; rw [hr, hl]; rfl
      rw [e]
      exact (c31_locals l v ls u w h hR hS hr hl).mono fun e w' ⟨h1, h2⟩ => ⟨_, h1, World.ownsRow_nil _ _ _ _, h2⟩
    · cases hno : lacksB l ls
      · have e : putE l ls = if (256 : Int) < ((putL ls l).length : Int) then 5 else 0 := by unfold putE; rw [hr, hl, hno]; rfl
        have e2 : (if putE l ls = 0 then putL ls l else []) = if (256 : Int) < ((putL ls l).length : Int) then [] else putL ls l := by
          rw [e]; by_cases hb : (256 : Int) < ((putL ls l).length : Int) <;> simp [hb]
        rw [e2, e]
        exact c31_made l v ls u w h hR hS hr hl hno
      · have e : putE l ls = 4 := by unfold putE; rw [hr, hl, hno]; rfl
        rw [e]
        exact (c31_none l v ls u w h hR hS hr hl hno).mono fun e w' ⟨h1, h2⟩ => ⟨_, h1, World.ownsRow_nil _ _ _ _, h2⟩
end Go.Proofs.YtaehhophaaipdabDoor
