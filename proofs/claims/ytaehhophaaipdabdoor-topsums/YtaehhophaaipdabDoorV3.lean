/- rightLocals and lacks. -/
import Derived.Test.YtaehhophaaipdabDoorV2
namespace Go.Proofs.YtaehhophaaipdabDoor
open Go.RowKit Go.Shelf
attribute [local go_sem] Oper.semAt_some
/-- A term may lie in the place of a local: it is empty, or right. -/
def emptyOrRight (l : List C) : Bool := decide ((l.length : Int) ≤ 0) || rightB l
def localsB (ls : List (List C)) : Bool := ls.all emptyOrRight
theorem locals_snoc (l : List (List C)) (k : Nat) (hk : k < l.length) (h : (l.take k).all emptyOrRight = true) (hi : emptyOrRight l[k] = true) : (l.take (k + 1)).all emptyOrRight = true := by
  rw [List.take_succ_eq_append_getElem hk, List.all_append, h]; simp [hi]
theorem locals_false (l : List (List C)) (k : Nat) (hk : k < l.length) (hi : emptyOrRight l[k] = false) : localsB l = false := by
  unfold localsB; rw [List.all_eq_false]; exact ⟨l[k], List.getElem_mem _, by simp [hi]⟩
set_option maxHeartbeats 1000000 in
theorem c54_in (ls : List (List C)) (b o cap : Nat) (vs : List Value) (w : World) (hb : b < w.heap.size) (hc : ls.length ≤ maxLen) (hvl : vs.length = ls.length) (hr : w.rangeAt b o vs) (ht : ∀ (i : Nat) (u : Value) (l : List C), vs[i]? = some u → ls[i]? = some l → TermAt w u l) (hS : Signs w) :
    Calls Tryd.prog 18 #[.slice (some ⟨b, o, none⟩) ls.length cap] w fun e w' => e = .returned (.bool (localsB ls)) ∧ Below w.heap.size w w' := by
  unfold maxLen at hc
  have HR : Hid (w.rangeAt b o vs) := hr
  have HS : Hid (Signs w) := hS
  have HT : Hid (∀ (i : Nat) (u : Value) (l : List C), vs[i]? = some u → ls[i]? = some l → TermAt w u l) := ht
  have HV : Hid (vs.length = ls.length) := hvl
  clear hr hS ht hvl
  go_enter Tryd.func18, Tryd.ntmps18
  go_wp2_with fail
  go_loopw [7] (fun i wr => ∃ k : Nat, k ≤ ls.length ∧ i = .int .i64 k ∧ Hid ((ls.take k).all emptyOrRight = true) ∧ Below w.heap.size w wr) (fun i _ => ls.length - (intOf i).toNat)
  case atStart => exact ⟨0, by omega, rfl, rfl, Below.refl _ _⟩
  case round =>
    obtain ⟨k, hk, rfl, hall, hbr⟩ := hrel
    by_cases hlt : k < ls.length
    · have hlt' : (k : Int) < (ls.length : Int) := by omega
      have hkv : k < vs.length := by rw [HV.out]; exact hlt
      have p0 := row_cell (range_below HR.out hb hbr) k hkv
      have hbz : b < wr.heap.size := Nat.lt_of_lt_of_le hb hbr.size
      have HC : Hid (Calls Tryd.prog 17 #[vs[k]] wr fun e w' => e = .returned (.bool (rightB ls[k])) ∧ Below wr.heap.size wr w') := c22 ls[k] vs[k] wr ((HT.out k _ _ (List.getElem?_eq_getElem hkv) (List.getElem?_eq_getElem hlt)).below hbr) (HS.out.below hbr)
      obtain ⟨ak, ck, hfk⟩ := (HT.out k _ _ (List.getElem?_eq_getElem hkv) (List.getElem?_eq_getElem hlt)).form
      have hl63 : ls[k].length ≤ 2 ^ 63 - 1 := (HT.out k _ _ (List.getElem?_eq_getElem hkv) (List.getElem?_eq_getElem hlt)).1.1
      rw [hfk] at p0 HC
      clear hfk
      by_cases hpos : 0 < (ls[k].length : Int)
      · cases hok : rightB ls[k]
        · have hF : Hid (localsB ls = false) := locals_false ls k hlt (by unfold emptyOrRight; rw [hok]; simp; intro e; rw [e] at hpos; simp at hpos)
          rw [hok] at HC
          clear hok
          go_wp2_with fail
          refine HC.out.mono ?_
          rintro e w' ⟨rfl, hb2⟩
          go_wp2_with fail
          go_ret
          exact ⟨by rw [hF.out]; rfl, hbr.trans (hb2.mono hbr.size)⟩
        · have hT : Hid ((ls.take (k + 1)).all emptyOrRight = true) := locals_snoc ls k hlt hall.out (by unfold emptyOrRight; rw [hok]; simp)
          rw [hok] at HC
          clear hok
          go_wp2_with fail
          refine HC.out.mono ?_
          rintro e w' ⟨rfl, hb2⟩
          go_wp2_with fail
          go_roundw
          case rel => exact ⟨k + 1, by omega, by go_num, hT, hbr.trans (hb2.mono hbr.size)⟩
          case measure => simp [intOf]; omega
      · have hT : Hid ((ls.take (k + 1)).all emptyOrRight = true) := locals_snoc ls k hlt hall.out (by unfold emptyOrRight; rw [decide_eq_true (by omega)]; rfl)
        clear HC
        go_wp2_with fail
        go_roundw
        case rel => exact ⟨k + 1, by omega, by go_num, hT, hbr⟩
        case measure => simp [intOf]; omega
    · have hT : Hid (localsB ls = true) := by
        have h := hall.out; rw [List.take_of_length_le (by omega)] at h; exact h
      have hlt' : ¬ ((k : Int) < (ls.length : Int)) := by omega
      go_wp2_with fail
      go_ret
      exact ⟨by rw [hT.out]; rfl, hbr⟩
set_option maxHeartbeats 1000000 in
theorem c54_nil (ad : Option Addr) (w : World) :
    Calls Tryd.prog 18 #[.slice ad 0 0] w fun e w' => e = .returned (.bool true) ∧ Below w.heap.size w w' := by
  go_enter Tryd.func18, Tryd.ntmps18
  go_wp2_with fail
  refine wp_loop_rounds 1 ?_
  rw [rounds_succ]
  go_wp2_with fail
  go_ret
  exact ⟨rfl, Below.refl _ _⟩
theorem c54 (ls : List (List C)) (v : Value) (w : World) (h : RowAt w v ls) (hS : Signs w) :
    Calls Tryd.prog 18 #[v] w fun e w' => e = .returned (.bool (localsB ls)) ∧ Below w.heap.size w w' := by
  obtain ⟨hc, h⟩ := h
  rcases h with ⟨rfl, ad, rfl⟩ | ⟨b, o, cap, vs, rfl, h2, h3, h4, h5, h6, h7⟩
  · exact c54_nil ad w
  · exact c54_in ls b o cap vs w h4 hc h5 h6 h7 hS
/-- The variables of a right term. -/
theorem right_vars {l : List C} (h : rightB l = true) : ∀ x ∈ varsOf l, 0 ≤ x.2 ∧ -1 ≤ x.1 := by
  intro x hx
  unfold varsOf at hx
  obtain ⟨c, hc, rfl⟩ := List.mem_map.1 hx
  rw [List.mem_filter] at hc
  unfold rightB at h
  simp only [Bool.and_eq_true] at h
  have h1 := h.1.2
  unfold cellsB at h1
  have h2 := List.all_eq_true.1 h1 c hc.1
  have h3 : c.k = 4 := by simpa using hc.2
  unfold C.ok cellB at h2
  rw [h3] at h2
  simp [between] at h2
  simp; omega
/-- Is there no term in a place? -/
def lackB (ls : List (List C)) (n : Int) : Bool := decide ((ls.length : Int) ≤ n) || ((ls[n.toNat]?.getD []).length == 0)
def lacksB (l : List C) (ls : List (List C)) : Bool := (varsOf l).any fun x => x.1 == -1 && lackB ls x.2
set_option maxRecDepth 100000 in
set_option maxHeartbeats 4000000 in
theorem c55 (l : List C) (v : Value) (ls : List (List C)) (u : Value) (w : World) (h : TermAt w v l) (hR : RowAt w u ls) (hr : rightB l = true) :
    Calls Tryd.prog 19 #[v, u] w fun e w' => e = .returned (.bool (lacksB l ls)) ∧ Below w.heap.size w w' := by
  refine (callsIn_wide (n := 6)).1 ?_
  have HT : Hid (TermAt w v l) := h
  have HRow : Hid (RowAt w u ls) := hR
  have hlsm : ls.length ≤ 2 ^ 63 - 1 := hR.1
  have HQ := right_vars hr
  obtain ⟨ad, cap, hv⟩ := h.form
  obtain ⟨adu, capu, hu⟩ := hR.form
  subst hv hu
  clear h hR hr
  refine callsIn_of_wp_marks Tryd.func19 rfl trivial ?_ rfl
  simp only [Tryd.ntmps19, List.size_toArray, List.length_cons, List.length_nil, Nat.reduceAdd, Nat.reduceSub, Array.replicate_succ, Array.replicate_zero, List.push_toArray, List.append_toArray, List.nil_append, List.cons_append]
  gi_wp2_with (refine ⟨trivial, ?_⟩; gi_at_call 23; refine (variables_in Fence.wide _ trivial rfl _ _ ⟨_, _, _, rfl⟩).mono ?_; rintro e w' ⟨rfl, rfl⟩)
  have bU := (((Boxed.new w 31 (.slice adu ls.length capu)).alloc (.cells #[.bool false] 4)).alloc (.cells #[.slice ad l.length cap] 23)).alloc (.cells #[.slice (some ⟨w.heap.size + 1 + 1, 0, none⟩) 1 1] 31)
  have bS := ((Boxed.new (w.alloc (.cells #[.slice adu ls.length capu] 31)) 4 (.bool false)).alloc (.cells #[.slice ad l.length cap] 23)).alloc (.cells #[.slice (some ⟨w.heap.size + 1 + 1, 0, none⟩) 1 1] 31)
  have bT := (Boxed.new ((w.alloc (.cells #[.slice adu ls.length capu] 31)).alloc (.cells #[.bool false] 4)) 23 (.slice ad l.length cap)).alloc (.cells #[.slice (some ⟨w.heap.size + 1 + 1, 0, none⟩) 1 1] 31)
  have bL := Boxed.new (((w.alloc (.cells #[.slice adu ls.length capu] 31)).alloc (.cells #[.bool false] 4)).alloc (.cells #[.slice ad l.length cap] 23)) 31 (.slice (some ⟨w.heap.size + 1 + 1, 0, none⟩) 1 1)
  simp only [World.size_alloc] at bS bT bL
  have hB0 : Below w.heap.size w ((((w.alloc (.cells #[.slice adu ls.length capu] 31)).alloc (.cells #[.bool false] 4)).alloc (.cells #[.slice ad l.length cap] 23)).alloc (.cells #[.slice (some ⟨w.heap.size + 1 + 1, 0, none⟩) 1 1] 31)) := ((((Below.refl _ w).alloc (Nat.le_refl _) _).alloc (by simp) _).alloc (by simp; omega) _).alloc (by simp; omega) _
  have hsz : ((((w.alloc (.cells #[.slice adu ls.length capu] 31)).alloc (.cells #[.bool false] 4)).alloc (.cells #[.slice ad l.length cap] 23)).alloc (.cells #[.slice (some ⟨w.heap.size + 1 + 1, 0, none⟩) 1 1] 31)).heap.size = w.heap.size + 4 := by simp
  obtain ⟨W0, hW0⟩ : ∃ W0, ((((w.alloc (.cells #[.slice adu ls.length capu] 31)).alloc (.cells #[.bool false] 4)).alloc (.cells #[.slice ad l.length cap] 23)).alloc (.cells #[.slice (some ⟨w.heap.size + 1 + 1, 0, none⟩) 1 1] 31)) = W0 := ⟨_, rfl⟩
  rw [hW0] at bU bS bT bL hB0 hsz ⊢
  clear hW0
  have hrow : RowAt W0 (.slice (some ⟨w.heap.size + 1 + 1, 0, none⟩) 1 1) [l] := by
    refine ⟨by simp [maxLen], .inr ⟨_, _, _, [.slice ad l.length cap], rfl, by simp, by simp [maxLen], by omega, rfl, ?_, ?_⟩⟩
    · intro i u hu
      match i, hu with
      | 0, hu => simp at hu; subst hu; exact bT.cell
    · intro i u x hu hx
      match i, hu, hx with
      | 0, hu, hx => simp at hu hx; subst hu hx; exact HT.out.below hB0
  have hva : varsAll [l] = varsOf l := by simp [varsAll]
  refine wpIn_rangeFunc_ownH rfl (by decide) (gf := 31) (lb := #[.pointer (some ⟨w.heap.size + 1 + 1 + 1, 0, none⟩)]) rfl trivial (enters_of Tryd.func31 (by kernel_rfl) rfl)
    (vars_stops Fence.wide 5 trivial rfl (by decide) (fun x => 0 ≤ x.2) (w.heap.size + 1 + 1 + 1) [l] _ W0 W0 (by omega) (Below.refl _ _) bL.cell hrow (fun x hx => (HQ x (hva ▸ hx)).1)) belowK_t (belowK_b (Nat.le_refl _)) (Below.refl _ _) (fun _ => rfl)
    (fun pre W => ((∀ y ∈ pre, (y.1.1 == -1 && lackB ls y.1.2) = false) ∧ Boxed W (w.heap.size + 1) 4 (.bool false)) ∧ Below W0.heap.size W0 W)
    (fun c pre W => (c = .ret ∧ (∃ y ∈ pre, (y.1.1 == -1 && lackB ls y.1.2) = true) ∧ Boxed W (w.heap.size + 1) 4 (.bool true)) ∧ Below w.heap.size w W)
    (OwnFrom.and (Own.from (fun s A B row hs hg hr => ⟨hs.1, boxed_own (w.heap.size + 1) 4 (fun (_ : Unit) => Value.bool false) () A B row hs.2 hg hr⟩) _) (ownFrom_below (Nat.le_refl _) (Nat.le_refl _)))
    (fun c => OwnFrom.and (Own.from (fun s A B row hs hg hr => ⟨hs.1, hs.2.1, boxed_own (w.heap.size + 1) 4 (fun (_ : Unit) => Value.bool true) () A B row hs.2.2 hg hr⟩) _) (ownFrom_below (Nat.le_refl _) (by omega)))
    ⟨⟨by simp, bS⟩, Below.refl _ _⟩
    (fun x a' W => ∃ Bx, Pair W Bx 26 x.1.1 x.1.2 ∧ a' = { tmps := #[.slice ad l.length cap, .slice adu ls.length capu, undef, .pointer (some ⟨w.heap.size, 0, none⟩), .pointer (some ⟨w.heap.size + 1, 0, none⟩), .pointer (some ⟨Bx, 0, none⟩), .slice ad l.length cap, .slice (some ⟨w.heap.size + 1 + 1, 0, none⟩) 1 1, .func (.func 31) #[] #[.pointer (some ⟨w.heap.size + 1 + 1 + 1, 0, none⟩)], .agg #[.int .i64 x.1.1, .int .i64 x.1.2], undef, undef, undef, undef, undef, undef, undef, undef, undef, undef, undef, undef, undef, undef, undef, undef, undef, undef], defers := [] })
    (fun x a' _ X Y row hs hg hr => by obtain ⟨Bx, h2, h3⟩ := hs; exact ⟨Bx, h2.kept hg (fun r e => (hr r e).2), h3⟩)
    ?assign ?body ?done ?stop
  case assign =>
    rintro lp pre x W K ⟨⟨hp, b1⟩, hB1⟩ hK
    gi_wp2
    exact hK _ _ ((KeepsOthers.alloc _ _).from _) ((Below.refl _ W).alloc hB1.size _) ⟨⟨hp, b1.alloc _⟩, hB1.alloc hB1.size _⟩ ⟨W.heap.size, Pair.new W 26 _ _, rfl⟩
  case body =>
    rintro lp pre ⟨⟨xa, xb⟩, hq⟩ a' W hl ⟨r, hr⟩ ⟨⟨hp, b1⟩, hB1⟩ ⟨Bx, bX, rfl⟩ hlt
    have hq : 0 ≤ xb := hq
    obtain ⟨m, rfl⟩ := Int.eq_ofNat_of_zero_le hq
    have bX2 : Pair (W.alloc (.cells #[.int .i64 xa, .int .i64 (m : Int)] 26)) Bx 26 xa m := bX.kept (World.grownBy_alloc W _ none) (fun r e => by cases e)
    have cX0 := bX.cell0
    have cX1 := bX.cell1
    have dX1 := bX2.cell1
    have b2 := b1.alloc (.cells #[.int .i64 xa, .int .i64 (m : Int)] 26)
    have c1 := b2.cell
    have f1 := b2.frozen
    have bU1 : Boxed W w.heap.size 31 (.slice adu ls.length capu) := (hB1.block w.heap.size (by omega)).trans bU
    have bU2 := bU1.alloc (.cells #[.int .i64 xa, .int .i64 (m : Int)] 26)
    have cU := bU2.cell
    have HBW : Hid (Below w.heap.size w W) := hB0.trans (hB1.mono hB0.size)
    have HP : Hid (∀ y ∈ pre, (y.1.1 == -1 && lackB ls y.1.2) = false) := hp
    clear hp hr hlt bX bX2 bU1 bU2
    cases hx : (xa == -1)
    · gi_wp2_with (refine ⟨trivial, ?_⟩; gi_at_call 20; refine (CallsIn.inRound lp (isLocal_in Fence.wide _ trivial rfl _ _ _)).mono ?_; rw [hx]; rintro e w' ⟨rfl, rfl⟩)
      · rename_i h1 _; cases h1
      · rename_i h1 _; cases h1
      refine ⟨(KeepsOthers.alloc _ _).from _, (Below.refl _ W).alloc hB1.size _, ⟨fun y hy => ?_, b2⟩, hB1.alloc hB1.size _⟩
      rcases List.mem_append.1 hy with hy | hy
      · exact HP.out y hy
      · simp only [List.mem_singleton] at hy
        subst hy
        simp [hx]
    · by_cases hlen : (ls.length : Int) ≤ (m : Int)
      · have hlk : Hid (lackB ls (m : Int) = true) := by show lackB ls (m : Int) = true; unfold lackB; simp; omega
        gi_wp2_with (refine ⟨trivial, ?_⟩; gi_at_call 20; refine (CallsIn.inRound lp (isLocal_in Fence.wide _ trivial rfl _ _ _)).mono ?_; rw [hx]; rintro e w' ⟨rfl, rfl⟩)
        refine ⟨((KeepsOthers.alloc _ _).trans (KeepsOthers.setCell _ _ _)).from _, ⟨rfl, ⟨⟨(xa, (m : Int)), hq⟩, List.mem_append.2 (.inr (List.mem_singleton.2 rfl)), by simp [hlk.out]; simpa using hx⟩, b2.set _⟩, ?_⟩
        exact (HBW.out.alloc HBW.out.size _).setCell (p := ⟨w.heap.size + 1, 0, none⟩) (by simp) _
      · have hml : m < ls.length := by omega
        have hml' : (m : Int) < (ls.length : Int) := by omega
        have hBa : ∀ o1 : Obj, Hid (Below w.heap.size w (W.alloc o1)) := fun o1 => HBW.out.alloc HBW.out.size o1
        obtain ⟨_, hRw⟩ := HRow.out
        rcases hRw with ⟨hnil, _⟩ | ⟨bu, ou, cu, vs, hfu, _, _, hbu, hvl, hru, htu⟩
        · rw [hnil] at hml; simp at hml
        simp only [Value.slice.injEq, true_and] at hfu
        obtain ⟨hfu1, hfu2⟩ := hfu
        subst hfu1 hfu2
        have hmv : m < vs.length := by omega
        have q0 : ∀ o1 : Obj, (W.alloc o1).cell? ⟨bu, ou + m, none⟩ = some vs[m] := fun o1 => row_cell (range_below hru hbu (hBa o1).out) m hmv
        have htm := htu m _ _ (List.getElem?_eq_getElem hmv) (List.getElem?_eq_getElem hml)
        obtain ⟨am, cm, hfm⟩ := htm.form
        have hm63 : ls[m].length ≤ 2 ^ 63 - 1 := htm.1.1
        rw [hfm] at q0
        have q0 := q0 (.cells #[.int .i64 (-1), .int .i64 (m : Int)] 26)
        have hxa : xa = -1 := by simpa using hx
        subst hxa
        have hE : Hid (lackB ls (m : Int) = (((ls[m].length : Int)) == 0)) := by
          show lackB ls (m : Int) = _
          unfold lackB
          rw [decide_eq_false (by omega), Bool.false_or]
          simp [hml]
          rw [Bool.eq_iff_iff]; simp
        clear hru htu hfm hvl htm
        cases h0 : (((ls[m].length : Int)) == 0)
        · rw [h0] at hE
          gi_wp2_with (refine ⟨trivial, ?_⟩; gi_at_call 20; refine (CallsIn.inRound lp (isLocal_in Fence.wide _ trivial rfl _ _ _)).mono ?_; rw [hx]; rintro e w' ⟨rfl, rfl⟩)
          refine ⟨(KeepsOthers.alloc _ _).from _, (Below.refl _ W).alloc hB1.size _, ⟨fun y hy => ?_, b2⟩, hB1.alloc hB1.size _⟩
          rcases List.mem_append.1 hy with hy | hy
          · exact HP.out y hy
          · simp only [List.mem_singleton] at hy
            subst hy
            simp [hE.out]
        · rw [h0] at hE
          gi_wp2_with (refine ⟨trivial, ?_⟩; gi_at_call 20; refine (CallsIn.inRound lp (isLocal_in Fence.wide _ trivial rfl _ _ _)).mono ?_; rw [hx]; rintro e w' ⟨rfl, rfl⟩)
          refine ⟨((KeepsOthers.alloc _ _).trans (KeepsOthers.setCell _ _ _)).from _, ⟨rfl, ⟨⟨(-1, (m : Int)), hq⟩, List.mem_append.2 (.inr (List.mem_singleton.2 rfl)), by simp [hE.out]⟩, b2.set _⟩, ?_⟩
          exact (HBW.out.alloc HBW.out.size _).setCell (p := ⟨w.heap.size + 1, 0, none⟩) (by simp) _
  case done =>
    rintro D zs W hD hzs ⟨⟨hp, b1⟩, hB1⟩ hK
    have c1 := b1.cell
    have f1 := b1.frozen
    have HBW : Hid (Below w.heap.size w W) := hB0.trans (hB1.mono hB0.size)
    have hlt1 := b1.lt
    have hg : lacksB l ls = false := by
      unfold lacksB
      rw [List.any_eq_false]
      intro x hx
      rw [← hva, ← hzs] at hx
      obtain ⟨y, hy, rfl⟩ := List.mem_map.1 hx
      simp [hp y hy]
    gi_wp2
    have hK' := (KeepsOthers.setCell W ⟨w.heap.size + 1, 0, none⟩ (.bool false)).same D _ hK rfl
    refine ⟨by simp, .inl ⟨_, _, rfl, run_takeDeferred hK', ?_⟩⟩
    have hc5 := cell_kept (b1.set (.bool false)).cell (grownBy_putObj' _ D (.deferred none)) (fun r e => by cases e; exact ⟨_, hK', rfl⟩)
    refine ⟨.bool false, ?_, by rw [hg], (HBW.out.setCell (p := ⟨w.heap.size + 1, 0, none⟩) (by simp) _).trans (belowK_b (w := w) (Nat.le_refl _) _ D _ _ (by omega) hK' rfl rfl)⟩
    simp [results, Tryd.f19, go_sem, hc5]
  case stop =>
    rintro D c pre W hD hpre ⟨⟨rfl, hin, b1⟩, hB1⟩ hK
    have c1 := b1.cell
    have hg : lacksB l ls = true := by
      obtain ⟨y, hy, hy1⟩ := hin
      unfold lacksB
      rw [List.any_eq_true]
      refine ⟨y.1, ?_, hy1⟩
      rw [← hva]
      exact hpre.subset (List.mem_map.2 ⟨y, hy, rfl⟩)
    gi_wp2
    refine ⟨by simp, .inl ⟨_, _, rfl, run_takeDeferred hK, ?_⟩⟩
    have hc5 := cell_kept c1 (grownBy_putObj' _ D (.deferred none)) (fun r e => by cases e; exact ⟨_, hK, rfl⟩)
    refine ⟨.bool true, ?_, by rw [hg], hB1.trans (belowK_b (w := w) (Nat.le_refl _) W D _ _ (by omega) hK rfl rfl)⟩
    simp [results, Tryd.f19, go_sem, hc5]
end Go.Proofs.YtaehhophaaipdabDoor
