/- Contracts of the program's Fork, and of solvingBy of a map. -/
import Derived.Test.YtljggjllijacjaaGreatDoorYDh
import Derived.Maps.Views
import Derived.RangeFuncOwn
import Derived.RangeFuncKeeps
import Derived.RangeFuncFrom
import Derived.Deep.RegionHeld3
import Derived.Maps.AppendAt
import Derived.Shelf.SlMaps.Clone
namespace Go.Proofs.YtljggjllijacjaaGreatDoor
open Go.RowKit
attribute [local go_sem ↓] Go.wp_at_zero Go.wp_at_succ
set_option maxRecDepth 100000 in
set_option maxHeartbeats 2000000 in
theorem z108 (b : Nat) (es : Array MapEntry) (ck : Nat) (w : World) (hb : w.heap[b]? = some (.map es ck)) :
    Calls Tryz.prog 108 #[.map (some b)] w fun e w' => e = .returned (.map (some w.heap.size)) ∧ w' = w.alloc (.map es ck) := by
  have hq := fun w => run_eql_map_nil_sl (P := Tryz.prog) w 97 _ _ (some b) Tryz.underlying97
  go_enter Tryz.func108, Tryz.ntmps108
  go_wp2
  rw [run_callFunc_extern Tryz.func118 (by kernel_rfl) (by kernel_rfl) (by kernel_rfl) (e := Extern.MapsClone.clone) (by kernel_rfl), run_maps_clone_sl w 97 hb]
  simp only [Result.andThen]
  rw [Oper.upon_value]
  go_wp2
  rw [run_typeAssert_map_sl _ 97 20 _ _ _ Tryz.underlying97]
  simp only [Result.andThen]
  rw [Oper.upon_value]
  go_wp2
  go_ret
  exact ⟨rfl, rfl⟩
set_option maxRecDepth 100000 in
set_option maxHeartbeats 2000000 in
theorem z88 (m : Hp) (hb M n : Nat) (D : DataW Value) (w : World) (hH : HpAt w hb M n D m) :
    Calls Tryz.prog 88 #[.pointer (some ⟨hb, 0, none⟩)] w fun e w' => e = .returned (.pointer (some ⟨w.heap.size + 1, 0, none⟩)) ∧ HpAt w' (w.heap.size + 1) w.heap.size n D m ∧ Below w.heap.size w w' := by
  obtain ⟨es, ck, k1, k2⟩ := hH.map
  obtain ⟨W, hW⟩ : ∃ W, w.alloc (.map es ck) = W := ⟨_, rfl⟩
  have hbW : Below w.heap.size w W := by rw [← hW]; exact (Below.refl _ _).alloc (Nat.le_refl _) _
  have hMW : W.heap[w.heap.size]? = some (.map es ck) := by rw [← hW]; exact heap_alloc_new w _
  have hsz : W.heap.size = w.heap.size + 1 := by rw [← hW]; simp
  have H36 : Calls Tryz.prog 108 #[.map (some M)] w fun e w' => e = .returned (.map (some w.heap.size)) ∧ w' = W := by
    rw [← hW]
    exact z108 M es ck w k1
  have c0 := hH.cell
  have HF : Hid (HpAt (W.alloc (.cells #[.map (some w.heap.size)] 99)) W.heap.size w.heap.size n D m ∧ Below w.heap.size w (W.alloc (.cells #[.map (some w.heap.size)] 99))) := by
    have hb2 : Below w.heap.size w (W.alloc (.cells #[.map (some w.heap.size)] 99)) := hbW.alloc hbW.size _
    have hb3 : Below W.heap.size W (W.alloc (.cells #[.map (some w.heap.size)] 99)) := (Below.refl _ W).alloc (Nat.le_refl _) _
    refine ⟨⟨heap_alloc_new W _, ⟨es, ck, (hb3.block _ (by omega)).trans hMW, k2⟩, hH.no, fun x l hx hl => ?_, hH.desc, hH.wf⟩, hb2⟩
    obtain ⟨v, q1, q2⟩ := hH.yes x l hx hl
    exact ⟨v, q1, q2.below hb2⟩
  rw [hsz] at HF
  clear hH hbW hMW k1 k2
  go_enter Tryz.func88, Tryz.ntmps88
  go_wp2_with fail
  refine H36.mono ?_
  rintro e w1 ⟨rfl, rfl⟩
  clear H36 c0
  go_wp2_with fail
  go_ret
  exact ⟨rfl, HF.out⟩
end Go.Proofs.YtljggjllijacjaaGreatDoor
namespace Go.Proofs.YtljggjllijacjaaGreatDoor
open Go.RowKit Go.Shelf
attribute [local go_sem] Oper.semAt_some
def SbG (n : Nat) (D : DataW Value) (m : Hp) (ls : List (List C)) (e : Ending) (w w' : World) : Prop := ∃ sb hb M rv, e = .returned (.pointer (some ⟨sb, 0, none⟩)) ∧ SvAt w' sb hb (.slice none 0 0) rv 0 ∧ HpAt w' hb M n D m ∧ OwnRow w' w.heap.size rv ls.reverse ∧ Below w.heap.size w w' ∧ w.heap.size ≤ sb ∧ w.heap.size ≤ hb ∧ w.heap.size ≤ M
set_option maxRecDepth 100000 in
set_option maxHeartbeats 4000000 in
theorem z59 (m : Hp) (h0 M0 n : Nat) (D : DataW Value) (ls : List (List C)) (v : Value) (w : World) (hH0 : HpAt w h0 M0 n D m) (h : RowAt w v ls) (hby : ∀ l ∈ ls, l.length * 48 ≤ 140737488355328) (hln : ls.length * 24 ≤ 140737488355328) :
    Calls Tryz.prog 59 #[.pointer (some ⟨h0, 0, none⟩), v] w fun e w' => SbG n D m ls e w w' := by
  have H88 := z88 m h0 M0 n D w hH0
  clear hH0
  have HR : Hid (RowAt w v ls) := h
  obtain ⟨i0, hi, hz, hsz, hbyt⟩ := info29
  obtain ⟨a, c, hf⟩ := h.form
  subst hf
  clear h
  refine (callsIn_wide (n := 6)).1 ?_
  refine callsIn_of_wp_marks Tryz.func59 rfl trivial ?_ rfl
  simp only [Tryz.ntmps59, List.size_toArray, List.length_cons, List.length_nil, Nat.reduceAdd, Nat.reduceSub, Array.replicate_succ, Array.replicate_zero, List.push_toArray, List.append_toArray, List.nil_append, List.cons_append]
  gi_wp2_with (refine ⟨trivial, ?_⟩; gi_at_call 88; refine (callsIn_wide.2 H88).mono ?_; rintro e w1 ⟨rfl, hH, hB⟩)
  gi_wp2_with (refine ⟨trivial, ?_⟩; gi_at_call 89; refine (callsIn_wide.2 (u72 _ _ _ _)).mono ?_; rintro e w' ⟨rfl, hw⟩; obtain rfl := hw.symm)
  obtain ⟨n1, hn1⟩ : ∃ n1, w1.heap.size = n1 := ⟨_, rfl⟩
  obtain ⟨hb, hhb⟩ : ∃ hb, w.heap.size + 1 = hb := ⟨_, rfl⟩
  obtain ⟨vs, hvs⟩ : ∃ vs : List Value, vs.length = ls.length ∧ (vs.length = 0 ∨ ∃ g o, a = some ⟨g, o, none⟩ ∧ g < w.heap.size ∧ w.rangeAt g o vs) ∧ ∀ (i : Nat) (u : Value) (l : List C), vs[i]? = some u → ls[i]? = some l → TermAt w u l := by
    rcases HR.out.2 with ⟨e1, _⟩ | ⟨b, o, cap, vs, e1, e2, e3, e4, e5, e6, e7⟩
    · exact ⟨[], by simp [e1], .inl rfl, fun i u l h => by simp at h⟩
    · simp only [Value.slice.injEq, true_and] at e1
      exact ⟨vs, e5, .inr ⟨b, o, e1.1, e4, e6⟩, e7⟩
  have HV : Hid (vs.length = ls.length ∧ ∀ (i : Nat) (u : Value) (l : List C), vs[i]? = some u → ls[i]? = some l → TermAt w u l) := ⟨hvs.1, hvs.2.2⟩
  have hM := hH.map.lt
  have hhs := (Array.getElem?_eq_some_iff.1 hH.blk).1
  have hBs := hB.size
  have bS : SvAt ((w1.alloc (.cells #[.int .u8 0, .slice none 0 0, .slice none 0 0, .int .i64 0, .pointer (some ⟨hb, 0, none⟩), .slice none 0 0] 104)).alloc (.cells #[.pointer (some ⟨n1, 0, none⟩)] 101) |>.alloc (.cells #[.slice a ls.length c] 33)) n1 hb (.slice none 0 0) (.slice none 0 0) 0 := by
    show _ = _
    rw [heap_alloc_old _ _ (by simp; omega), heap_alloc_old _ _ (by simp; omega), ← hn1]
    exact heap_alloc_new w1 _
  have bX := (Boxed.new (w1.alloc (.cells #[.int .u8 0, .slice none 0 0, .slice none 0 0, .int .i64 0, .pointer (some ⟨hb, 0, none⟩), .slice none 0 0] 104)) 101 (.pointer (some ⟨n1, 0, none⟩))).alloc (.cells #[.slice a ls.length c] 33)
  have bC := Boxed.new ((w1.alloc (.cells #[.int .u8 0, .slice none 0 0, .slice none 0 0, .int .i64 0, .pointer (some ⟨hb, 0, none⟩), .slice none 0 0] 104)).alloc (.cells #[.pointer (some ⟨n1, 0, none⟩)] 101)) 33 (.slice a ls.length c)
  have hB0 : Below n1 w1 ((w1.alloc (.cells #[.int .u8 0, .slice none 0 0, .slice none 0 0, .int .i64 0, .pointer (some ⟨hb, 0, none⟩), .slice none 0 0] 104)).alloc (.cells #[.pointer (some ⟨n1, 0, none⟩)] 101) |>.alloc (.cells #[.slice a ls.length c] 33)) := (((Below.refl _ w1).alloc (by omega) _).alloc (by simp; omega) _).alloc (by simp; omega) _
  have hs0 : ((w1.alloc (.cells #[.int .u8 0, .slice none 0 0, .slice none 0 0, .int .i64 0, .pointer (some ⟨hb, 0, none⟩), .slice none 0 0] 104)).alloc (.cells #[.pointer (some ⟨n1, 0, none⟩)] 101) |>.alloc (.cells #[.slice a ls.length c] 33)).heap.size = n1 + 3 := by simp; omega
  simp only [World.size_alloc] at bX bC
  rw [hn1] at bX bC ⊢
  rw [hhb]
  generalize ((w1.alloc (.cells #[.int .u8 0, .slice none 0 0, .slice none 0 0, .int .i64 0, .pointer (some ⟨hb, 0, none⟩), .slice none 0 0] 104)).alloc (.cells #[.pointer (some ⟨n1, 0, none⟩)] 101) |>.alloc (.cells #[.slice a ls.length c] 33)) = W0 at *
  have hvl : vs.length ≤ maxLen := by rw [hvs.1]; unfold maxLen; omega
  have hall : ∀ u ∈ vs, ∃ a n c, u = .slice a n c := fun u hu => by
    obtain ⟨j, hj, rfl⟩ := List.getElem_of_mem hu
    obtain ⟨a', c', e⟩ := (HV.out.2 j _ _ (List.getElem?_eq_getElem hj) (List.getElem?_eq_getElem (by rw [← HV.out.1]; exact hj))).form
    exact ⟨_, _, _, e⟩
  rw [← hvs.1] at bC
  have hrow1 : vs.length = 0 ∨ ∃ g o, a = some ⟨g, o, none⟩ ∧ g < w1.heap.size ∧ w1.rangeAt g o vs := by
    rcases hvs.2.1 with e | ⟨g, o, e1, e2, e3⟩
    · exact .inl e
    · exact .inr ⟨g, o, e1, by omega, range_below e3 e2 hB⟩
  have hB0' : Below w1.heap.size w1 W0 := by rw [hn1]; exact hB0
  have HST := bw_stopsQ (QB vs) 5 (by decide) (n1 + 2) vs a c w1 W0 hB0' bC hvl hall hrow1 (fun x hx => enB_mem hx)
  rw [hn1] at HST
  have HH : Hid (HpAt w1 hb w.heap.size n D m ∧ Below w.heap.size w w1 ∧ w.heap.size < n1 ∧ hb < n1 ∧ w.heap.size ≤ hb) := ⟨by rw [← hhb]; exact hH, hB, by omega, by omega, by omega⟩
  clear hH hB hvs hM hhs hBs hrow1 hB0' hvl hall
  refine wpIn_rangeFunc_ownH rfl (by decide) (gf := 109) (lb := #[.pointer (some ⟨n1 + 2, 0, none⟩)]) rfl trivial (enters_of Tryz.func109 (by kernel_rfl) rfl)
    HST kpB_t (kpB_b (by omega) (by omega)) (Below.refl _ _) (fun _ => rfl)
    (fun pre W => SbI n1 hb (.slice a vs.length c) ls vs pre W ∧ Below n1 w1 W)
    (fun _ _ _ => False)
    (OwnFrom.and (Own.from (sbI_own n1 hb (.slice a vs.length c) ls vs) _) (ownFrom_below (by omega) (by omega)))
    (fun _ _ _ _ _ hs _ _ => hs)
    ⟨⟨_, bS, bX, ownRow_nil _ _, bC⟩, hB0⟩
    (fun x a' W => a' = { tmps := #[.pointer (some ⟨h0, 0, none⟩), .slice a ls.length c, undef, undef, .pointer none, .pointer (some ⟨hb, 0, none⟩), .pointer (some ⟨n1 + 1, 0, none⟩), undef, x.1.2, .pointer (some ⟨h0, 0, none⟩), .pointer (some ⟨hb, 0, none⟩), .pointer (some ⟨hb, 0, none⟩), .bool false, undef, .pointer (some ⟨hb, 0, none⟩), .agg #[.int .u8 0, .slice none 0 0, .slice none 0 0, .int .i64 0, .pointer (some ⟨hb, 0, none⟩), .slice none 0 0], .pointer (some ⟨n1, 0, none⟩), .slice a ls.length c, .func (.func 109) #[] #[.pointer (some ⟨n1 + 1 + 1, 0, none⟩)], .int .i64 x.1.1, x.1.2, undef, undef, undef, undef, undef, undef, undef, undef, undef, undef, undef, undef], defers := [] })
    (fun x a' _ X Y row hs hg hr => hs)
    ?assign ?body ?done ?stop
  case assign =>
    rintro lp pre x W K ⟨⟨rv, h1, h2, h3, h4⟩, hB1⟩ hK
    gi_wp2
    exact hK _ _ ((KeepsOthers.refl _).from _) ⟨Below.refl _ _, rfl⟩ ⟨⟨rv, h1, h2, h3, h4⟩, hB1⟩ rfl
  case body =>
    rintro lp pre ⟨⟨xi, xv⟩, hxq⟩ a' W hlp ⟨r, hr⟩ ⟨⟨rv, h1, h2, h3, h4⟩, hB1⟩ rfl hlt
    obtain ⟨us, ho, hea, hap⟩ := h3
    have hxl : xi < ls.length := by rw [← HV.out.1]; exact (List.getElem?_eq_some_iff.1 hxq).1
    have hTx : TermAt w xv ls[xi] := HV.out.2 xi xv ls[xi] hxq (List.getElem?_eq_getElem hxl)
    have HLx : Hid (lsAt ls (xi, xv) = ls[xi]) := by
      show lsAt ls (xi, xv) = ls[xi]
      simp [lsAt, hxl]
    obtain ⟨xa, xc, hxv⟩ := hTx.form
    subst hxv
    have HWD : Hid (Below W.heap.size W W.drew) := Below.drew (Below.refl _ _)
    have hsW : n1 + 3 ≤ W.heap.size := by have := h4.lt; omega
    have hnW : Below w.heap.size w W.drew := HH.out.2.1.trans ((hB1.mono (by have := HH.out.2.2.1; omega)).drew)
    have H42 := h22 ls[xi] _ W.drew (hTx.below hnW) (hby _ (List.getElem_mem hxl))
    have hpl : (pre.map fun x => lsAt ls x.1).length = pre.length := List.length_map _
    rw [hpl] at ho
    have hpn : pre.length < ls.length := by rw [← HV.out.1]; exact hlt
    obtain ⟨ra, rc, hrv⟩ : ∃ ra rc, rv = .slice ra pre.length rc := by
      rcases ho.2 with ⟨e1, e2⟩ | ⟨g, cp, cu, e1, _⟩
      · exact ⟨none, 0, by rw [e1, e2]⟩
      · exact ⟨_, _, e1⟩
    subst hrv
    have HEND : Hid (∀ (w3 w5 : World) (u v' : Value), Below W.drew.heap.size W.drew w3 → OwnT w3 W.drew.heap.size u ls[xi] → w5.ownsRow n1 24 1 v' (pre.length + 1) (us ++ [u]) → (w3.alloc (.cells #[u] 24)).grownBy w5 (Value.slice ra pre.length rc).ownBlock →
        w5.heap[n1]? = W.heap[n1]? ∧ KeepsFrom W0.heap.size W (w5.setCell ⟨n1, 5, none⟩ v') ∧ KpB n1 (n1 + 2) W (w5.setCell ⟨n1, 5, none⟩ v') ∧ SbI n1 hb (.slice a vs.length c) ls vs (pre ++ [⟨(xi, .slice xa ls[xi].length xc), hxq⟩]) (w5.setCell ⟨n1, 5, none⟩ v') ∧ Below n1 w1 (w5.setCell ⟨n1, 5, none⟩ v')) := fun w3 w5 u v' k1 k2 k3 k4 => by
      have kb : Below W.heap.size W w3 := HWD.out.trans k1
      have k3' : w5.ownsRow n1 24 1 v' ((pre.map fun x => lsAt ls x.1).length + 1) (us ++ [u]) := by rw [hpl]; exact k3
      have ho' : W.ownsRow n1 24 1 (.slice ra pre.length rc) (pre.map fun x => lsAt ls x.1).length us := by rw [hpl]; exact ho
      obtain ⟨m1, m2, m3, m4, m5, m6⟩ := sb_end h1 h2 h4 ho' hea hap kb k2 k3' k4
      refine ⟨?_, m1.from _, m2, ⟨v', m3, m4, ?_, m5⟩, hB1.trans m2.1⟩
      · have z3 := kb.size
        exact ((k4.block n1 (by simp; omega) (fun e => typed_apart ho h1 (by decide) e.symm)).trans (heap_alloc_old w3 _ (by omega))).trans (kb.block n1 (by omega))
      · rw [List.map_append]
        show OwnRow _ n1 v' ((pre.map fun x => lsAt ls x.1) ++ [lsAt ls (xi, .slice xa ls[xi].length xc)])
        rw [HLx.out]
        exact m6
    have HS1 : Hid (SvAt W n1 hb (.slice none 0 0) (.slice ra pre.length rc) 0) := h1
    have HOw : Hid (W.ownsRow n1 24 1 (.slice ra pre.length rc) pre.length us) := ho
    have cR : ∀ w3, Hid (Below W.drew.heap.size W.drew w3) → w3.cell? ⟨n1, 5, none⟩ = some (.slice ra pre.length rc) := fun w3 k => by
      have e := (k.out.block n1 (show n1 < W.heap.size by omega)).trans h1
      rw [cell_of_row w3 n1 5 _ 104 (0, 0) e]; rfl
    have cB : ∀ w3, Hid (Below W.drew.heap.size W.drew w3) → w3.cell? ⟨n1 + 1, 0, none⟩ = some (.pointer (some ⟨n1, 0, none⟩)) := fun w3 k => Boxed.cell ((k.out.block (n1 + 1) (show n1 + 1 < W.heap.size by omega)).trans h2)
    have HI : Hid (pre.length + 1 ≤ ls.length ∧ n1 + 3 ≤ W.drew.heap.size) := ⟨hpn, hsW⟩
    have cR0 := cR W.drew (Below.refl _ _)
    have hS0 : W.drew.cell? ⟨n1 + 1, 0, none⟩ = some (.pointer (some ⟨n1, 0, none⟩)) := cB W.drew (Below.refl _ _)
    have HWW : Hid (Below W.heap.size W W.drew) := HWD.out
    clear h1 h2 h4 ho hea hap hTx HWD hpl hr hlp hlt
    generalize hlx : ls[xi].length = lx at *
    gi_wp2
    refine region_in (S := fun u => u.cell? ⟨n1 + 1, 0, none⟩ = some (.pointer (some ⟨n1, 0, none⟩))) (by kernel_rfl) (by kernel_rfl) hS0 (fun hHeld => ?_)
    generalize W.drew = WD at *
    refine wpAnyH_take (i := 0) (v := ?_) (by simp only [List.getElem?_toArray, List.getElem?_cons_zero]; rfl) (by kernel_rfl) (by kernel_rfl) (by kernel_rfl) (fun _ _ _ h => h) (Or.inl ⟨by rfl, ?_⟩) (by assumption) ?_
    rotate_left
    · (intro w hSw; (try dsimp only at hSw); go_simp <;> with_reducible rfl)
    try simp only [Act.put, List.setIfInBounds_toArray, List.set_cons_zero, List.set_cons_succ]
    refine wpAnyH_take (i := 1) (v := ?_) (by simp only [List.getElem?_toArray, List.getElem?_cons_zero, List.getElem?_cons_succ]; rfl) (by kernel_rfl) (by kernel_rfl) (by kernel_rfl) (fun _ _ _ h => h) (Or.inl ⟨by rfl, ?_⟩) (by assumption) ?_
    rotate_left
    · (intro w hSw; (try dsimp only at hSw); go_simp <;> with_reducible rfl)
    try simp only [Act.put, List.setIfInBounds_toArray, List.set_cons_zero, List.set_cons_succ]
    refine wpAnyH_take (i := 2) (v := ?_) (by simp only [List.getElem?_toArray, List.getElem?_cons_zero, List.getElem?_cons_succ]; rfl) (by kernel_rfl) (by kernel_rfl) (by kernel_rfl) (fun _ _ _ h => h) (Or.inl ⟨by rfl, ?_⟩) (by assumption) ?_
    rotate_left
    · (intro w hSw; (try dsimp only at hSw); go_simp <;> with_reducible rfl)
    try simp only [Act.put, List.setIfInBounds_toArray, List.set_cons_zero, List.set_cons_succ]
    refine wpAnyH_take (i := 3) (v := ?_) (by simp only [List.getElem?_toArray, List.getElem?_cons_zero, List.getElem?_cons_succ]; rfl) (by kernel_rfl) (by kernel_rfl) (by kernel_rfl) (fun _ _ _ h => h) (Or.inl ⟨by rfl, ?_⟩) (by assumption) ?_
    rotate_left
    · (intro w hSw; (try dsimp only at hSw); go_simp <;> with_reducible rfl)
    try simp only [Act.put, List.setIfInBounds_toArray, List.set_cons_zero, List.set_cons_succ]
    refine wpAnyH_take (i := 5) (v := ?_) (by simp only [List.getElem?_toArray, List.getElem?_cons_zero, List.getElem?_cons_succ]; rfl) (by kernel_rfl) (by kernel_rfl) (by kernel_rfl) (fun _ _ _ h => h) (Or.inl ⟨by rfl, ?_⟩) (by assumption) ?_
    rotate_left
    · (intro w hSw; (try dsimp only at hSw); go_simp <;> with_reducible rfl)
    try simp only [Act.put, List.setIfInBounds_toArray, List.set_cons_zero, List.set_cons_succ]
    refine wpAnyH_ready (rs := [4, 6]) (by kernel_rfl) (by simp) ?_
    refine AllReadyH.cons (by simp only [List.getElem?_toArray, List.getElem?_cons_zero, List.getElem?_cons_succ]; rfl) (fun K hK => ?_) ?_
    · skip
      have cR4 := cR WD (Below.refl _ _)
      go_simp
      refine hK.out _ _ ?_ (fun hHeld => ?_)
      · exact hHeld
      clear hK K
      try simp only [Act.put, List.setIfInBounds_toArray, List.set_cons_zero, List.set_cons_succ]
      refine wpAnyH_ready (rs := [6]) (by kernel_rfl) (by simp) ?_
      refine AllReadyH.cons (by simp only [List.getElem?_toArray, List.getElem?_cons_zero, List.getElem?_cons_succ]; rfl) (fun K hK => ?_) AllReadyH.nil
      go_simp
      go_at_call 56
      refine H42.mono ?_
      rintro e w3 ⟨u3, rfl, hT3, hg3, hb3, hO3⟩
      have HB3 : Hid (Below WD.heap.size WD w3) := hb3
      have HO3 : Hid (OwnT w3 WD.heap.size u3 ls[xi]) := hO3
      have hu3 := ownT_form hO3
      rw [hlx] at hu3
      obtain ⟨ua, uc, hu3⟩ := hu3
      subst hu3
      clear hT3 hg3 hb3 hO3
      refine hK.out _ _ ?_ (fun hHeld => ?_)
      · exact cB w3 HB3
      clear hK K
      try simp only [Act.put, List.setIfInBounds_toArray, List.set_cons_zero, List.set_cons_succ]
      refine wpAnyH_ready (rs := [7]) (by kernel_rfl) (by simp) ?_
      refine AllReadyH.cons (by simp only [List.getElem?_toArray, List.getElem?_cons_zero, List.getElem?_cons_succ]; rfl) (fun K hK => ?_) AllReadyH.nil
      go_simp
      refine hK.out _ _ ?_ (fun hHeld => ?_)
      · exact cB _ (HB3.out.alloc HB3.out.size _)
      clear hK K
      try simp only [Act.put, List.setIfInBounds_toArray, List.set_cons_zero, List.set_cons_succ]
      refine wpAnyH_ready (rs := [8]) (by kernel_rfl) (by simp) ?_
      refine AllReadyH.cons (by simp only [List.getElem?_toArray, List.getElem?_cons_zero, List.getElem?_cons_succ]; rfl) (fun K hK => ?_) AllReadyH.nil
      have HR3 : Hid ((w3.alloc (.cells #[.slice ua lx uc] 24)).ownsRow n1 24 1 (.slice ra pre.length rc) pre.length us) := World.ownsRow.alloc (owns_low (owns_low HOw.out HWW.out) HB3.out) _
      refine stepH_append (by rfl) _ _ 33 (by rfl) n1 24 i0 (.slice none 0 0) 1 24 Tryz.underlying33 hi hz hsz hbyt rfl (by decide) (.slice ra pre.length rc) pre.length us (by rfl) HR3.out ⟨w3.heap.size, 0, none⟩ 1 1 [.slice ua lx uc] (by rfl) (by rfl) (fun j u hu => by rw [Addr.add_mid]; exact range_new w3 [.slice ua lx uc] 24 j u hu) (fun u hu => by simp at hu; subst hu; rfl) (by have := HI.out.1; unfold maxLen; omega) (by have := HI.out.1; omega) (by have := HI.out.2; have := HB3.out.size; simp; omega) ?_
      intro v' w5 hown5 hgr5 hat5
      obtain ⟨g5, c5x, hv5⟩ := ownsRow_succ hown5
      subst hv5
      obtain ⟨x0, x1, x2, x3, x4⟩ := HEND.out w3 w5 _ _ HB3.out HO3.out hown5 hgr5
      have HX : Hid (KeepsFrom W0.heap.size W (w5.setCell ⟨n1, 5, none⟩ (.slice (some ⟨g5, 0, none⟩) (pre.length + 1) c5x)) ∧ KpB n1 (n1 + 2) W (w5.setCell ⟨n1, 5, none⟩ (.slice (some ⟨g5, 0, none⟩) (pre.length + 1) c5x)) ∧ SbI n1 hb (.slice a vs.length c) ls vs (pre ++ [⟨(xi, .slice xa lx xc), hxq⟩]) (w5.setCell ⟨n1, 5, none⟩ (.slice (some ⟨g5, 0, none⟩) (pre.length + 1) c5x)) ∧ Below n1 w1 (w5.setCell ⟨n1, 5, none⟩ (.slice (some ⟨g5, 0, none⟩) (pre.length + 1) c5x))) := ⟨x1, x2, x3, x4⟩
      have x5 := x0.trans HS1.out
      have c5 : w5.cell? ⟨n1, 5, none⟩ = some (.slice ra pre.length rc) := by rw [cell_of_row w5 n1 5 _ 104 (0, 0) x5]; rfl
      have f5 : w5.frozen? ⟨n1, 5, none⟩ = false := frozen_of_row w5 n1 5 _ 104 x5
      obtain ⟨_, _, x6, _⟩ := x3
      have s5' : (w5.setCell ⟨n1, 5, none⟩ (.slice (some ⟨g5, 0, none⟩) (pre.length + 1) c5x)).cell? ⟨n1 + 1, 0, none⟩ = some (.pointer (some ⟨n1, 0, none⟩)) := x6.cell
      have s5 : w5.cell? ⟨n1 + 1, 0, none⟩ = some (.pointer (some ⟨n1, 0, none⟩)) := Boxed.cell ((heap_setCell_other w5 ⟨n1, 5, none⟩ (n1 + 1) _ (by simp)).symm.trans x6)
      clear x0 x1 x2 x4 x5 x6 hown5 hgr5 hat5
      refine hK.out _ _ ?_ (fun hHeld => ?_)
      · exact s5
      clear hK K
      try simp only [Act.put, List.setIfInBounds_toArray, List.set_cons_zero, List.set_cons_succ]
      refine wpAnyH_take (i := 9) (v := ?_) (by simp only [List.getElem?_toArray, List.getElem?_cons_zero, List.getElem?_cons_succ]; rfl) (by kernel_rfl) (by kernel_rfl) (by kernel_rfl) (fun _ _ _ h => h) (Or.inl ⟨by rfl, ?_⟩) (by assumption) ?_
      rotate_left
      · (intro w hSw; (try dsimp only at hSw); go_simp <;> with_reducible rfl)
      try simp only [Act.put, List.setIfInBounds_toArray, List.set_cons_zero, List.set_cons_succ]
      refine wpAnyH_take (i := 10) (v := ?_) (by simp only [List.getElem?_toArray, List.getElem?_cons_zero, List.getElem?_cons_succ]; rfl) (by kernel_rfl) (by kernel_rfl) (by kernel_rfl) (fun _ _ _ h => h) (Or.inl ⟨by rfl, ?_⟩) (by assumption) ?_
      rotate_left
      · (intro w hSw; (try dsimp only at hSw); go_simp <;> with_reducible rfl)
      try simp only [Act.put, List.setIfInBounds_toArray, List.set_cons_zero, List.set_cons_succ]
      refine wpAnyH_ready (rs := [11]) (by kernel_rfl) (by simp) ?_
      refine AllReadyH.cons (by simp only [List.getElem?_toArray, List.getElem?_cons_zero, List.getElem?_cons_succ]; rfl) (fun K hK => ?_) AllReadyH.nil
      go_simp
      refine hK.out _ _ ?_ (fun hHeld => ?_)
      · exact s5'
      clear hK K
      try simp only [Act.put, List.setIfInBounds_toArray, List.set_cons_zero, List.set_cons_succ]
      refine wpAnyH_done (by kernel_rfl) ?_ _
      simp only [OnlyN]
      gi_wp2
      exact ⟨HX.out.1, HX.out.2.1, HX.out.2.2.1, HX.out.2.2.2⟩
    refine AllReadyH.cons (by simp only [List.getElem?_toArray, List.getElem?_cons_zero, List.getElem?_cons_succ]; rfl) (fun K hK => ?_) AllReadyH.nil
    go_simp
    go_at_call 56
    refine H42.mono ?_
    rintro e w3 ⟨u3, rfl, hT3, hg3, hb3, hO3⟩
    have HB3 : Hid (Below WD.heap.size WD w3) := hb3
    have HO3 : Hid (OwnT w3 WD.heap.size u3 ls[xi]) := hO3
    have hu3 := ownT_form hO3
    rw [hlx] at hu3
    obtain ⟨ua, uc, hu3⟩ := hu3
    subst hu3
    clear hT3 hg3 hb3 hO3
    refine hK.out _ _ ?_ (fun hHeld => ?_)
    · exact cB w3 HB3
    clear hK K
    try simp only [Act.put, List.setIfInBounds_toArray, List.set_cons_zero, List.set_cons_succ]
    refine wpAnyH_ready (rs := [4, 7]) (by kernel_rfl) (by simp) ?_
    refine AllReadyH.cons (by simp only [List.getElem?_toArray, List.getElem?_cons_zero, List.getElem?_cons_succ]; rfl) (fun K hK => ?_) ?_
    · skip
      have cR4 := cR w3 HB3
      go_simp
      refine hK.out _ _ ?_ (fun hHeld => ?_)
      · exact hHeld
      clear hK K
      try simp only [Act.put, List.setIfInBounds_toArray, List.set_cons_zero, List.set_cons_succ]
      refine wpAnyH_ready (rs := [7]) (by kernel_rfl) (by simp) ?_
      refine AllReadyH.cons (by simp only [List.getElem?_toArray, List.getElem?_cons_zero, List.getElem?_cons_succ]; rfl) (fun K hK => ?_) AllReadyH.nil
      go_simp
      refine hK.out _ _ ?_ (fun hHeld => ?_)
      · exact cB _ (HB3.out.alloc HB3.out.size _)
      clear hK K
      try simp only [Act.put, List.setIfInBounds_toArray, List.set_cons_zero, List.set_cons_succ]
      refine wpAnyH_ready (rs := [8]) (by kernel_rfl) (by simp) ?_
      refine AllReadyH.cons (by simp only [List.getElem?_toArray, List.getElem?_cons_zero, List.getElem?_cons_succ]; rfl) (fun K hK => ?_) AllReadyH.nil
      have HR3 : Hid ((w3.alloc (.cells #[.slice ua lx uc] 24)).ownsRow n1 24 1 (.slice ra pre.length rc) pre.length us) := World.ownsRow.alloc (owns_low (owns_low HOw.out HWW.out) HB3.out) _
      refine stepH_append (by rfl) _ _ 33 (by rfl) n1 24 i0 (.slice none 0 0) 1 24 Tryz.underlying33 hi hz hsz hbyt rfl (by decide) (.slice ra pre.length rc) pre.length us (by rfl) HR3.out ⟨w3.heap.size, 0, none⟩ 1 1 [.slice ua lx uc] (by rfl) (by rfl) (fun j u hu => by rw [Addr.add_mid]; exact range_new w3 [.slice ua lx uc] 24 j u hu) (fun u hu => by simp at hu; subst hu; rfl) (by have := HI.out.1; unfold maxLen; omega) (by have := HI.out.1; omega) (by have := HI.out.2; have := HB3.out.size; simp; omega) ?_
      intro v' w5 hown5 hgr5 hat5
      obtain ⟨g5, c5x, hv5⟩ := ownsRow_succ hown5
      subst hv5
      obtain ⟨x0, x1, x2, x3, x4⟩ := HEND.out w3 w5 _ _ HB3.out HO3.out hown5 hgr5
      have HX : Hid (KeepsFrom W0.heap.size W (w5.setCell ⟨n1, 5, none⟩ (.slice (some ⟨g5, 0, none⟩) (pre.length + 1) c5x)) ∧ KpB n1 (n1 + 2) W (w5.setCell ⟨n1, 5, none⟩ (.slice (some ⟨g5, 0, none⟩) (pre.length + 1) c5x)) ∧ SbI n1 hb (.slice a vs.length c) ls vs (pre ++ [⟨(xi, .slice xa lx xc), hxq⟩]) (w5.setCell ⟨n1, 5, none⟩ (.slice (some ⟨g5, 0, none⟩) (pre.length + 1) c5x)) ∧ Below n1 w1 (w5.setCell ⟨n1, 5, none⟩ (.slice (some ⟨g5, 0, none⟩) (pre.length + 1) c5x))) := ⟨x1, x2, x3, x4⟩
      have x5 := x0.trans HS1.out
      have c5 : w5.cell? ⟨n1, 5, none⟩ = some (.slice ra pre.length rc) := by rw [cell_of_row w5 n1 5 _ 104 (0, 0) x5]; rfl
      have f5 : w5.frozen? ⟨n1, 5, none⟩ = false := frozen_of_row w5 n1 5 _ 104 x5
      obtain ⟨_, _, x6, _⟩ := x3
      have s5' : (w5.setCell ⟨n1, 5, none⟩ (.slice (some ⟨g5, 0, none⟩) (pre.length + 1) c5x)).cell? ⟨n1 + 1, 0, none⟩ = some (.pointer (some ⟨n1, 0, none⟩)) := x6.cell
      have s5 : w5.cell? ⟨n1 + 1, 0, none⟩ = some (.pointer (some ⟨n1, 0, none⟩)) := Boxed.cell ((heap_setCell_other w5 ⟨n1, 5, none⟩ (n1 + 1) _ (by simp)).symm.trans x6)
      clear x0 x1 x2 x4 x5 x6 hown5 hgr5 hat5
      refine hK.out _ _ ?_ (fun hHeld => ?_)
      · exact s5
      clear hK K
      try simp only [Act.put, List.setIfInBounds_toArray, List.set_cons_zero, List.set_cons_succ]
      refine wpAnyH_take (i := 9) (v := ?_) (by simp only [List.getElem?_toArray, List.getElem?_cons_zero, List.getElem?_cons_succ]; rfl) (by kernel_rfl) (by kernel_rfl) (by kernel_rfl) (fun _ _ _ h => h) (Or.inl ⟨by rfl, ?_⟩) (by assumption) ?_
      rotate_left
      · (intro w hSw; (try dsimp only at hSw); go_simp <;> with_reducible rfl)
      try simp only [Act.put, List.setIfInBounds_toArray, List.set_cons_zero, List.set_cons_succ]
      refine wpAnyH_take (i := 10) (v := ?_) (by simp only [List.getElem?_toArray, List.getElem?_cons_zero, List.getElem?_cons_succ]; rfl) (by kernel_rfl) (by kernel_rfl) (by kernel_rfl) (fun _ _ _ h => h) (Or.inl ⟨by rfl, ?_⟩) (by assumption) ?_
      rotate_left
      · (intro w hSw; (try dsimp only at hSw); go_simp <;> with_reducible rfl)
      try simp only [Act.put, List.setIfInBounds_toArray, List.set_cons_zero, List.set_cons_succ]
      refine wpAnyH_ready (rs := [11]) (by kernel_rfl) (by simp) ?_
      refine AllReadyH.cons (by simp only [List.getElem?_toArray, List.getElem?_cons_zero, List.getElem?_cons_succ]; rfl) (fun K hK => ?_) AllReadyH.nil
      go_simp
      refine hK.out _ _ ?_ (fun hHeld => ?_)
      · exact s5'
      clear hK K
      try simp only [Act.put, List.setIfInBounds_toArray, List.set_cons_zero, List.set_cons_succ]
      refine wpAnyH_done (by kernel_rfl) ?_ _
      simp only [OnlyN]
      gi_wp2
      exact ⟨HX.out.1, HX.out.2.1, HX.out.2.2.1, HX.out.2.2.2⟩
    refine AllReadyH.cons (by simp only [List.getElem?_toArray, List.getElem?_cons_zero, List.getElem?_cons_succ]; rfl) (fun K hK => ?_) AllReadyH.nil
    go_simp
    refine hK.out _ _ ?_ (fun hHeld => ?_)
    · exact cB _ (HB3.out.alloc HB3.out.size _)
    clear hK K
    try simp only [Act.put, List.setIfInBounds_toArray, List.set_cons_zero, List.set_cons_succ]
    refine wpAnyH_ready (rs := [4]) (by kernel_rfl) (by simp) ?_
    refine AllReadyH.cons (by simp only [List.getElem?_toArray, List.getElem?_cons_zero, List.getElem?_cons_succ]; rfl) (fun K hK => ?_) AllReadyH.nil
    have cR4 := cR _ (HB3.out.alloc HB3.out.size _ : Hid (Below WD.heap.size WD (w3.alloc (.cells #[.slice ua lx uc] 24))))
    go_simp
    refine hK.out _ _ ?_ (fun hHeld => ?_)
    · exact hHeld
    clear hK K
    try simp only [Act.put, List.setIfInBounds_toArray, List.set_cons_zero, List.set_cons_succ]
    refine wpAnyH_ready (rs := [8]) (by kernel_rfl) (by simp) ?_
    refine AllReadyH.cons (by simp only [List.getElem?_toArray, List.getElem?_cons_zero, List.getElem?_cons_succ]; rfl) (fun K hK => ?_) AllReadyH.nil
    have HR3 : Hid ((w3.alloc (.cells #[.slice ua lx uc] 24)).ownsRow n1 24 1 (.slice ra pre.length rc) pre.length us) := World.ownsRow.alloc (owns_low (owns_low HOw.out HWW.out) HB3.out) _
    refine stepH_append (by rfl) _ _ 33 (by rfl) n1 24 i0 (.slice none 0 0) 1 24 Tryz.underlying33 hi hz hsz hbyt rfl (by decide) (.slice ra pre.length rc) pre.length us (by rfl) HR3.out ⟨w3.heap.size, 0, none⟩ 1 1 [.slice ua lx uc] (by rfl) (by rfl) (fun j u hu => by rw [Addr.add_mid]; exact range_new w3 [.slice ua lx uc] 24 j u hu) (fun u hu => by simp at hu; subst hu; rfl) (by have := HI.out.1; unfold maxLen; omega) (by have := HI.out.1; omega) (by have := HI.out.2; have := HB3.out.size; simp; omega) ?_
    intro v' w5 hown5 hgr5 hat5
    obtain ⟨g5, c5x, hv5⟩ := ownsRow_succ hown5
    subst hv5
    obtain ⟨x0, x1, x2, x3, x4⟩ := HEND.out w3 w5 _ _ HB3.out HO3.out hown5 hgr5
    have HX : Hid (KeepsFrom W0.heap.size W (w5.setCell ⟨n1, 5, none⟩ (.slice (some ⟨g5, 0, none⟩) (pre.length + 1) c5x)) ∧ KpB n1 (n1 + 2) W (w5.setCell ⟨n1, 5, none⟩ (.slice (some ⟨g5, 0, none⟩) (pre.length + 1) c5x)) ∧ SbI n1 hb (.slice a vs.length c) ls vs (pre ++ [⟨(xi, .slice xa lx xc), hxq⟩]) (w5.setCell ⟨n1, 5, none⟩ (.slice (some ⟨g5, 0, none⟩) (pre.length + 1) c5x)) ∧ Below n1 w1 (w5.setCell ⟨n1, 5, none⟩ (.slice (some ⟨g5, 0, none⟩) (pre.length + 1) c5x))) := ⟨x1, x2, x3, x4⟩
    have x5 := x0.trans HS1.out
    have c5 : w5.cell? ⟨n1, 5, none⟩ = some (.slice ra pre.length rc) := by rw [cell_of_row w5 n1 5 _ 104 (0, 0) x5]; rfl
    have f5 : w5.frozen? ⟨n1, 5, none⟩ = false := frozen_of_row w5 n1 5 _ 104 x5
    obtain ⟨_, _, x6, _⟩ := x3
    have s5' : (w5.setCell ⟨n1, 5, none⟩ (.slice (some ⟨g5, 0, none⟩) (pre.length + 1) c5x)).cell? ⟨n1 + 1, 0, none⟩ = some (.pointer (some ⟨n1, 0, none⟩)) := x6.cell
    have s5 : w5.cell? ⟨n1 + 1, 0, none⟩ = some (.pointer (some ⟨n1, 0, none⟩)) := Boxed.cell ((heap_setCell_other w5 ⟨n1, 5, none⟩ (n1 + 1) _ (by simp)).symm.trans x6)
    clear x0 x1 x2 x4 x5 x6 hown5 hgr5 hat5
    refine hK.out _ _ ?_ (fun hHeld => ?_)
    · exact s5
    clear hK K
    try simp only [Act.put, List.setIfInBounds_toArray, List.set_cons_zero, List.set_cons_succ]
    refine wpAnyH_take (i := 9) (v := ?_) (by simp only [List.getElem?_toArray, List.getElem?_cons_zero, List.getElem?_cons_succ]; rfl) (by kernel_rfl) (by kernel_rfl) (by kernel_rfl) (fun _ _ _ h => h) (Or.inl ⟨by rfl, ?_⟩) (by assumption) ?_
    rotate_left
    · (intro w hSw; (try dsimp only at hSw); go_simp <;> with_reducible rfl)
    try simp only [Act.put, List.setIfInBounds_toArray, List.set_cons_zero, List.set_cons_succ]
    refine wpAnyH_take (i := 10) (v := ?_) (by simp only [List.getElem?_toArray, List.getElem?_cons_zero, List.getElem?_cons_succ]; rfl) (by kernel_rfl) (by kernel_rfl) (by kernel_rfl) (fun _ _ _ h => h) (Or.inl ⟨by rfl, ?_⟩) (by assumption) ?_
    rotate_left
    · (intro w hSw; (try dsimp only at hSw); go_simp <;> with_reducible rfl)
    try simp only [Act.put, List.setIfInBounds_toArray, List.set_cons_zero, List.set_cons_succ]
    refine wpAnyH_ready (rs := [11]) (by kernel_rfl) (by simp) ?_
    refine AllReadyH.cons (by simp only [List.getElem?_toArray, List.getElem?_cons_zero, List.getElem?_cons_succ]; rfl) (fun K hK => ?_) AllReadyH.nil
    go_simp
    refine hK.out _ _ ?_ (fun hHeld => ?_)
    · exact s5'
    clear hK K
    try simp only [Act.put, List.setIfInBounds_toArray, List.set_cons_zero, List.set_cons_succ]
    refine wpAnyH_done (by kernel_rfl) ?_ _
    simp only [OnlyN]
    gi_wp2
    exact ⟨HX.out.1, HX.out.2.1, HX.out.2.2.1, HX.out.2.2.2⟩
  case done =>
    rintro D zs W hD hzs ⟨⟨rv, h1, h2, h3, h4⟩, hB1⟩ hK
    have hg := grownBy_putObj' W D (.deferred none)
    have hr : ∀ r, some D = some r → ∃ o : Obj, W.heap[r]? = some o ∧ o.isCells = false := fun r e => by cases e; exact ⟨_, hK, rfl⟩
    have HS : Hid (SvAt (W.putObj D (.deferred none)) n1 hb (.slice none 0 0) rv 0) := cells_kept hg hr h1
    have HO : Hid (OwnRow (W.putObj D (.deferred none)) n1 rv ls.reverse) := by
      have h5 : (zs.map fun x => lsAt ls x.1) = ls.reverse := by
        have h6 := enB_ls vs ls HV.out.1
        rw [← hzs, List.map_map] at h6
        exact h6
      show OwnRow _ n1 rv ls.reverse
      rw [h5] at h3
      exact ownRow_cells hg hr h3
    have HBW : Hid (Below n1 w1 (W.putObj D (.deferred none))) := hB1.trans (belowK_b (w := W0) (by omega) W D _ _ hD hK rfl rfl)
    have cX := h2.cell
    clear h1 h2 h3 h4 hg hr hzs
    gi_wp2
    refine ⟨by simp, .inl ⟨_, _, rfl, run_takeDeferred hK, ?_⟩⟩
    refine ⟨.pointer (some ⟨n1, 0, none⟩), ?_, ?_⟩
    · simp [results, Tryz.f59, go_sem]
    · obtain ⟨k1, k2, k3, k4, k5⟩ := HH.out
      refine ⟨n1, hb, w.heap.size, rv, rfl, HS.out, ?_, ownRow_base HO.out (by omega), k2.trans (HBW.out.mono (by omega)), by omega, k5, Nat.le_refl _⟩
      have e := HBW.out
      rw [← hn1] at e
      exact k1.below e
  case stop =>
    rintro D c pre W hD hpre hF
    exact hF.elim
end Go.Proofs.YtljggjllijacjaaGreatDoor
