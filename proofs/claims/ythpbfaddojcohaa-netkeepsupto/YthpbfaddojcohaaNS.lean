/- Contracts of Drop, of Double of none, of 'of' (how many of a row are like a datagram). -/
import Derived.Test.YthpbfaddojcohaaNR
namespace Go.Proofs.Ythpbfaddojcohaa
open Go.RowKit
attribute [local go_sem ↓] Go.wp_at_zero Go.wp_at_succ
set_option maxRecDepth 100000 in
theorem n19_no (nb B : Nat) (v : Value) (N : Nt) (k : Int) (w : World) (h : NtAt w nb B v N) (hk : hasN N.l.length k = false) :
    Calls Try.prog 19 #[.pointer (some ⟨nb, 0, none⟩), .int .i64 k] w fun e w' => e = .returned (.int .i64 4) ∧ w' = w := by
  have H44 := n44 nb B v N k _ h
  rw [hk, if_neg (by simp)] at H44
  clear h hk
  go_enter Try.func19, Try.ntmps19
  go_wp2_with fail
  refine H44.mono ?_
  rintro e w1 ⟨rfl, hw⟩
  obtain rfl := hw
  go_wp2_with fail
  go_ret
  exact ⟨rfl, rfl⟩
set_option maxRecDepth 100000 in
theorem n20_no (nb B : Nat) (v : Value) (N : Nt) (k : Int) (w : World) (h : NtAt w nb B v N) (hk : hasN N.l.length k = false) :
    Calls Try.prog 20 #[.pointer (some ⟨nb, 0, none⟩), .int .i64 k] w fun e w' => e = .returned (.int .i64 4) ∧ w' = w := by
  have H44 := n44 nb B v N k _ h
  rw [hk, if_neg (by simp)] at H44
  clear h hk
  go_enter Try.func20, Try.ntmps20
  go_wp2_with fail
  refine H44.mono ?_
  rintro e w1 ⟨rfl, hw⟩
  obtain rfl := hw
  go_wp2_with fail
  go_ret
  exact ⟨rfl, rfl⟩
set_option maxRecDepth 100000 in
set_option maxHeartbeats 1000000 in
theorem n19 (nb B : Nat) (v : Value) (N : Nt) (cs : List Dc) (k : Nat) (w : World) (h : NtC w nb B v N cs) (hk : k < N.l.length) (hd0 : 0 ≤ N.r) (hd1 : N.r ≤ 1000000000000) :
    Calls Try.prog 19 #[.pointer (some ⟨nb, 0, none⟩), .int .i64 k] w fun e w' => e = .returned (.int .i64 0) ∧ TakePost nb B v { N with r := N.r + 1 } (restC k cs) w w' := by
  obtain ⟨m, hm⟩ : ∃ m, N.l.length = m + 1 := ⟨N.l.length - 1, by omega⟩
  have hown := h.at_.own
  rw [hm] at hown
  obtain ⟨g, cap, hv⟩ := owns_some hown
  subst hv
  clear hown
  have H44 := n44 nb B _ N k _ h.at_
  rw [show hasN N.l.length k = true by simp [hasN]; omega, if_pos rfl] at H44
  have hd := h.at_.cells.2.2.2.1
  have hfz := h.at_.frozen 3
  have h1 : NtC (w.setCell ⟨nb, 3, none⟩ (.int .i64 (N.r + 1))) nb B (.slice (some ⟨g, 0, none⟩) (m + 1) cap) { N with r := N.r + 1 } cs := h.from (h.at_.setr (N.r + 1)) rfl (keepN_set _ _ nb 3 _)
  have hF1 : FromN nb (.slice (some ⟨g, 0, none⟩) (m + 1) cap) w (.slice (some ⟨g, 0, none⟩) (m + 1) cap) (w.setCell ⟨nb, 3, none⟩ (.int .i64 (N.r + 1))) := ⟨keepN_set _ _ nb 3 _, fun _ e => .inl e⟩
  have H45 := n45 nb B g cap m k { N with r := N.r + 1 } _ h1.at_ hm (by omega)
  have H1 : Hid (NtC (w.setCell ⟨nb, 3, none⟩ (.int .i64 (N.r + 1))) nb B (.slice (some ⟨g, 0, none⟩) (m + 1) cap) { N with r := N.r + 1 } cs ∧ FromN nb (.slice (some ⟨g, 0, none⟩) (m + 1) cap) w (.slice (some ⟨g, 0, none⟩) (m + 1) cap) (w.setCell ⟨nb, 3, none⟩ (.int .i64 (N.r + 1)))) := ⟨h1, hF1⟩
  clear h h1 hF1
  go_enter Try.func19, Try.ntmps19
  go_wp2_with fail
  refine H44.mono ?_
  rintro e w1 ⟨rfl, hw⟩
  obtain rfl := hw.symm
  clear H44
  go_wp2_with fail
  refine H45.mono ?_
  rintro e w2 ⟨rfl, v2, hN2, hF2, _⟩
  clear H45 hd hfz
  have HT : Hid (TakePost nb B (.slice (some ⟨g, 0, none⟩) (m + 1) cap) { N with r := N.r + 1 } (restC k cs) w w2) := ⟨v2, _, ⟨hN2, (H1.out.1.own.keep H1.out.1.at_ hF2.keep).rest⟩, H1.out.2.trans hF2⟩
  clear hN2 hF2 H1
  simp only [Dg.box]
  go_wp2_with fail
  go_ret
  exact ⟨rfl, HT.out⟩
/-- How many of a row say what a datagram says. -/
def cnt (x : Dc) (cs : List Dc) : Nat := cs.countP (fun y => sameC y x)
theorem cnt_append (x : Dc) (l m : List Dc) : cnt x (l ++ m) = cnt x l + cnt x m := by simp [cnt, List.countP_append]
theorem cnt_le (x : Dc) (l : List Dc) : cnt x l ≤ l.length := List.countP_le_length
theorem cnt_one (x y : Dc) : cnt x [y] = if sameC y x then 1 else 0 := by simp [cnt, List.countP_cons]
set_option maxRecDepth 100000 in
set_option maxHeartbeats 1000000 in
theorem n18 (a : Option Addr) (n c : Nat) (ds : List Dg) (cs : List Dc) (d : Dg) (x : Dc) (w : World) (h : ArgRow w (fun q => q < w.heap.size) a n ds cs) (hd : DgIs d x) (hb : ByAt w d.ba d.bn d.bc x.xs) (hm : ∀ y ∈ cs, y.xs.length ≤ maxLen) (hmx : x.xs.length ≤ maxLen) (hn : n ≤ 1000000000000) :
    Calls Try.prog 18 #[.slice a n c, .agg d.box] w fun e w' => e = .returned (.int .i64 (cnt x cs)) ∧ Below w.heap.size w w' := by
  have HX : Hid (ArgRow w (fun q => q < w.heap.size) a n ds cs) := h
  have HM : Hid ((∀ y ∈ cs, y.xs.length ≤ maxLen) ∧ x.xs.length ≤ maxLen) := ⟨hm, hmx⟩
  have HD : Hid (DgIs d x) := hd
  have HBy : Hid (ByAt w d.ba d.bn d.bc x.xs) := hb
  have hcl : cs.length = n := h.lenc
  obtain ⟨fr, to, ak, sq, ba, bn, bc⟩ := d
  show Calls Try.prog 18 #[.slice a n c, .agg #[.int .i64 fr, .int .i64 to, .bool ak, .int .i64 sq, .slice ba bn bc]] w _
  obtain ⟨W0, hW0⟩ : ∃ W0, W0 = w.alloc (.cells #[.int .i64 fr, .int .i64 to, .bool ak, .int .i64 sq, .slice ba bn bc] 46) := ⟨_, rfl⟩
  have HB0 : Hid (Below w.heap.size w W0 ∧ W0.heap.size = w.heap.size + 1 ∧ BoxS w.heap.size ⟨fr, to, ak, sq, ba, bn, bc⟩ W0) := by
    rw [hW0]
    exact ⟨(Below.refl _ w).alloc (Nat.le_refl _) _, by simp, boxS_new w ⟨fr, to, ak, sq, ba, bn, bc⟩⟩
  clear h hd hb hm hmx
  go_enter Try.func18, Try.ntmps18
  go_wp2_with fail
  rw [← hW0]
  clear hW0
  go_loopw [5, 6] (fun q i wr => ∃ k : Nat, k ≤ n ∧ i = .int .i64 k ∧ q = .int .i64 (cnt x (cs.take k)) ∧ Below W0.heap.size W0 wr) (fun _ i _ => n - (intOf i).toNat)
  case atStart => exact ⟨0, by omega, rfl, by simp [cnt], Below.refl _ _⟩
  case round =>
    obtain ⟨k, hk, rfl, rfl, hbr⟩ := hrel
    have hcl' := cnt_le x (cs.take k)
    have hb0 : Below w.heap.size w wr := HB0.out.1.trans (hbr.mono HB0.out.1.size)
    rw [List.length_take] at hcl'
    by_cases hlt : k < n
    · have hlt' : (k : Int) < (n : Int) := by omega
      have hk0 : (0 : Int) ≤ (k : Int) := by omega
      have hkc : k < cs.length := by omega
      obtain ⟨b, o, d', y, rfl, _, _, hy, hdi, hby, p0, p1, p2, p3, p4⟩ := (HX.out.below hb0).cells k hlt
      obtain ⟨q0, q1, q2, q3, q4⟩ := boxS_below HB0.out.2.2 hbr (by rw [HB0.out.2.1]; omega)
      have hyk : cs[k] = y := by
        have := List.getElem?_eq_getElem hkc
        rw [hy] at this; cases this; rfl
      have HT : Hid (cnt x (cs.take (k + 1)) = cnt x (cs.take k) + if sameC y x then 1 else 0) := by
        show cnt x (cs.take (k + 1)) = _
        rw [List.take_succ_eq_append_getElem hkc, cnt_append, cnt_one, hyk]
      have hbd : Below wr.heap.size wr wr.drew := Below.drew (Below.refl _ _)
      have H23 := n23 d' ⟨fr, to, ak, sq, ba, bn, bc⟩ y x wr.drew hdi HD.out ((hby.at fun q hq => hq).below hbd) ((HBy.out.below hb0).below hbd) (by rw [hdi.2.2.2.2]; exact HM.out.1 y (List.mem_of_getElem? hy)) (by rw [HD.out.2.2.2.2]; exact HM.out.2)
      obtain ⟨fr2, to2, ak2, sq2, ba2, bn2, bc2⟩ := d'
      simp only at p0 p1 p2 p3 p4 q0 q1 q2 q3 q4
      clear hdi hby hy hyk hbd hb0
      generalize cnt x (cs.take k) = cq at *
      cases hs : sameC y x
      · rw [hs] at H23
        have HT2 : Hid (cnt x (cs.take (k + 1)) = cq) := by show cnt x (cs.take (k + 1)) = cq; have := HT.out; rw [hs] at this; simpa using this
        clear HT hs
        go_wp2_with fail
        go_region_with (go_at_call 23; refine H23.mono ?_; rintro e w3 ⟨rfl, hb3⟩)
        all_goals (
          have HB3 : Hid (Below W0.heap.size W0 w3) := hbr.trans ((Below.drew (Below.refl _ _)).trans (hb3.mono hbr.size))
          clear hb3 p0 p1 p2 p3 p4 q0 q1 q2 q3 q4
          go_wp2_with fail
          go_roundw
          case rel => exact ⟨k + 1, by omega, by go_num, by rw [HT2.out], HB3.out⟩
          case measure => simp [intOf]; omega)
      · rw [hs] at H23
        have HT2 : Hid (cnt x (cs.take (k + 1)) = cq + 1) := by show cnt x (cs.take (k + 1)) = cq + 1; have := HT.out; rw [hs] at this; simpa using this
        clear HT hs
        go_wp2_with fail
        go_region_with (go_at_call 23; refine H23.mono ?_; rintro e w3 ⟨rfl, hb3⟩)
        all_goals (
          have HB3 : Hid (Below W0.heap.size W0 w3) := hbr.trans ((Below.drew (Below.refl _ _)).trans (hb3.mono hbr.size))
          clear hb3 p0 p1 p2 p3 p4 q0 q1 q2 q3 q4
          go_wp2_with fail
          go_roundw
          case rel => exact ⟨k + 1, by omega, by go_num, by rw [HT2.out]; simp, HB3.out⟩
          case measure => simp [intOf]; omega)
    · have hlt' : ¬ ((k : Int) < (n : Int)) := by omega
      have HE : Hid (cs.take k = cs) := List.take_of_length_le (by omega)
      have HF : Hid (Below w.heap.size w wr) := hb0
      clear hb0
      go_wp2_with fail
      go_ret
      exact ⟨by rw [HE.out]; rfl, HF.out⟩
end Go.Proofs.Ythpbfaddojcohaa
