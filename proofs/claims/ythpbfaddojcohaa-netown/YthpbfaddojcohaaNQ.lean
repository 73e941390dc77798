/- Contracts of Len, Same, SameDatagram, SameDatagrams. -/
import Derived.Test.YthpbfaddojcohaaNN
namespace Go.Proofs.Ythpbfaddojcohaa
open Go.RowKit
attribute [local go_sem ↓] Go.wp_at_zero Go.wp_at_succ
set_option maxRecDepth 100000 in
theorem n21 (nb B : Nat) (v : Value) (N : Nt) (w : World) (h : NtAt w nb B v N) : Calls Try.prog 21 #[.pointer (some ⟨nb, 0, none⟩)] w fun e w' => e = .returned (.int .i64 N.l.length) ∧ w' = w := by
  obtain ⟨a, c, hv⟩ := owns_slice h.own
  have hc := h.cells.1
  subst hv
  clear h
  go_enter Try.func21, Try.ntmps21
  go_wp2_with fail
  go_ret
  exact ⟨rfl, rfl⟩
set_option maxRecDepth 100000 in
set_option maxHeartbeats 1000000 in
theorem n46 (a : Option Addr) (n c : Nat) (xs : List Int) (a' : Option Addr) (n' c' : Nat) (ys : List Int) (w : World) (h : ByAt w a n c xs) (h' : ByAt w a' n' c' ys) (hm : n ≤ maxLen) (hm' : n' ≤ maxLen) :
    Calls Try.prog 46 #[.slice a n c, .slice a' n' c'] w fun e w' => e = .returned (.bool (decide (xs = ys))) ∧ Below w.heap.size w w' := by
  have HX : Hid (ByAt w a n c xs) := h
  have HY : Hid (ByAt w a' n' c' ys) := h'
  have hxl : xs.length = n := h.1
  have hyl : ys.length = n' := h'.1
  unfold maxLen at hm hm'
  by_cases hn : n = n'
  · subst hn
    have hq : ((n : Int) != (n : Int)) = false := by simp
    clear h h'
    go_enter Try.func46, Try.ntmps46
    go_wp2_with fail
    go_loopw [5] (fun i wr => ∃ k : Nat, k ≤ n ∧ i = .int .i64 k ∧ Hid (xs.take k = ys.take k) ∧ Below w.heap.size w wr) (fun i _ => n - (intOf i).toNat)
    case atStart => exact ⟨0, by omega, rfl, (by show xs.take 0 = ys.take 0; simp), Below.refl _ _⟩
    case round =>
      obtain ⟨k, hk, rfl, HI, hbr⟩ := hrel
      by_cases hlt : k < n
      · have hlt' : (k : Int) < (n : Int) := by omega
        have hk0 : (0 : Int) ≤ (k : Int) := by omega
        have hkx : k < xs.length := by omega
        have hky : k < ys.length := by omega
        obtain ⟨b, o, hae, hcx⟩ : ∃ b o, a = some ⟨b, o, none⟩ ∧ wr.cell? ⟨b, o + k, none⟩ = some (.int .u8 xs[k]) := by
          rcases (HX.out.below hbr).2 with ⟨_, e, _⟩ | ⟨_, _, e⟩ | ⟨b, o, e, _, hc⟩
          · omega
          · omega
          · exact ⟨b, o, e, hc k _ (by simp [u8s, hkx])⟩
        obtain ⟨b', o', hae', hcy⟩ : ∃ b o, a' = some ⟨b, o, none⟩ ∧ wr.cell? ⟨b, o + k, none⟩ = some (.int .u8 ys[k]) := by
          rcases (HY.out.below hbr).2 with ⟨_, e, _⟩ | ⟨_, _, e⟩ | ⟨b, o, e, _, hc⟩
          · omega
          · omega
          · exact ⟨b, o, e, hc k _ (by simp [u8s, hky])⟩
        subst hae hae'
        have HS : Hid (xs[k] = ys[k] → xs.take (k + 1) = ys.take (k + 1)) := fun e => by
          rw [List.take_succ_eq_append_getElem hkx, List.take_succ_eq_append_getElem hky, HI.out, e]
        have HD : Hid (xs[k] ≠ ys[k] → decide (xs = ys) = false) := fun e => by
          simp only [decide_eq_false_iff_not]
          intro e2
          subst e2
          exact e rfl
        generalize xs[k] = p at *
        generalize ys[k] = q at *
        by_cases hpq : p = q
        · subst hpq
          have hq2 : (p != p) = false := by simp
          have HS2 : Hid (xs.take (k + 1) = ys.take (k + 1)) := HS.out rfl
          clear HS HD HI
          go_wp2_with fail
          go_quiet (fail)
          go_wp2_with fail
          go_roundw
          case rel => exact ⟨k + 1, by omega, by go_num, HS2, hbr.trans ⟨rfl, rfl, rfl, Nat.le_refl _, fun _ _ => rfl⟩⟩
          case measure => simp [intOf]; omega
        · have hq2 : (p != q) = true := by simpa using hpq
          have HD2 : Hid (decide (xs = ys) = false) := HD.out hpq
          clear HS HD HI hpq
          go_wp2_with fail
          go_quiet (fail)
          go_wp2_with fail
          go_ret
          exact ⟨by rw [HD2.out]; rfl, hbr.trans ⟨rfl, rfl, rfl, Nat.le_refl _, fun _ _ => rfl⟩⟩
      · have hlt' : ¬ ((k : Int) < (n : Int)) := by omega
        have HE : Hid (decide (xs = ys) = true) := by
          have h3 := HI.out
          rw [List.take_of_length_le (by omega), List.take_of_length_le (by omega)] at h3
          show decide (xs = ys) = true
          simpa using h3
        go_wp2_with fail
        go_ret
        exact ⟨by rw [HE.out]; rfl, hbr⟩
  · have hq : ((n : Int) != (n' : Int)) = true := by simp; omega
    have HE : decide (xs = ys) = false := by
      simp only [decide_eq_false_iff_not]
      intro e; rw [e] at hxl; omega
    rw [HE]
    clear h h' HE
    go_enter Try.func46, Try.ntmps46
    go_wp2_with fail
    go_ret
    exact ⟨rfl, Below.refl _ _⟩
/-- Do two datagrams say the same? -/
def sameC (x y : Dc) : Bool := decide (x.fr = y.fr) && (decide (x.to = y.to) && (x.ak == y.ak && (decide (x.sq = y.sq) && decide (x.xs = y.xs))))
theorem sameC_self (x : Dc) : sameC x x = true := by simp [sameC]
theorem sameC_eq {x y : Dc} (h : sameC x y = true) : x = y := by
  obtain ⟨a, b, c, d, e⟩ := x
  obtain ⟨a', b', c', d', e'⟩ := y
  simp [sameC] at h
  obtain ⟨rfl, rfl, rfl, rfl, rfl⟩ := h
  rfl
set_option maxRecDepth 100000 in
set_option maxHeartbeats 1000000 in
theorem n23 (d d' : Dg) (x y : Dc) (w : World) (hd : DgIs d x) (hd' : DgIs d' y) (h : ByAt w d.ba d.bn d.bc x.xs) (h' : ByAt w d'.ba d'.bn d'.bc y.xs) (hm : d.bn ≤ maxLen) (hm' : d'.bn ≤ maxLen) :
    Calls Try.prog 23 #[.agg d.box, .agg d'.box] w fun e w' => e = .returned (.bool (sameC x y)) ∧ Below w.heap.size w w' := by
  obtain ⟨fr, to, ak, sq, ba, bn, bc⟩ := d
  obtain ⟨fr2, to2, ak2, sq2, ba2, bn2, bc2⟩ := d'
  obtain ⟨xfr, xto, xak, xsq, xs⟩ := x
  obtain ⟨yfr, yto, yak, ysq, ys⟩ := y
  obtain ⟨e1, e2, e3, e4, -⟩ := hd
  obtain ⟨e5, e6, e7, e8, -⟩ := hd'
  simp only at e1 e2 e3 e4 e5 e6 e7 e8 h h' hm hm'
  subst e1 e2 e3 e4 e5 e6 e7 e8
  show Calls Try.prog 23 #[.agg #[.int .i64 fr, .int .i64 to, .bool ak, .int .i64 sq, .slice ba bn bc], .agg #[.int .i64 fr2, .int .i64 to2, .bool ak2, .int .i64 sq2, .slice ba2 bn2 bc2]] w _
  have hb : Below w.heap.size w ((w.alloc (.cells #[.int .i64 fr, .int .i64 to, .bool ak, .int .i64 sq, .slice ba bn bc] 46)).alloc (.cells #[.int .i64 fr2, .int .i64 to2, .bool ak2, .int .i64 sq2, .slice ba2 bn2 bc2] 46)) := ((Below.refl _ w).alloc (Nat.le_refl _) _).alloc (by simp) _
  have H46 := n46 ba bn bc xs ba2 bn2 bc2 ys _ (h.below hb) (h'.below hb) hm hm'
  have HB : Hid (Below w.heap.size w ((w.alloc (.cells #[.int .i64 fr, .int .i64 to, .bool ak, .int .i64 sq, .slice ba bn bc] 46)).alloc (.cells #[.int .i64 fr2, .int .i64 to2, .bool ak2, .int .i64 sq2, .slice ba2 bn2 bc2] 46))) := hb
  clear h h' hb
  by_cases h1 : fr = fr2
  · by_cases h2 : to = to2
    · by_cases h3 : ak = ak2
      · by_cases h4 : sq = sq2
        · subst h1 h2 h3 h4
          have hs : sameC ⟨fr, to, ak, sq, xs⟩ ⟨fr, to, ak, sq, ys⟩ = decide (xs = ys) := by simp [sameC]
          rw [hs]
          have q1 : (fr == fr) = true := by simp
          have q2 : (to == to) = true := by simp
          have q3 : (ak == ak) = true := by simp
          have q4 : (sq == sq) = true := by simp
          generalize decide (xs = ys) = r at *
          clear hs
          go_enter Try.func23, Try.ntmps23
          go_wp2_with fail
          refine H46.mono ?_
          rintro e w1 ⟨rfl, hb1⟩
          have HF : Hid (Below w.heap.size w w1) := HB.out.trans (hb1.mono HB.out.size)
          clear hb1 H46
          go_wp2_with fail
          go_ret
          exact ⟨rfl, HF.out⟩
        · have hs : sameC ⟨fr, to, ak, sq, xs⟩ ⟨fr2, to2, ak2, sq2, ys⟩ = false := by simp [sameC, h4]
          rw [hs]
          subst h1 h2 h3
          have q4 : (sq == sq2) = false := by simpa using h4
          clear hs H46 h4
          go_enter Try.func23, Try.ntmps23
          go_wp2_with fail
          go_ret
          exact ⟨rfl, HB.out⟩
      · have hs : sameC ⟨fr, to, ak, sq, xs⟩ ⟨fr2, to2, ak2, sq2, ys⟩ = false := by simp [sameC, h3]
        rw [hs]
        subst h1 h2
        have q3 : (ak == ak2) = false := by simpa using h3
        clear hs H46 h3
        go_enter Try.func23, Try.ntmps23
        go_wp2_with fail
        go_ret
        exact ⟨rfl, HB.out⟩
    · have hs : sameC ⟨fr, to, ak, sq, xs⟩ ⟨fr2, to2, ak2, sq2, ys⟩ = false := by simp [sameC, h2]
      rw [hs]
      subst h1
      have q2 : (to == to2) = false := by simpa using h2
      clear hs H46 h2
      go_enter Try.func23, Try.ntmps23
      go_wp2_with fail
      go_ret
      exact ⟨rfl, HB.out⟩
  · have hs : sameC ⟨fr, to, ak, sq, xs⟩ ⟨fr2, to2, ak2, sq2, ys⟩ = false := by simp [sameC, h1]
    rw [hs]
    have q1 : (fr == fr2) = false := by simpa using h1
    clear hs H46 h1
    go_enter Try.func23, Try.ntmps23
    go_wp2_with fail
    go_ret
    exact ⟨rfl, HB.out⟩
theorem ArgRow.cells {w : World} {S : Nat → Prop} {a : Option Addr} {n : Nat} {ds : List Dg} {cs : List Dc} (h : ArgRow w S a n ds cs) (k : Nat) (hk : k < n) : ∃ b o d x, a = some ⟨b, o, none⟩ ∧ S b ∧ ds[k]? = some d ∧ cs[k]? = some x ∧ DgIs d x ∧ ByS w S d.ba d.bn d.bc x.xs ∧ w.cell? ⟨b, o + k * 5, none⟩ = some (.int .i64 d.fr) ∧ w.cell? ⟨b, o + k * 5 + 1, none⟩ = some (.int .i64 d.to) ∧ w.cell? ⟨b, o + k * 5 + 2, none⟩ = some (.bool d.ak) ∧ w.cell? ⟨b, o + k * 5 + 3, none⟩ = some (.int .i64 d.sq) ∧ w.cell? ⟨b, o + k * 5 + 4, none⟩ = some (.slice d.ba d.bn d.bc) := by
  have h1 : k < ds.length := by rw [h.len]; exact hk
  have h2 : k < cs.length := by rw [h.lenc]; exact hk
  rcases h.row with e | ⟨b, o, e, hb, hr⟩
  · omega
  · obtain ⟨h3, h4⟩ := h.each k ds[k] cs[k] (List.getElem?_eq_getElem h1) (List.getElem?_eq_getElem h2)
    exact ⟨b, o, ds[k], cs[k], e, hb, List.getElem?_eq_getElem h1, List.getElem?_eq_getElem h2, h3, h4, dg_cells hr k h1⟩
set_option maxRecDepth 100000 in
set_option maxHeartbeats 1000000 in
theorem n22 (S S' : Nat → Prop) (a : Option Addr) (n c : Nat) (ds : List Dg) (a' : Option Addr) (c' : Nat) (ds' : List Dg) (cs : List Dc) (w : World) (h : ArgRow w S a n ds cs) (h' : ArgRow w S' a' n ds' cs) (hS : ∀ k, S k → k < w.heap.size) (hS' : ∀ k, S' k → k < w.heap.size) (hm : ∀ x ∈ cs, x.xs.length ≤ maxLen) (hn : n ≤ maxLen) :
    Calls Try.prog 22 #[.slice a n c, .slice a' n c'] w fun e w' => e = .returned (.bool true) ∧ Below w.heap.size w w' := by
  have HX : Hid (ArgRow w S a n ds cs ∧ ∀ k, S k → k < w.heap.size) := ⟨h, hS⟩
  have HY : Hid (ArgRow w S' a' n ds' cs ∧ ∀ k, S' k → k < w.heap.size) := ⟨h', hS'⟩
  have HM : Hid (∀ x ∈ cs, x.xs.length ≤ maxLen) := hm
  unfold maxLen at hn
  have hq : ((n : Int) != (n : Int)) = false := by simp
  clear h h' hS hS' hm
  go_enter Try.func22, Try.ntmps22
  go_wp2_with fail
  go_loopw [5] (fun i wr => ∃ k : Nat, k ≤ n ∧ i = .int .i64 k ∧ Below w.heap.size w wr) (fun i _ => n - (intOf i).toNat)
  case atStart => exact ⟨0, by omega, rfl, Below.refl _ _⟩
  case round =>
    obtain ⟨k, hk, rfl, hbr⟩ := hrel
    by_cases hlt : k < n
    · have hlt' : (k : Int) < (n : Int) := by omega
      have hk0 : (0 : Int) ≤ (k : Int) := by omega
      obtain ⟨b, o, d, x, rfl, _, _, hx, hdi, hby, p0, p1, p2, p3, p4⟩ := (HX.out.1.kept (w' := wr) fun q hq => hbr.block q (HX.out.2 q hq)).cells k hlt
      obtain ⟨b', o', d', x', rfl, _, _, hx', hdi', hby', q0, q1, q2, q3, q4⟩ := (HY.out.1.kept (w' := wr) fun q hq => hbr.block q (HY.out.2 q hq)).cells k hlt
      rw [hx] at hx'
      cases hx'
      have hxm := HM.out x (List.mem_of_getElem? hx)
      have hbd : Below wr.heap.size wr wr.drew := Below.drew (Below.refl _ _)
      have H23 := n23 d d' x x wr.drew hdi hdi' ((hby.at fun q hq => Nat.lt_of_lt_of_le (HX.out.2 q hq) hbr.size).below hbd) ((hby'.at fun q hq => Nat.lt_of_lt_of_le (HY.out.2 q hq) hbr.size).below hbd) (by rw [hdi.2.2.2.2]; exact hxm) (by rw [hdi'.2.2.2.2]; exact hxm)
      rw [sameC_self] at H23
      obtain ⟨fr, to, ak, sq, ba, bn, bc⟩ := d
      obtain ⟨fr2, to2, ak2, sq2, ba2, bn2, bc2⟩ := d'
      simp only at p0 p1 p2 p3 p4 q0 q1 q2 q3 q4
      clear hdi hdi' hby hby' hx hxm hbd
      go_wp2_with fail
      go_region_with (go_at_call 23; refine H23.mono ?_; rintro e w3 ⟨rfl, hb3⟩)
      all_goals (
        have HB3 : Hid (Below w.heap.size w w3) := hbr.trans ((Below.drew (Below.refl _ _)).trans (hb3.mono hbr.size))
        clear hb3 p0 p1 p2 p3 p4 q0 q1 q2 q3 q4
        go_wp2_with fail
        go_roundw
        case rel => exact ⟨k + 1, by omega, by go_num, HB3.out⟩
        case measure => simp [intOf]; omega)
    · have hlt' : ¬ ((k : Int) < (n : Int)) := by omega
      go_wp2_with fail
      go_ret
      exact ⟨rfl, hbr⟩
end Go.Proofs.Ythpbfaddojcohaa
