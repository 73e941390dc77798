/- Contract of NetKeeps. -/
import Derived.Test.YthpbfaddojcohaaNU
import Derived.Laws.AppendOwnNone
import Derived.Maps.AppendAt
namespace Go.Proofs.Ythpbfaddojcohaa
open Go.RowKit
attribute [local go_sem ↓] Go.wp_at_zero Go.wp_at_succ
abbrev BoxR (b o : Nat) (d : Dg) (w : World) : Prop := w.cell? ⟨b, o, none⟩ = some (.int .i64 d.fr) ∧ w.cell? ⟨b, o + 1, none⟩ = some (.int .i64 d.to) ∧ w.cell? ⟨b, o + 2, none⟩ = some (.bool d.ak) ∧ w.cell? ⟨b, o + 3, none⟩ = some (.int .i64 d.sq) ∧ w.cell? ⟨b, o + 4, none⟩ = some (.slice d.ba d.bn d.bc)
theorem boxR_below {w w' : World} {b o : Nat} {d : Dg} (h : BoxR b o d w) (hb : Below w.heap.size w w') (hl : b < w.heap.size) : BoxR b o d w' := by
  have e : ∀ j, w'.cell? ⟨b, j, none⟩ = w.cell? ⟨b, j, none⟩ := fun j => hb.cell (p := ⟨b, j, none⟩) hl
  exact ⟨(e _).trans h.1, (e _).trans h.2.1, (e _).trans h.2.2.1, (e _).trans h.2.2.2.1, (e _).trans h.2.2.2.2⟩
def KI (w : World) (nb : Nat) (es : List Deed) (k : Nat) (iV oV : Value) (wr : World) : Prop :=
  ∃ v N cs iL iC oL oC, Mem w wr w.heap.size nb v N cs iV iL iC oV oL oC ∧ Num (sumN (es.take k)) k N cs iC oC
set_option maxRecDepth 100000 in
set_option maxHeartbeats 8000000 in
theorem n4 (a : Option Addr) (n c : Nat) (es : List Deed) (w : World) (hA : DeedRow w a n es) (hsum : sumN es ≤ 1048576) (hn : n ≤ 1048576) :
    Calls Try.prog 4 #[.slice a n c] w fun e w' => e = .returned (.bool true) ∧ Below w.heap.size w w' := by
  have HA : Hid (DeedRow w a n es) := hA
  have hel : es.length = n := hA.len
  obtain ⟨i0, hi0, hz0, hsz0, hby0⟩ := info46
  clear hA
  go_enter Try.func4, Try.ntmps4
  go_wp2_with fail
  refine (n10 w).mono ?_
  rintro e w1 ⟨rfl, hb1⟩
  have HB1 : Hid (Below w.heap.size w w1) := hb1
  clear hb1
  go_wp2_with fail
  refine (n8 4 (by decide) (by decide) w1).mono ?_
  rintro e w2 ⟨rfl, hw2⟩
  have HK0 : Hid (KI w w1.heap.size es 0 (.slice none 0 0) (.slice none 0 0) w2) := by
    have hb2 : Below w1.heap.size w1 w2 := by rw [hw2]; exact (Below.refl _ w1).alloc (Nat.le_refl _) _
    have hs1 := HB1.out.size
    refine ⟨.slice none 0 0, ⟨[], 0, 0, 0, 0, 4⟩, [], [], [], [], [], ⟨⟨⟨by rw [hw2]; exact heap_alloc_new w1 _, World.ownsRow_nil _ _ _ _⟩, rfl, fun i d x h => by simp at h⟩, ⟨World.ownsRow_nil _ _ _ _, rfl, fun i d x h => by simp at h⟩, ⟨World.ownsRow_nil _ _ _ _, rfl, fun i d x h => by simp at h⟩, fun g h => by simp [Value.ownBlock] at h, fun g h => by simp [Value.ownBlock] at h, fun g h => by simp [Value.ownBlock] at h, hs1, Nat.le_trans hs1 hb2.size, HB1.out.trans (hb2.mono hs1)⟩, ⟨rfl, by simp, by simp, by simp, by simp, by simp, by simp, by simp, by simp, fun x => rfl, rfl, by simp, fun x h => by simp at h⟩⟩
  generalize hnb : w1.heap.size = nb at *
  clear hw2
  go_wp2_with fail
  go_loopw [5, 6, 7] (fun iV oV i wr => ∃ k : Nat, k ≤ n ∧ k ≤ 300 ∧ i = .int .i64 k ∧ (∃ a m c, iV = .slice a m c) ∧ (∃ a m c, oV = .slice a m c) ∧ Hid (KI w nb es k iV oV wr)) (fun _ _ i _ => n - (intOf i).toNat)
  case atStart => exact ⟨0, by omega, by omega, rfl, ⟨_, _, _, rfl⟩, ⟨_, _, _, rfl⟩, HK0⟩
  case round =>
    clear HK0
    obtain ⟨k, hk, hk3, rfl, ⟨ia, im, ic, rfl⟩, ⟨oa, om, oc, rfl⟩, HK⟩ := hrel
    obtain ⟨v, N, cs, iL, iC, oL, oC, hM, hNum⟩ := HK.out
    have hsk := sumN_take es k
    have hlim : iC.length ≤ 1048576 + 300 := by have := hNum.lim; omega
    have hcsl : cs.length ≤ 1048576 + 300 := by have := hNum.len; omega
    have hNl : N.l.length = cs.length := hM.net.own.1
    by_cases hlt : k < n ∧ k < 300
    · obtain ⟨hlt, hlt3⟩ := hlt
      have hltI : (k : Int) < (n : Int) := by omega
      have hltJ : (k : Int) < 300 := by omega
      have hk0 : (0 : Int) ≤ (k : Int) := by omega
      have H15 := n15 nb w.heap.size v N cs wr hM.net (by rw [hNl]; omega) (fun x hx => by have := hNum.small x (.inl hx); omega)
      have HM : Hid (Mem w wr w.heap.size nb v N cs (.slice ia im ic) iL iC (.slice oa om oc) oL oC) := hM
      have HNum : Hid (Num (sumN (es.take k)) k N cs iC oC) := hNum
      clear hM hNum HK
      go_wp2_with fail
      refine H15.mono ?_
      rintro e w3 ⟨u3, rfl, l3, ho3, hl3, hb3⟩
      clear H15
      obtain ⟨ua, uc, hu3⟩ := owns_slice ho3
      subst hu3
      have hl3n : l3.length = cs.length := hl3.1
      have hM3 := HM.out.below hb3
      have hW3 : RowG w3 w.heap.size (.slice ua l3.length uc) l3 cs := ⟨owns_base ho3 HM.out.n0w, hl3.good HM.out.n0w⟩
      have hWv : ∀ g, (Value.slice ua l3.length uc).ownBlock = some g → v.ownBlock ≠ some g := fun g hg e => by
        have h1 := (owns_lt ho3 hg).1
        have h2 := (owns_lt HM.out.net.at_.own e).2
        omega
      obtain ⟨b, o, e, rfl, hek, hcl⟩ := HA.out.at k hlt
      obtain ⟨p0, p1, p2⟩ := hcl w3 hM3.low
      have HM3 : Hid (Mem w w3 w.heap.size nb v N cs (.slice ia im ic) iL iC (.slice oa om oc) oL oC ∧ RowG w3 w.heap.size (.slice ua l3.length uc) l3 cs ∧ ∀ g, (Value.slice ua l3.length uc).ownBlock = some g → v.ownBlock ≠ some g) := ⟨hM3, hW3, hWv⟩
      have HT : Hid (sumN (es.take (k + 1)) = sumN (es.take k) + e.n) := by
        show sumN (es.take (k + 1)) = sumN (es.take k) + e.n
        have h1 : k < es.length := by omega
        rw [sumN_succ es k h1]
        have := List.getElem?_eq_getElem h1
        rw [hek] at this; cases this; rfl
      obtain ⟨ds, xs, hAr, hnil⟩ := HA.out.each k e hek
      have HAr : Hid (ArgRow w (fun k => k < w.heap.size) e.a e.n ds xs ∧ (e.a = none → e.n = 0 ∧ e.c = 0)) := ⟨hAr, hnil⟩
      have hsk1 := sumN_take es (k + 1)
      rw [HT.out] at hsk1
      clear HM hM3 hW3 hWv ho3 hl3 hb3 hAr hnil hek
      obtain ⟨kd, kk, ea, en, ec⟩ := e
      have HP : Hid (∀ w', Below w.heap.size w w' → w'.cell? ⟨b, o + k * 3, none⟩ = some (.int .i64 kd) ∧ w'.cell? ⟨b, o + k * 3 + 1, none⟩ = some (.int .i64 kk) ∧ w'.cell? ⟨b, o + k * 3 + 2, none⟩ = some (.slice ea en ec)) := hcl
      clear hcl
      simp only at p0 p1 p2 hsk1
      rw [hl3n] at *
      -- what the deed is
      by_cases hkd0 : kd = 0
      · subst hkd0
        have hnn : N.n = 4 := HNum.out.nn
        have H16 := n16 nb w.heap.size v N cs (fun q => q < w.heap.size) ea en ec ds xs w3 HM3.out.1.net HM3.out.1.n0w (HAr.out.1.kept fun q hq => HM3.out.1.low.block q hq) (fun q hq => ⟨Nat.lt_of_lt_of_le hq HM3.out.1.n0w, by have := HM3.out.1.nbn; omega, fun e2 => by have := (owns_lt HM3.out.1.net.at_.own e2).1; omega⟩) (by rw [hNl]; omega) HNum.out.s0 (by have := HNum.out.s1; omega)
        rw [hnn] at H16
        have hxl : xs.length = en := HAr.out.1.lenc
        have hdl : ds.length = en := HAr.out.1.len
        obtain ⟨q, hq⟩ : ∃ q, allE 4 ds = q := ⟨_, rfl⟩
        rw [hq] at H16
        by_cases hq0 : q = 0
        · subst hq0
          have HE : Hid (allE 4 ds = 0) := hq
          clear hq
          have HW4 : Hid (∀ w4, SendPost nb w.heap.size v N cs ds xs w3 w4 → ∃ v4 N4, Mem w w4 w.heap.size nb v4 N4 (cs ++ xs) (.slice ia im ic) iL iC (.slice oa om oc) oL oC ∧ GoodL w4 w.heap.size ds xs ∧ Num (sumN (es.take (k + 1))) (k + 1) N4 (cs ++ xs) (iC ++ xs) oC) := fun w4 hp => by
            rcases hp with ⟨_, v4, l4, h1, h2⟩ | ⟨h1, _⟩
            · have hm := HM3.out.1.op h2 h1
              refine ⟨v4, _, hm, ⟨by rw [hdl, hxl], fun i d x h3 h4 => ⟨(HAr.out.1.each i d x h3 h4).1, .inl ((HAr.out.1.each i d x h3 h4).2.kept fun q hq => hm.low.block q hq)⟩⟩, HNum.out.send (by rw [HT.out, hxl]; exact Nat.le_refl _) ⟨by show N.s + _ = _; rw [hdl, hxl], rfl, rfl, rfl, rfl⟩ (send_bytes HAr.out.1 HE.out)⟩
            · rw [hnn] at h1; exact absurd HE.out h1
          clear HNum HT
          go_wp2_with fail
          all_goals (
            refine H16.mono ?_
            rintro e w4 ⟨rfl, hp4⟩
            obtain ⟨v4, N4, hM4, hG4, hN4⟩ := HW4.out w4 hp4
            have s2 := (HP.out w4 hM4.low).2.2
            have hlim4 := hN4.lim
            have hin : (Value.slice ia im ic).ownBlock = (Value.slice ia im ic).ownBlock := rfl
            have HM4 : Hid (Mem w w4 w.heap.size nb v4 N4 (cs ++ xs) (.slice ia im ic) iL iC (.slice oa om oc) oL oC ∧ GoodL w4 w.heap.size ds xs ∧ Num (sumN (es.take (k + 1))) (k + 1) N4 (cs ++ xs) (iC ++ xs) oC) := ⟨hM4, hG4, hN4⟩
            have hil : iL.length = iC.length := hM4.inR.good.1
            clear hp4 hM4 hG4 hN4 p0 p1 p2 hin hlim4
            cases ea with
            | none =>
              obtain ⟨rfl, rfl⟩ := HAr.out.2 rfl
              have hds : ds = [] := List.eq_nil_of_length_eq_zero hdl
              have hxs : xs = [] := List.eq_nil_of_length_eq_zero hxl
              have HF : Hid (KI w nb es (k + 1) (.slice ia im ic) (.slice oa om oc) w4) := by
                obtain ⟨h1, _, h3⟩ := HM4.out
                rw [hxs, List.append_nil, List.append_nil] at h3
                rw [hxs, List.append_nil] at h1
                exact ⟨v4, N4, cs, iL, iC, oL, oC, h1, h3⟩
              have HI : Hid (w4.ownsRow w.heap.size 46 5 (.slice ia im ic) iL.length (flatD iL)) := HM4.out.1.inR.own
              clear hds hxs hdl hxl HM4
              go_wp2_with (at_builtin; refine wpList_append_own_none rfl _ _ 34 rfl w.heap.size 46 i0 5 Try.underlying34 hi0 _ _ _ rfl HI.out rfl ?_)
              go_roundw
              case rel => exact ⟨k + 1, by omega, by omega, by go_num, ⟨_, _, _, rfl⟩, ⟨_, _, _, rfl⟩, HF⟩
              case measure => simp [intOf]; omega
            | some ad =>
              obtain ⟨hnl, hnews⟩ := HAr.out.1.news HM4.out.1.low
              have HNW : Hid (∀ j u, (flatD ds)[j]? = some u → w4.cell? (ad.add j) = some u) := hnews
              have HI : Hid (w4.ownsRow w.heap.size 46 5 (.slice ia im ic) iL.length (flatD iL)) := HM4.out.1.inR.own
              clear hnews
              go_wp2_with (at_builtin; refine wpList_append_own_at _ rfl _ _ 34 rfl w.heap.size 46 i0 _ 5 56 Try.underlying34 hi0 hz0 hsz0 hby0 rfl (by decide) _ _ _ rfl HI.out ad en ec (flatD ds) rfl hnl HNW.out (flatD_one _) (by unfold maxLen; omega) (by omega) HM4.out.1.n0w ?_)
              intro v5 w5 ho5 hg5 _ hat5
              have HF : Hid (KI w nb es (k + 1) v5 (.slice oa om oc) w5) := ⟨v4, N4, cs ++ xs, iL ++ ds, iC ++ xs, oL, oC, HM4.out.1.addIn hg5 (by rw [hdl, hil]; exact ho5) hat5 HM4.out.2.1, HM4.out.2.2⟩
              obtain ⟨a5, c5, hv5⟩ := owns_slice ho5
              subst hv5
              clear ho5 hg5 hat5 HM4
              go_wp2_with fail
              go_roundw
              case rel => exact ⟨k + 1, by omega, by omega, by go_num, ⟨_, _, _, rfl⟩, ⟨_, _, _, rfl⟩, HF⟩
              case measure => simp [intOf]; omega)
        · have hq1 : (q == 0) = false := by simpa using hq0
          have HE : Hid (allE 4 ds ≠ 0) := by show allE 4 ds ≠ 0; rw [hq]; exact hq0
          clear hq
          have HW4 : Hid (∀ w4, SendPost nb w.heap.size v N cs ds xs w3 w4 → KI w nb es (k + 1) (.slice ia im ic) (.slice oa om oc) w4) := fun w4 hp => by
            rcases hp with ⟨h1, _⟩ | ⟨_, h2⟩
            · rw [hnn] at h1; exact absurd h1 HE.out
            · exact ⟨v, N, cs, iL, iC, oL, oC, HM3.out.1.below h2, HNum.out.wait (by rw [HT.out]; omega)⟩
          clear HNum HT
          go_wp2_with fail
          all_goals (
            refine H16.mono ?_
            rintro e w4 ⟨rfl, hp4⟩
            have HF : Hid (KI w nb es (k + 1) (.slice ia im ic) (.slice oa om oc) w4) := HW4.out w4 hp4
            clear hp4
            go_wp2_with fail
            all_goals (
              go_roundw
              case rel => exact ⟨k + 1, by omega, by omega, by go_num, ⟨_, _, _, rfl⟩, ⟨_, _, _, rfl⟩, HF⟩
              case measure => simp [intOf]; omega))
      · by_cases hkd1 : kd = 1
        · subst hkd1
          by_cases ht : 0 ≤ kk ∧ kk < (cs.length : Int)
          · obtain ⟨ht0, ht1⟩ := ht
            obtain ⟨q, rfl⟩ : ∃ q : Nat, kk = q := ⟨kk.toNat, by omega⟩
            have hqc : q < cs.length := by omega
            have hqN : q < N.l.length := by omega
            have hy : cs[q]? = some cs[q] := List.getElem?_eq_getElem hqc
            have hsm := HNum.out.small cs[q] (.inl (List.getElem_mem hqc))
            have hcq : 0 < cnt cs[q] cs := List.countP_pos_iff.2 ⟨cs[q], List.getElem_mem hqc, sameC_self _⟩
            generalize cs[q] = y at *
            have H17 := n17 nb w.heap.size v N cs q y w3 HM3.out.1.net hqN hy HNum.out.d0 (by have := HNum.out.d1; omega) (by omega)
            have hci := HNum.out.cnts y
            have HF0 : Hid (∀ l', Num (sumN (es.take (k + 1))) (k + 1) { N with d := N.d + 1, l := l' } (restC q cs) iC (oC ++ [y])) := fun l' => HNum.out.out (by rw [HT.out]; omega) hy ⟨rfl, .inr rfl, .inl rfl, rfl, rfl⟩
            have HSM : Hid (∀ x ∈ iC, x.xs.length ≤ maxLen) := fun x hx => by have := HNum.out.small x (.inr (.inl hx)); unfold maxLen; omega
            clear HNum HT HAr HP
            go_wp2_with fail
            refine H17.mono ?_
            rintro e w4 ⟨d4, rfl, hd4, v4, l4, hN4, hF4⟩
            clear H17
            obtain ⟨fr, to, ak, sq, ba, bn, bc⟩ := d4
            have hM4 := HM3.out.1.op hF4 hN4
            have hbx : Below w4.heap.size w4 (w4.alloc (.cells #[.int .i64 fr, .int .i64 to, .bool ak, .int .i64 sq, .slice ba bn bc] 46)) := (Below.refl _ w4).alloc (Nat.le_refl _) _
            have hM5 := hM4.below hbx
            have hil : iL.length = im := (hM5.inR.arg hM5.n0w).1
            have hB5 : OwnB (w4.alloc (.cells #[.int .i64 fr, .int .i64 to, .bool ak, .int .i64 sq, .slice ba bn bc] 46)) w.heap.size ba bn bc y.xs := owns_base (owns_below hd4.2 hbx) HM3.out.1.n0w
            have hil2 : iL.length = iC.length := hM5.inR.good.1
            have H18 := n18 ia im ic iL iC ⟨fr, to, ak, sq, ba, bn, bc⟩ y _ (hM5.inR.arg hM5.n0w).2 hd4.1 hB5.at HSM.out (by unfold maxLen; omega) (by omega)
            have HX5 : Hid (BoxS w4.heap.size ⟨fr, to, ak, sq, ba, bn, bc⟩ (w4.alloc (.cells #[.int .i64 fr, .int .i64 to, .bool ak, .int .i64 sq, .slice ba bn bc] 46)) ∧ w4.heap.size < (w4.alloc (.cells #[.int .i64 fr, .int .i64 to, .bool ak, .int .i64 sq, .slice ba bn bc] 46)).heap.size) := ⟨boxS_new w4 ⟨fr, to, ak, sq, ba, bn, bc⟩, by simp⟩
            have HM5 : Hid (Mem w (w4.alloc (.cells #[.int .i64 fr, .int .i64 to, .bool ak, .int .i64 sq, .slice ba bn bc] 46)) w.heap.size nb v4 { N with d := N.d + 1, l := l4 } (restC q cs) (.slice ia im ic) iL iC (.slice oa om oc) oL oC ∧ GoodD (w4.alloc (.cells #[.int .i64 fr, .int .i64 to, .bool ak, .int .i64 sq, .slice ba bn bc] 46)) w.heap.size ⟨fr, to, ak, sq, ba, bn, bc⟩ y) := ⟨hM5, hd4.1, .inr hB5⟩
            have hcp : ((cnt y iC : Int) == 0) = false := by simp; omega
            simp only [Dg.box]
            simp only [Dg.box] at H18
            clear hd4 hN4 hF4 hM4 hbx hM5 hB5 HM3 hil2 hil hcq hci
            go_wp2_with fail
            refine H18.mono ?_
            rintro e w5 ⟨rfl, hb5⟩
            obtain ⟨x0, x1, x2, x3, x4⟩ := boxS_below HX5.out.1 hb5 HX5.out.2
            simp only at x0 x1 x2 x3 x4
            have hM5' := HM5.out.1.below hb5
            have hG5 : GoodD w5 w.heap.size ⟨fr, to, ak, sq, ba, bn, bc⟩ y := HM5.out.2.stay (.of_below hb5 HM5.out.1.n0w)
            have HM6 : Hid (Mem w w5 w.heap.size nb v4 { N with d := N.d + 1, l := l4 } (restC q cs) (.slice ia im ic) iL iC (.slice oa om oc) oL oC ∧ GoodD w5 w.heap.size ⟨fr, to, ak, sq, ba, bn, bc⟩ y) := ⟨hM5', hG5⟩
            clear hM5' hG5 HM5 HX5 hb5 H18
            have hol : oL.length = oC.length := HM6.out.1.outR.good.1
            have hol3 := (HF0.out []).len
            have hol4 := (HF0.out []).lim
            simp only [List.length_append, List.length_singleton] at hol3
            have HMA : Hid (Mem w (w5.alloc (.cells #[.int .i64 fr, .int .i64 to, .bool ak, .int .i64 sq, .slice ba bn bc] 46)) w.heap.size nb v4 { N with d := N.d + 1, l := l4 } (restC q cs) (.slice ia im ic) iL iC (.slice oa om oc) oL oC) := HM6.out.1.below ((Below.refl _ w5).alloc (Nat.le_refl _) _)
            have HOW : Hid ((w5.alloc (.cells #[.int .i64 fr, .int .i64 to, .bool ak, .int .i64 sq, .slice ba bn bc] 46)).ownsRow w.heap.size 46 5 (.slice oa om oc) oL.length (flatD oL)) := HMA.out.outR.own
            have HGA : Hid (GoodL (w5.alloc (.cells #[.int .i64 fr, .int .i64 to, .bool ak, .int .i64 sq, .slice ba bn bc] 46)) w.heap.size [⟨fr, to, ak, sq, ba, bn, bc⟩] [y]) := ⟨rfl, fun i d x h1 h2 => by
              match i, h1, h2 with
              | 0, h1, h2 => simp at h1 h2; subst h1 h2; exact HM6.out.2.stay (.of_below ((Below.refl _ w5).alloc (Nat.le_refl _) _) HM6.out.1.n0w)⟩
            have HNN : Hid (∀ j u, [Value.int .i64 fr, .int .i64 to, .bool ak, .int .i64 sq, .slice ba bn bc][j]? = some u → (w5.alloc (.cells #[.int .i64 fr, .int .i64 to, .bool ak, .int .i64 sq, .slice ba bn bc] 46)).cell? ((⟨w5.heap.size, 0, none⟩ : Addr).add j) = some u) := World.news_of_block (cs := #[.int .i64 fr, .int .i64 to, .bool ak, .int .i64 sq, .slice ba bn bc]) (t := 46) (fr := (0, 0)) (heap_alloc_new w5 _)
            have hba : w.heap.size ≤ (w5.alloc (.cells #[.int .i64 fr, .int .i64 to, .bool ak, .int .i64 sq, .slice ba bn bc] 46)).heap.size := HMA.out.n0w
            go_wp2_with (at_builtin; refine wpList_append_own_at _ rfl _ _ 34 rfl w.heap.size 46 i0 _ 5 56 Try.underlying34 hi0 hz0 hsz0 hby0 rfl (by decide) _ _ _ rfl HOW.out ⟨w5.heap.size, 0, none⟩ 1 1 [.int .i64 fr, .int .i64 to, .bool ak, .int .i64 sq, .slice ba bn bc] rfl rfl HNN.out (by simp [Value.oneCell']) (by unfold maxLen; omega) (by omega) hba ?_)
            intro v9 w9 ho9 hg9 _ hat9
            have HF : Hid (KI w nb es (k + 1) (.slice ia im ic) v9 w9) := ⟨v4, _, (restC q cs), iL, iC, oL ++ [⟨fr, to, ak, sq, ba, bn, bc⟩], oC ++ [y], HMA.out.addOut hg9 (by show w9.ownsRow _ _ _ _ (oL.length + 1) _; rw [hol]; exact ho9) (by simpa using hat9) HGA.out, HF0.out _⟩
            obtain ⟨a9, c9, hv9⟩ := owns_slice ho9
            subst hv9
            clear ho9 hg9 hat9 HMA HGA HM6 HF0 HNN HOW
            go_wp2_with fail
            go_roundw
            case rel => exact ⟨k + 1, by omega, by omega, by go_num, ⟨_, _, _, rfl⟩, ⟨_, _, _, rfl⟩, HF⟩
            case measure => simp [intOf]; omega
          · have hno : hasN N.l.length kk = false := by rw [hNl]; simp [hasN]; omega
            have H := n17_no nb w.heap.size v N kk w3 HM3.out.1.net.at_ hno
            have HF0 : Hid (Num (sumN (es.take (k + 1))) (k + 1) N cs iC oC) := HNum.out.wait (by rw [HT.out]; omega)
            clear hno HNum HT HAr HP
            by_cases ht0 : 0 ≤ kk
            · have ht1 : ¬ kk < (cs.length : Int) := by omega
              go_wp2_with fail
              refine H.mono ?_
              rintro e w4 ⟨rfl, hb4⟩
              have HF : Hid (KI w nb es (k + 1) (.slice ia im ic) (.slice oa om oc) (w4.alloc (.cells #[.int .i64 0, .int .i64 0, .bool false, .int .i64 0, .slice none 0 0] 46))) := ⟨v, N, cs, iL, iC, oL, oC, (HM3.out.1.below hb4).below ((Below.refl _ w4).alloc (Nat.le_refl _) _), HF0.out⟩
              clear hb4 H HM3 HF0
              go_wp2_with fail
              go_roundw
              case rel => exact ⟨k + 1, by omega, by omega, by go_num, ⟨_, _, _, rfl⟩, ⟨_, _, _, rfl⟩, HF⟩
              case measure => simp [intOf]; omega
            · go_wp2_with fail
              refine H.mono ?_
              rintro e w4 ⟨rfl, hb4⟩
              have HF : Hid (KI w nb es (k + 1) (.slice ia im ic) (.slice oa om oc) (w4.alloc (.cells #[.int .i64 0, .int .i64 0, .bool false, .int .i64 0, .slice none 0 0] 46))) := ⟨v, N, cs, iL, iC, oL, oC, (HM3.out.1.below hb4).below ((Below.refl _ w4).alloc (Nat.le_refl _) _), HF0.out⟩
              clear hb4 H HM3 HF0
              go_wp2_with fail
              go_roundw
              case rel => exact ⟨k + 1, by omega, by omega, by go_num, ⟨_, _, _, rfl⟩, ⟨_, _, _, rfl⟩, HF⟩
              case measure => simp [intOf]; omega
        · by_cases hkd2 : kd = 2
          · subst hkd2
            by_cases ht : 0 ≤ kk ∧ kk < (cs.length : Int)
            · obtain ⟨ht0, ht1⟩ := ht
              obtain ⟨q, rfl⟩ : ∃ q : Nat, kk = q := ⟨kk.toNat, by omega⟩
              have hqc : q < cs.length := by omega
              have hqN : q < N.l.length := by omega
              have hy : cs[q]? = some cs[q] := List.getElem?_eq_getElem hqc
              have hsm := HNum.out.small cs[q] (.inl (List.getElem_mem hqc))
              have hcq : 0 < cnt cs[q] cs := List.countP_pos_iff.2 ⟨cs[q], List.getElem_mem hqc, sameC_self _⟩
              generalize cs[q] = y at *
              have H19 := n19 nb w.heap.size v N cs q w3 HM3.out.1.net hqN HNum.out.r0 (by have := HNum.out.r1; omega)
              have HF0 : Hid (∀ l', Num (sumN (es.take (k + 1))) (k + 1) { N with r := N.r + 1, l := l' } (restC q cs) iC (oC ++ [y])) := fun l' => HNum.out.out (by rw [HT.out]; omega) hy ⟨rfl, .inl rfl, .inr rfl, rfl, rfl⟩
              clear HNum HT HAr HP
              go_wp2_with fail
              refine H19.mono ?_
              rintro e w4 ⟨rfl, v4, l4, hN4, hF4⟩
              clear H19 hcq
              have hM4 := HM3.out.1.op hF4 hN4
              have hW4 := (beside HM3.out.1.net HM3.out.2.1 hF4 HM3.out.2.2 HM3.out.1.nbn HM3.out.1.n0w).1
              clear hN4 hF4
              obtain ⟨b7, o7, d7, y7, hu7, _, _, hy7, _, _, x0, x1, x2, x3, x4⟩ := (hW4.arg hM4.n0w).2.cells q (by omega)
              rw [hy] at hy7
              cases hy7
              subst hu7
              have hd7 : GoodD w4 w.heap.size d7 y := by
                have h9 : l3[q]? = some d7 := by assumption
                exact hW4.good.2 q d7 y h9 hy
              obtain ⟨fr, to, ak, sq, ba, bn, bc⟩ := d7
              simp only at x0 x1 x2 x3 x4
              have HM6 : Hid (Mem w w4 w.heap.size nb v4 { N with r := N.r + 1, l := l4 } (restC q cs) (.slice ia im ic) iL iC (.slice oa om oc) oL oC ∧ GoodD w4 w.heap.size ⟨fr, to, ak, sq, ba, bn, bc⟩ y) := ⟨hM4, hd7⟩
              clear hM4 hW4 hd7 HM3
              have hol : oL.length = oC.length := HM6.out.1.outR.good.1
              have hol3 := (HF0.out []).len
              have hol4 := (HF0.out []).lim
              simp only [List.length_append, List.length_singleton] at hol3
              have HMA : Hid (Mem w (w4.alloc (.cells #[.int .i64 fr, .int .i64 to, .bool ak, .int .i64 sq, .slice ba bn bc] 46)) w.heap.size nb v4 { N with r := N.r + 1, l := l4 } (restC q cs) (.slice ia im ic) iL iC (.slice oa om oc) oL oC) := HM6.out.1.below ((Below.refl _ w4).alloc (Nat.le_refl _) _)
              have HOW : Hid ((w4.alloc (.cells #[.int .i64 fr, .int .i64 to, .bool ak, .int .i64 sq, .slice ba bn bc] 46)).ownsRow w.heap.size 46 5 (.slice oa om oc) oL.length (flatD oL)) := HMA.out.outR.own
              have HGA : Hid (GoodL (w4.alloc (.cells #[.int .i64 fr, .int .i64 to, .bool ak, .int .i64 sq, .slice ba bn bc] 46)) w.heap.size [⟨fr, to, ak, sq, ba, bn, bc⟩] [y]) := ⟨rfl, fun i d x h1 h2 => by
                match i, h1, h2 with
                | 0, h1, h2 => simp at h1 h2; subst h1 h2; exact HM6.out.2.stay (.of_below ((Below.refl _ w4).alloc (Nat.le_refl _) _) HM6.out.1.n0w)⟩
              have HNN : Hid (∀ j u, [Value.int .i64 fr, .int .i64 to, .bool ak, .int .i64 sq, .slice ba bn bc][j]? = some u → (w4.alloc (.cells #[.int .i64 fr, .int .i64 to, .bool ak, .int .i64 sq, .slice ba bn bc] 46)).cell? ((⟨w4.heap.size, 0, none⟩ : Addr).add j) = some u) := World.news_of_block (cs := #[.int .i64 fr, .int .i64 to, .bool ak, .int .i64 sq, .slice ba bn bc]) (t := 46) (fr := (0, 0)) (heap_alloc_new w4 _)
              have hba : w.heap.size ≤ (w4.alloc (.cells #[.int .i64 fr, .int .i64 to, .bool ak, .int .i64 sq, .slice ba bn bc] 46)).heap.size := HMA.out.n0w
              go_wp2_with (at_builtin; refine wpList_append_own_at _ rfl _ _ 34 rfl w.heap.size 46 i0 _ 5 56 Try.underlying34 hi0 hz0 hsz0 hby0 rfl (by decide) _ _ _ rfl HOW.out ⟨w4.heap.size, 0, none⟩ 1 1 [.int .i64 fr, .int .i64 to, .bool ak, .int .i64 sq, .slice ba bn bc] rfl rfl HNN.out (by simp [Value.oneCell']) (by unfold maxLen; omega) (by omega) hba ?_)
              intro v9 w9 ho9 hg9 _ hat9
              have HF : Hid (KI w nb es (k + 1) (.slice ia im ic) v9 w9) := ⟨v4, _, (restC q cs), iL, iC, oL ++ [⟨fr, to, ak, sq, ba, bn, bc⟩], oC ++ [y], HMA.out.addOut hg9 (by show w9.ownsRow _ _ _ _ (oL.length + 1) _; rw [hol]; exact ho9) (by simpa using hat9) HGA.out, HF0.out _⟩
              obtain ⟨a9, c9, hv9⟩ := owns_slice ho9
              subst hv9
              clear ho9 hg9 hat9 HMA HGA HM6 HF0 HNN HOW
              go_wp2_with fail
              go_roundw
              case rel => exact ⟨k + 1, by omega, by omega, by go_num, ⟨_, _, _, rfl⟩, ⟨_, _, _, rfl⟩, HF⟩
              case measure => simp [intOf]; omega
            · have hno : hasN N.l.length kk = false := by rw [hNl]; simp [hasN]; omega
              have H := n19_no nb w.heap.size v N kk w3 HM3.out.1.net.at_ hno
              have HF0 : Hid (Num (sumN (es.take (k + 1))) (k + 1) N cs iC oC) := HNum.out.wait (by rw [HT.out]; omega)
              clear hno HNum HT HAr HP
              by_cases ht0 : 0 ≤ kk
              · have ht1 : ¬ kk < (cs.length : Int) := by omega
                go_wp2_with fail
                refine H.mono ?_
                rintro e w4 ⟨rfl, hw⟩
                obtain rfl := hw
                have HF : Hid (KI w nb es (k + 1) (.slice ia im ic) (.slice oa om oc) w4) := ⟨v, N, cs, iL, iC, oL, oC, HM3.out.1, HF0.out⟩
                clear H HM3 HF0
                go_wp2_with fail
                go_roundw
                case rel => exact ⟨k + 1, by omega, by omega, by go_num, ⟨_, _, _, rfl⟩, ⟨_, _, _, rfl⟩, HF⟩
                case measure => simp [intOf]; omega
              · go_wp2_with fail
                refine H.mono ?_
                rintro e w4 ⟨rfl, hw⟩
                obtain rfl := hw
                have HF : Hid (KI w nb es (k + 1) (.slice ia im ic) (.slice oa om oc) w4) := ⟨v, N, cs, iL, iC, oL, oC, HM3.out.1, HF0.out⟩
                clear H HM3 HF0
                go_wp2_with fail
                go_roundw
                case rel => exact ⟨k + 1, by omega, by omega, by go_num, ⟨_, _, _, rfl⟩, ⟨_, _, _, rfl⟩, HF⟩
                case measure => simp [intOf]; omega
          · by_cases hkd3 : kd = 3
            · subst hkd3
              by_cases ht : 0 ≤ kk ∧ kk < (cs.length : Int)
              · obtain ⟨ht0, ht1⟩ := ht
                obtain ⟨q, rfl⟩ : ∃ q : Nat, kk = q := ⟨kk.toNat, by omega⟩
                have hqc : q < cs.length := by omega
                have hqN : q < N.l.length := by omega
                have hy : cs[q]? = some cs[q] := List.getElem?_eq_getElem hqc
                have hsm := HNum.out.small cs[q] (.inl (List.getElem_mem hqc))
                have hcq : 0 < cnt cs[q] cs := List.countP_pos_iff.2 ⟨cs[q], List.getElem_mem hqc, sameC_self _⟩
                generalize cs[q] = y at *
                have H20 := n20 nb w.heap.size v N cs q y w3 HM3.out.1.net HM3.out.1.n0w hqN hy HNum.out.x0 (by have := HNum.out.x1; omega) (by rw [hNl]; omega)
                have HF0 : Hid (∀ l', Num (sumN (es.take (k + 1))) (k + 1) { N with x := N.x + 1, l := l' } (cs ++ [y]) (iC ++ [y]) oC) := fun l' => HNum.out.dbl (by rw [HT.out]; omega) hy ⟨rfl, rfl, rfl, rfl, rfl⟩
                clear HNum HT HAr HP
                go_wp2_with fail
                refine H20.mono ?_
                rintro e w4 ⟨rfl, v4, l4, hN4, hF4⟩
                clear H20 hcq
                have hM4 := HM3.out.1.op hF4 hN4
                have hW4 := (beside HM3.out.1.net HM3.out.2.1 hF4 HM3.out.2.2 HM3.out.1.nbn HM3.out.1.n0w).1
                clear hN4 hF4
                obtain ⟨b7, o7, d7, y7, hu7, _, _, hy7, _, _, x0, x1, x2, x3, x4⟩ := (hW4.arg hM4.n0w).2.cells q (by omega)
                rw [hy] at hy7
                cases hy7
                subst hu7
                have hd7 : GoodD w4 w.heap.size d7 y := by
                  have h9 : l3[q]? = some d7 := by assumption
                  exact hW4.good.2 q d7 y h9 hy
                obtain ⟨fr, to, ak, sq, ba, bn, bc⟩ := d7
                simp only at x0 x1 x2 x3 x4
                have HM6 : Hid (Mem w w4 w.heap.size nb v4 { N with x := N.x + 1, l := l4 } (cs ++ [y]) (.slice ia im ic) iL iC (.slice oa om oc) oL oC ∧ GoodD w4 w.heap.size ⟨fr, to, ak, sq, ba, bn, bc⟩ y) := ⟨hM4, hd7⟩
                clear hM4 hW4 hd7 HM3
                have hol : iL.length = iC.length := HM6.out.1.inR.good.1
                have hol3 := (HF0.out []).len
                have hol4 := (HF0.out []).lim
                simp only [List.length_append, List.length_singleton] at hol3
                have HMA : Hid (Mem w (w4.alloc (.cells #[.int .i64 fr, .int .i64 to, .bool ak, .int .i64 sq, .slice ba bn bc] 46)) w.heap.size nb v4 { N with x := N.x + 1, l := l4 } (cs ++ [y]) (.slice ia im ic) iL iC (.slice oa om oc) oL oC) := HM6.out.1.below ((Below.refl _ w4).alloc (Nat.le_refl _) _)
                have HOW : Hid ((w4.alloc (.cells #[.int .i64 fr, .int .i64 to, .bool ak, .int .i64 sq, .slice ba bn bc] 46)).ownsRow w.heap.size 46 5 (.slice ia im ic) iL.length (flatD iL)) := HMA.out.inR.own
                have HGA : Hid (GoodL (w4.alloc (.cells #[.int .i64 fr, .int .i64 to, .bool ak, .int .i64 sq, .slice ba bn bc] 46)) w.heap.size [⟨fr, to, ak, sq, ba, bn, bc⟩] [y]) := ⟨rfl, fun i d x h1 h2 => by
                  match i, h1, h2 with
                  | 0, h1, h2 => simp at h1 h2; subst h1 h2; exact HM6.out.2.stay (.of_below ((Below.refl _ w4).alloc (Nat.le_refl _) _) HM6.out.1.n0w)⟩
                have HNN : Hid (∀ j u, [Value.int .i64 fr, .int .i64 to, .bool ak, .int .i64 sq, .slice ba bn bc][j]? = some u → (w4.alloc (.cells #[.int .i64 fr, .int .i64 to, .bool ak, .int .i64 sq, .slice ba bn bc] 46)).cell? ((⟨w4.heap.size, 0, none⟩ : Addr).add j) = some u) := World.news_of_block (cs := #[.int .i64 fr, .int .i64 to, .bool ak, .int .i64 sq, .slice ba bn bc]) (t := 46) (fr := (0, 0)) (heap_alloc_new w4 _)
                have hba : w.heap.size ≤ (w4.alloc (.cells #[.int .i64 fr, .int .i64 to, .bool ak, .int .i64 sq, .slice ba bn bc] 46)).heap.size := HMA.out.n0w
                go_wp2_with (at_builtin; refine wpList_append_own_at _ rfl _ _ 34 rfl w.heap.size 46 i0 _ 5 56 Try.underlying34 hi0 hz0 hsz0 hby0 rfl (by decide) _ _ _ rfl HOW.out ⟨w4.heap.size, 0, none⟩ 1 1 [.int .i64 fr, .int .i64 to, .bool ak, .int .i64 sq, .slice ba bn bc] rfl rfl HNN.out (by simp [Value.oneCell']) (by unfold maxLen; omega) (by omega) hba ?_)
                intro v9 w9 ho9 hg9 _ hat9
                have HF : Hid (KI w nb es (k + 1) v9 (.slice oa om oc) w9) := ⟨v4, _, (cs ++ [y]), iL ++ [⟨fr, to, ak, sq, ba, bn, bc⟩], iC ++ [y], oL, oC, HMA.out.addIn hg9 (by show w9.ownsRow _ _ _ _ (iL.length + 1) _; rw [hol]; exact ho9) (by simpa using hat9) HGA.out, HF0.out _⟩
                obtain ⟨a9, c9, hv9⟩ := owns_slice ho9
                subst hv9
                clear ho9 hg9 hat9 HMA HGA HM6 HF0 HNN HOW
                go_wp2_with fail
                go_roundw
                case rel => exact ⟨k + 1, by omega, by omega, by go_num, ⟨_, _, _, rfl⟩, ⟨_, _, _, rfl⟩, HF⟩
                case measure => simp [intOf]; omega
              · have hno : hasN N.l.length kk = false := by rw [hNl]; simp [hasN]; omega
                have H := n20_no nb w.heap.size v N kk w3 HM3.out.1.net.at_ hno
                have HF0 : Hid (Num (sumN (es.take (k + 1))) (k + 1) N cs iC oC) := HNum.out.wait (by rw [HT.out]; omega)
                clear hno HNum HT HAr HP
                by_cases ht0 : 0 ≤ kk
                · have ht1 : ¬ kk < (cs.length : Int) := by omega
                  go_wp2_with fail
                  refine H.mono ?_
                  rintro e w4 ⟨rfl, hw⟩
                  obtain rfl := hw
                  have HF : Hid (KI w nb es (k + 1) (.slice ia im ic) (.slice oa om oc) w4) := ⟨v, N, cs, iL, iC, oL, oC, HM3.out.1, HF0.out⟩
                  clear H HM3 HF0
                  go_wp2_with fail
                  go_roundw
                  case rel => exact ⟨k + 1, by omega, by omega, by go_num, ⟨_, _, _, rfl⟩, ⟨_, _, _, rfl⟩, HF⟩
                  case measure => simp [intOf]; omega
                · go_wp2_with fail
                  refine H.mono ?_
                  rintro e w4 ⟨rfl, hw⟩
                  obtain rfl := hw
                  have HF : Hid (KI w nb es (k + 1) (.slice ia im ic) (.slice oa om oc) w4) := ⟨v, N, cs, iL, iC, oL, oC, HM3.out.1, HF0.out⟩
                  clear H HM3 HF0
                  go_wp2_with fail
                  go_roundw
                  case rel => exact ⟨k + 1, by omega, by omega, by go_num, ⟨_, _, _, rfl⟩, ⟨_, _, _, rfl⟩, HF⟩
                  case measure => simp [intOf]; omega
            · have q0 : (kd == 0) = false := by simpa using hkd0
              have q1 : (kd == 1) = false := by simpa using hkd1
              have q2 : (kd == 2) = false := by simpa using hkd2
              have q3 : (kd == 3) = false := by simpa using hkd3
              have HF : Hid (KI w nb es (k + 1) (.slice ia im ic) (.slice oa om oc) w3) := ⟨v, N, cs, iL, iC, oL, oC, HM3.out.1, HNum.out.wait (by rw [HT.out]; omega)⟩
              clear HM3 HNum HT HAr HP hkd0 hkd1 hkd2 hkd3
              go_wp2_with fail
              all_goals (
                go_roundw
                case rel => exact ⟨k + 1, by omega, by omega, by go_num, ⟨_, _, _, rfl⟩, ⟨_, _, _, rfl⟩, HF⟩
                case measure => simp [intOf]; omega)
    · have HM : Hid (Mem w wr w.heap.size nb v N cs (.slice ia im ic) iL iC (.slice oa om oc) oL oC ∧ Num (sumN (es.take k)) k N cs iC oC) := ⟨hM, hNum⟩
      have H15 := n15 nb w.heap.size v N cs wr hM.net (by rw [hNl]; omega) (fun x hx => by have := hNum.small x (.inl hx); omega)
      have hil : iL.length = im := (hM.inR.arg hM.n0w).1
      have hol : oL.length = om := (hM.outR.arg hM.n0w).1
      have hi2 : iL.length = iC.length := hM.inR.good.1
      have ho2 : oL.length = oC.length := hM.outR.good.1
      have hle := hNum.len
      have HIO : Hid (iC.length = im ∧ oC.length = om ∧ cs.length + om = im) := ⟨by omega, by omega, by omega⟩
      have hq1 : (im : Int) - (om : Int) = (cs.length : Int) := by omega
      have him : (im : Int) ≤ 1048876 := by omega
      have hom : (om : Int) ≤ 1048876 := by omega
      have HIL : Hid (iL.length = im) := hil
      clear hM hNum HK hil hol hi2 ho2 hle hNl
      have hq2 : ((cs.length : Int) != (cs.length : Int)) = false := by simp
      have hex : (¬ ((k : Int) < (n : Int))) ∨ ((k : Int) < (n : Int) ∧ ¬ ((k : Int) < 300)) := by omega
      have hend : ∀ (P : Prop), ((¬ ((k : Int) < (n : Int))) → P) → ((k : Int) < (n : Int) → ¬ ((k : Int) < 300) → P) → P := fun P h1 h2 => by
        rcases hex with h | ⟨h, h'⟩
        · exact h1 h
        · exact h2 h h'
      clear hlt hex hk hk3
      refine hend _ (fun hx1 => ?_) (fun hx1 hx2 => ?_)
      all_goals (
        clear hend
        go_wp2_with fail
        refine H15.mono ?_
        rintro e w4 ⟨u4, rfl, l4, ho4, hl4, hb4⟩
        clear H15
        obtain ⟨ua, uc, hu4⟩ := owns_slice ho4
        subst hu4
        have HL4 : Hid (l4.length = cs.length) := hl4.1
        have HM4 : Hid (Mem w w4 w.heap.size nb v N cs (.slice ia im ic) iL iC (.slice oa om oc) oL oC ∧ ArgRow w4 (fun q => q < w4.heap.size) ua cs.length l4 cs ∧ Num (sumN (es.take k)) k N cs iC oC) := by
          have h1 := (arg_of_own ho4 hl4).2
          rw [HL4.out] at h1
          exact ⟨HM.out.1.below hb4, h1, HM.out.2⟩
        rw [HL4.out]
        clear ho4 hl4 hb4 HM
        go_wp2_with fail
        go_loopw [14] (fun i wr => ∃ q : Nat, q ≤ im ∧ i = .int .i64 q ∧ Below w4.heap.size w4 wr) (fun i _ => im - (intOf i).toNat)
        case atStart => exact ⟨0, by omega, rfl, Below.refl _ _⟩
        case round =>
        obtain ⟨q, hq, rfl, hbq⟩ := hrel
        by_cases hql : q < im
        · have hqI : (q : Int) < (im : Int) := by omega
          have hq0 : (0 : Int) ≤ (q : Int) := by omega
          obtain ⟨b7, o7, d, y, hu7, hb7S, hd7, hy7, hDI, hBy, x0, x1, x2, x3, x4⟩ := ((HM4.out.1.inR.arg HM4.out.1.n0w).2.below hbq).cells q hql
          subst hu7
          have hb7 : b7 < wr.drew.heap.size := hb7S
          have HBq : Hid (Below w4.heap.size w4 wr) := hbq
          have hsm : ∀ z, z ∈ cs ∨ z ∈ iC ∨ z ∈ oC → z.xs.length ≤ maxLen := fun z hz => by have := HM4.out.2.2.small z hz; unfold maxLen; omega
          have hyi : y ∈ iC := List.mem_of_getElem? hy7
          have hByd : ∀ W', Below w4.heap.size w4 W' → ByAt W' d.ba d.bn d.bc y.xs := fun W' hW' => ((HM4.out.1.inR.good.2 q d y hd7 hy7).at HM4.out.1.n0w).below hW'
          have hcle : cs.length ≤ 1048576 + 300 := hcsl
          have HC1 : Hid (∀ W', Below w4.heap.size w4 W' → Calls Try.prog 18 #[.slice ua cs.length uc, .agg d.box] W' fun e w' => e = .returned (.int .i64 (cnt y cs)) ∧ Below W'.heap.size W' w') := fun W' hW' => n18 ua cs.length uc l4 cs d y W' (HM4.out.2.1.below hW') hDI (hByd W' hW') (fun z hz => hsm z (.inl hz)) (hsm y (.inr (.inl hyi))) (by omega)
          have HC2 : Hid (∀ W', Below w4.heap.size w4 W' → Calls Try.prog 18 #[.slice oa om oc, .agg d.box] W' fun e w' => e = .returned (.int .i64 (cnt y oC)) ∧ Below W'.heap.size W' w') := fun W' hW' => n18 oa om oc oL oC d y W' ((HM4.out.1.outR.arg HM4.out.1.n0w).2.below hW') hDI (hByd W' hW') (fun z hz => hsm z (.inr (.inr hz))) (hsm y (.inr (.inl hyi))) (by omega)
          have HC3 : Hid (∀ W', Below w4.heap.size w4 W' → Calls Try.prog 18 #[.slice (some ⟨b7, o7, none⟩) im ic, .agg d.box] W' fun e w' => e = .returned (.int .i64 (cnt y iC)) ∧ Below W'.heap.size W' w') := fun W' hW' => n18 _ im ic iL iC d y W' ((HM4.out.1.inR.arg HM4.out.1.n0w).2.below hW') hDI (hByd W' hW') (fun z hz => hsm z (.inr (.inl hz))) (hsm y (.inr (.inl hyi))) (by omega)
          have hcy := HM4.out.2.2.cnts y
          have hcl3 := cnt_le y iC
          have hil9 := HIO.out.1
          have hwr : IntKind.i64.wrap ((cnt y cs : Int) + (cnt y oC : Int)) = (cnt y iC : Int) := by
            have e9 : ((cnt y cs : Int) + (cnt y oC : Int)) = (cnt y iC : Int) := by omega
            rw [e9]; simp only [IntKind.wrap, IntKind.bits, IntKind.signed]; simp; omega
          have hne : ((cnt y iC : Int) != (cnt y iC : Int)) = false := by simp
          have HF0 : Hid (Below w.heap.size w w4) := HM4.out.1.low
          have hS0 : BoxR b7 (o7 + q * 5) d wr.drew := ⟨x0, x1, x2, x3, x4⟩
          obtain ⟨fr, to, ak, sq, ba, bn, bc⟩ := d
          simp only [Dg.box] at HC1 HC2 HC3
          clear hcy hcl3 hil9 hByd hsm hyi hDI hBy hd7 hy7 hb7S
          generalize (cnt y cs : Int) = z1 at *
          generalize (cnt y oC : Int) = z2 at *
          generalize (cnt y iC : Int) = z3 at *
          go_wp2_with fail
          refine wp_region_noPanic ?_
          refine wp_region_held_drew (S := fun w' => BoxR b7 (o7 + q * 5) ⟨fr, to, ak, sq, ba, bn, bc⟩ w') (by kernel_rfl) hS0 (fun hHeld => ?_)
          refine wpAnyH_take (i := 0) (v := ?_) (by simp only [List.getElem?_toArray, List.getElem?_cons_zero]; rfl) (by kernel_rfl) (by kernel_rfl) (by kernel_rfl) (fun _ _ _ h => h) (Or.inl ⟨by rfl, ?_⟩) (by assumption) ?_
          rotate_left
          · (intro w hSw; (try dsimp only at hSw); go_simp <;> with_reducible rfl)
          try simp only [Act.put, List.setIfInBounds_toArray, List.set_cons_zero, List.set_cons_succ]
          refine wpAnyH_take (i := 1) (v := ?_) (by simp only [List.getElem?_toArray, List.getElem?_cons_zero, List.getElem?_cons_succ]; rfl) (by kernel_rfl) (by kernel_rfl) (by kernel_rfl) (fun _ _ _ h => h) (Or.inl ⟨by rfl, ?_⟩) (by assumption) ?_
          rotate_left
          · (intro w hSw; (try dsimp only at hSw); go_simp <;> with_reducible rfl)
          try simp only [Act.put, List.setIfInBounds_toArray, List.set_cons_zero, List.set_cons_succ]
          refine wpAnyH_take (i := 2) (v := ?_) (by simp only [List.getElem?_toArray, List.getElem?_cons_zero, List.getElem?_cons_succ]; rfl) (by kernel_rfl) (by kernel_rfl) (by kernel_rfl) (fun _ _ _ h => h) (Or.inl ⟨by rfl, ?_⟩) (by assumption) ?_
          rotate_left
          · (intro w hSw; (try dsimp only at hSw); go_simp <;> with_reducible rfl)
          try simp only [Act.put, List.setIfInBounds_toArray, List.set_cons_zero, List.set_cons_succ]
          refine wpAnyH_take (i := 3) (v := ?_) (by simp only [List.getElem?_toArray, List.getElem?_cons_zero, List.getElem?_cons_succ]; rfl) (by kernel_rfl) (by kernel_rfl) (by kernel_rfl) (fun _ _ _ h => h) (Or.inl ⟨by rfl, ?_⟩) (by assumption) ?_
          rotate_left
          · (intro w hSw; (try dsimp only at hSw); go_simp <;> with_reducible rfl)
          try simp only [Act.put, List.setIfInBounds_toArray, List.set_cons_zero, List.set_cons_succ]
          refine wpAnyH_take (i := 4) (v := ?_) (by simp only [List.getElem?_toArray, List.getElem?_cons_zero, List.getElem?_cons_succ]; rfl) (by kernel_rfl) (by kernel_rfl) (by kernel_rfl) (fun _ _ _ h => h) (Or.inl ⟨by rfl, ?_⟩) (by assumption) ?_
          rotate_left
          · (intro w hSw; (try dsimp only at hSw); go_simp <;> with_reducible rfl)
          try simp only [Act.put, List.setIfInBounds_toArray, List.set_cons_zero, List.set_cons_succ]
          refine wpAnyH_take (i := 6) (v := ?_) (by simp only [List.getElem?_toArray, List.getElem?_cons_zero, List.getElem?_cons_succ]; rfl) (by kernel_rfl) (by kernel_rfl) (by kernel_rfl) (fun _ _ _ h => h) (Or.inl ⟨by rfl, ?_⟩) (by assumption) ?_
          rotate_left
          · (intro w hSw; (try dsimp only at hSw); go_simp <;> with_reducible rfl)
          try simp only [Act.put, List.setIfInBounds_toArray, List.set_cons_zero, List.set_cons_succ]
          refine wpAnyH_take (i := 7) (v := ?_) (by simp only [List.getElem?_toArray, List.getElem?_cons_zero, List.getElem?_cons_succ]; rfl) (by kernel_rfl) (by kernel_rfl) (by kernel_rfl) (fun _ _ _ h => h) (Or.inl ⟨by rfl, ?_⟩) (by assumption) ?_
          rotate_left
          · (intro w hSw; (try dsimp only at hSw); go_simp <;> with_reducible rfl)
          try simp only [Act.put, List.setIfInBounds_toArray, List.set_cons_zero, List.set_cons_succ]
          refine wpAnyH_take (i := 8) (v := ?_) (by simp only [List.getElem?_toArray, List.getElem?_cons_zero, List.getElem?_cons_succ]; rfl) (by kernel_rfl) (by kernel_rfl) (by kernel_rfl) (fun _ _ _ h => h) (Or.inl ⟨by rfl, ?_⟩) (by assumption) ?_
          rotate_left
          · (intro w hSw; (try dsimp only at hSw); go_simp <;> with_reducible rfl)
          try simp only [Act.put, List.setIfInBounds_toArray, List.set_cons_zero, List.set_cons_succ]
          refine wpAnyH_take (i := 9) (v := ?_) (by simp only [List.getElem?_toArray, List.getElem?_cons_zero, List.getElem?_cons_succ]; rfl) (by kernel_rfl) (by kernel_rfl) (by kernel_rfl) (fun _ _ _ h => h) (Or.inl ⟨by rfl, ?_⟩) (by assumption) ?_
          rotate_left
          · (intro w hSw; (try dsimp only at hSw); go_simp <;> with_reducible rfl)
          try simp only [Act.put, List.setIfInBounds_toArray, List.set_cons_zero, List.set_cons_succ]
          refine wpAnyH_take (i := 10) (v := ?_) (by simp only [List.getElem?_toArray, List.getElem?_cons_zero, List.getElem?_cons_succ]; rfl) (by kernel_rfl) (by kernel_rfl) (by kernel_rfl) (fun _ _ _ h => h) (Or.inl ⟨by rfl, ?_⟩) (by assumption) ?_
          rotate_left
          · (intro w hSw; (try dsimp only at hSw); go_simp <;> with_reducible rfl)
          try simp only [Act.put, List.setIfInBounds_toArray, List.set_cons_zero, List.set_cons_succ]
          refine wpAnyH_take (i := 13) (v := ?_) (by simp only [List.getElem?_toArray, List.getElem?_cons_zero, List.getElem?_cons_succ]; rfl) (by kernel_rfl) (by kernel_rfl) (by kernel_rfl) (fun _ _ _ h => h) (Or.inl ⟨by rfl, ?_⟩) (by assumption) ?_
          rotate_left
          · (intro w hSw; (try dsimp only at hSw); go_simp <;> with_reducible rfl)
          try simp only [Act.put, List.setIfInBounds_toArray, List.set_cons_zero, List.set_cons_succ]
          refine wpAnyH_take (i := 14) (v := ?_) (by simp only [List.getElem?_toArray, List.getElem?_cons_zero, List.getElem?_cons_succ]; rfl) (by kernel_rfl) (by kernel_rfl) (by kernel_rfl) (fun _ _ _ h => h) (Or.inl ⟨by rfl, ?_⟩) (by assumption) ?_
          rotate_left
          · (intro w hSw; (try dsimp only at hSw); go_simp <;> with_reducible rfl)
          try simp only [Act.put, List.setIfInBounds_toArray, List.set_cons_zero, List.set_cons_succ]
          refine wpAnyH_take (i := 15) (v := ?_) (by simp only [List.getElem?_toArray, List.getElem?_cons_zero, List.getElem?_cons_succ]; rfl) (by kernel_rfl) (by kernel_rfl) (by kernel_rfl) (fun _ _ _ h => h) (Or.inl ⟨by rfl, ?_⟩) (by assumption) ?_
          rotate_left
          · (intro w hSw; (try dsimp only at hSw); go_simp <;> with_reducible rfl)
          try simp only [Act.put, List.setIfInBounds_toArray, List.set_cons_zero, List.set_cons_succ]
          refine wpAnyH_take (i := 16) (v := ?_) (by simp only [List.getElem?_toArray, List.getElem?_cons_zero, List.getElem?_cons_succ]; rfl) (by kernel_rfl) (by kernel_rfl) (by kernel_rfl) (fun _ _ _ h => h) (Or.inl ⟨by rfl, ?_⟩) (by assumption) ?_
          rotate_left
          · (intro w hSw; (try dsimp only at hSw); go_simp <;> with_reducible rfl)
          try simp only [Act.put, List.setIfInBounds_toArray, List.set_cons_zero, List.set_cons_succ]
          refine wpAnyH_take (i := 17) (v := ?_) (by simp only [List.getElem?_toArray, List.getElem?_cons_zero, List.getElem?_cons_succ]; rfl) (by kernel_rfl) (by kernel_rfl) (by kernel_rfl) (fun _ _ _ h => h) (Or.inl ⟨by rfl, ?_⟩) (by assumption) ?_
          rotate_left
          · (intro w hSw; (try dsimp only at hSw); go_simp <;> with_reducible rfl)
          try simp only [Act.put, List.setIfInBounds_toArray, List.set_cons_zero, List.set_cons_succ]
          refine wpAnyH_ready (rs := [5]) (by kernel_rfl) (by simp) ?_
          refine AllReadyH.cons (by simp only [List.getElem?_toArray, List.getElem?_cons_zero, List.getElem?_cons_succ]; rfl) (fun K hK => ?_) AllReadyH.nil
          go_simp
          go_at_call 18
          refine (HC1.out _ (HBq.out.drew)).mono ?_
          rintro e wA ⟨rfl, hbA⟩
          refine hK.out _ _ ?_ (fun hHeld => ?_)
          · exact boxR_below (by assumption) hbA (by assumption)
          clear hK K
          try simp only [Act.put, List.setIfInBounds_toArray, List.set_cons_zero, List.set_cons_succ]
          have hbA4 : Below w4.heap.size w4 wA := HBq.out.drew.trans (hbA.mono HBq.out.drew.size)
          have hltA : b7 < wA.heap.size := Nat.lt_of_lt_of_le hb7 hbA.size
          refine wpAnyH_ready (rs := [11]) (by kernel_rfl) (by simp) ?_
          refine AllReadyH.cons (by simp only [List.getElem?_toArray, List.getElem?_cons_zero, List.getElem?_cons_succ]; rfl) (fun K hK => ?_) AllReadyH.nil
          go_simp
          go_at_call 18
          refine (HC2.out _ hbA4).mono ?_
          rintro e wB ⟨rfl, hbB⟩
          refine hK.out _ _ ?_ (fun hHeld => ?_)
          · exact boxR_below (by assumption) hbB hltA
          clear hK K
          try simp only [Act.put, List.setIfInBounds_toArray, List.set_cons_zero, List.set_cons_succ]
          have hbB4 : Below w4.heap.size w4 wB := hbA4.trans (hbB.mono hbA4.size)
          have hltB : b7 < wB.heap.size := Nat.lt_of_lt_of_le hltA hbB.size
          refine wpAnyH_take (i := 12) (v := ?_) (by simp only [List.getElem?_toArray, List.getElem?_cons_zero, List.getElem?_cons_succ]; rfl) (by kernel_rfl) (by kernel_rfl) (by kernel_rfl) (fun _ _ _ h => h) (Or.inl ⟨by rfl, ?_⟩) (by assumption) ?_
          rotate_left
          · (intro w hSw; (try dsimp only at hSw); go_simp <;> with_reducible rfl)
          try simp only [Act.put, List.setIfInBounds_toArray, List.set_cons_zero, List.set_cons_succ]
          refine wpAnyH_ready (rs := [18]) (by kernel_rfl) (by simp) ?_
          refine AllReadyH.cons (by simp only [List.getElem?_toArray, List.getElem?_cons_zero, List.getElem?_cons_succ]; rfl) (fun K hK => ?_) AllReadyH.nil
          go_simp
          go_at_call 18
          refine (HC3.out _ hbB4).mono ?_
          rintro e wC ⟨rfl, hbC⟩
          refine hK.out _ _ ?_ (fun hHeld => ?_)
          · exact boxR_below (by assumption) hbC hltB
          clear hK K
          try simp only [Act.put, List.setIfInBounds_toArray, List.set_cons_zero, List.set_cons_succ]
          refine wpAnyH_take (i := 19) (v := ?_) (by simp only [List.getElem?_toArray, List.getElem?_cons_zero, List.getElem?_cons_succ]; rfl) (by kernel_rfl) (by kernel_rfl) (by kernel_rfl) (fun _ _ _ h => h) (Or.inl ⟨by rfl, ?_⟩) (by assumption) ?_
          rotate_left
          · (intro w hSw; (try dsimp only at hSw); go_simp <;> with_reducible rfl)
          try simp only [Act.put, List.setIfInBounds_toArray, List.set_cons_zero, List.set_cons_succ]
          refine wpAnyH_done (by kernel_rfl) ?_ _
          refine NoPanic.normal ?_
          clear hHeld
          have HF : Hid (Below w4.heap.size w4 wC) := hbB4.trans (hbC.mono hbB4.size)
          clear hbA hbB hbC hbA4 hbB4 hS0 x0 x1 x2 x3 x4
          go_wp2_with fail
          go_roundw
          case rel => exact ⟨q + 1, by omega, by go_num, HF.out⟩
          case measure => simp [intOf]; omega
        · have hqI : ¬ ((q : Int) < (im : Int)) := by omega
          have HF : Hid (Below w.heap.size w wr) := HM4.out.1.low.trans (hbq.mono HM4.out.1.n0w)
          go_wp2_with fail
          go_ret
          exact ⟨rfl, HF.out⟩)
end Go.Proofs.Ythpbfaddojcohaa
