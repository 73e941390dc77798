/- The contract of TermOwn. -/
import Derived.Test.YtpepogmkbcbmpabDoorG1
import Derived.Test.YtpepogmkbcbmpabDoorA4
import Derived.Test.YtpepogmkbcbmpabDoorR5
import Derived.Test.YtpepogmkbcbmpabDoorV4
import Derived.Test.YtpepogmkbcbmpabDoorW18
namespace Go.Proofs.YtpepogmkbcbmpabDoor
open Go.RowKit
theorem rowAt_none (w : World) : RowAt w (.slice none 0 0) [] := ⟨by simp, Or.inl ⟨rfl, none, rfl⟩⟩
theorem TermAt.low {w w' : World} {n : Nat} {v : Value} {l : List C} (h : TermAt w v l) (hn : w.heap.size ≤ n) (hb : Below n w w') : TermAt w' v l := h.below (hb.mono hn)
theorem put_le (l : List C) : (putT l []).length ≤ 256 := by
  unfold putT
  by_cases h : putE l [] = 0
  · rw [if_pos h]
    unfold putE at h
    by_cases h1 : (rightB l && localsB []) = true
    · rw [if_pos h1] at h
      by_cases h2 : lacksB l [] = true
      · rw [if_pos h2] at h; exact absurd h (by decide)
      · rw [if_neg h2] at h
        by_cases h3 : (256 : Int) < ((putL [] l).length : Int)
        · rw [if_pos h3] at h; exact absurd h (by decide)
        · omega
    · rw [if_neg h1] at h; exact absurd h (by decide)
  · rw [if_neg h]; simp
set_option maxRecDepth 100000 in
set_option maxHeartbeats 4000000 in
theorem c3 (l : List C) (v : Value) (w : World) (hT : TermAt w v l) (hS : Signs w) (hby : l.length * 48 ≤ 140737488355328) :
    Calls Tryd.prog 3 #[v] w fun e w' => e = .returned (.bool true) ∧ Below w.heap.size w w' := by
  have HT : Hid (TermAt w v l) := hT
  have HS : Hid (Signs w) := hS
  obtain ⟨adv, cpv, hv⟩ := hT.form
  have H21 := c21 l v w hT hby
  clear hT hS
  subst hv
  go_enter Tryd.func3, Tryd.ntmps3
  go_wp2_with fail
  refine H21.mono ?_
  clear H21
  rintro e w1 ⟨own, rfl, hO1, hb1⟩
  have HT1 : Hid (TermAt w1 own l) := ownT_term hO1 HT.out.1.1 HT.out.1.2
  have HB1 : Hid (Below w.heap.size w w1) := hb1
  have HS1 : Hid (Signs w1) := HS.out.below hb1
  obtain ⟨ado, cpo, ho⟩ := HT1.out.form
  subst ho
  clear hO1 hb1
  go_wp2_with fail
  refine (c26o l _ w1 HT1.out HS1.out).mono ?_
  rintro e w2 ⟨a, rfl, hR2, hb2⟩
  obtain ⟨us, hRS⟩ := rowS_of hR2
  have HB2 : Hid (Below w1.heap.size w1 w2) := hb2
  have HRS : Hid (RowS w2 w1.heap.size a us ((argsL l).map List.length)) := hRS
  clear hR2 hb2 hRS
  go_wp2_with fail
  refine (c31 l _ [] (.slice none 0 0) w2 (HT1.out.below HB2.out) (rowAt_none _) (HS1.out.below HB2.out)).mono ?_
  rintro e w3 ⟨u, rfl, hO3, hb3⟩
  have hO3 : OwnS w3 w1.heap.size u (putT l []).length := (show OwnS w3 w2.heap.size u _ from ⟨_, hO3⟩).down HB2.out.size
  have HW : Hid (RowS w3 w1.heap.size a us ((argsL l).map List.length) ∧ OwnS w3 w1.heap.size u (putT l []).length) := ⟨HRS.out.below hb3, hO3⟩
  have HB3 : Hid (Below w1.heap.size w1 w3) := HB2.out.trans (hb3.mono HB2.out.size)
  have hnl : ((argsL l).map List.length).length ≤ 8 := by rw [List.length_map]; exact argsL_len l
  have hnm : ∀ (i : Nat) (h : i < ((argsL l).map List.length).length), ((argsL l).map List.length)[i] ≤ 256 := by
    intro i h
    rw [List.getElem_map]
    exact (argsL_mem l _ (List.getElem_mem _)).1
  have hpl := put_le l
  have HNM : Hid (∀ (i : Nat) (h : i < ((argsL l).map List.length).length), ((argsL l).map List.length)[i] ≤ 256) := hnm
  clear hnm hO3 hb3 HRS HB2
  generalize (argsL l).map List.length = ns at *
  generalize (putT l []).length = p at *
  go_wp2_with fail
  go_loopw [7] (fun iv wr => ∃ i : Nat, i ≤ ns.length ∧ iv = .int .i64 i ∧ Hid (RowS wr w1.heap.size a us ns ∧ OwnS wr w1.heap.size u p) ∧ Below w1.heap.size w1 wr) (fun iv _ => ns.length - (intOf iv).toNat)
  case atStart => exact ⟨0, Nat.zero_le _, rfl, HW, HB3.out⟩
  case round =>
    obtain ⟨i, hi, rfl, HR, hbr⟩ := hrel
    by_cases hlt : i < ns.length
    · have hlt' : (i : Int) < (ns.length : Int) := by omega
      have hi0 : (0 : Int) ≤ (i : Int) := by omega
      obtain ⟨g, cap, x, ha, hux, hc, hOx⟩ := HR.out.1.at i hlt
      subst ha
      have hn256 := HNM.out i hlt
      have HUX : Hid (us[i]? = some x) := hux
      obtain ⟨adx, cpx, hxf⟩ := hOx.form
      generalize hni : ns[i] = n at *
      have HNI : Hid (ns[i]? = some n) := by
        show ns[i]? = some n
        rw [List.getElem?_eq_getElem hlt, hni]
      clear hni hux hOx
      go_wp2_with fail
      go_loopw [8] (fun kv wq => ∃ k : Nat, k ≤ n ∧ kv = .int .i64 k ∧ Hid (RowS wq w1.heap.size (.slice (some ⟨g, 0, none⟩) ns.length cap) us ns ∧ OwnS wq w1.heap.size u p) ∧ Below w1.heap.size w1 wq) (fun kv _ => n - (intOf kv).toNat)
      case atStart => exact ⟨0, Nat.zero_le _, rfl, HR, hbr⟩
      case round =>
        obtain ⟨k, hk, rfl, HQ, hbq⟩ := hrel
        obtain ⟨g', cap', x', ha', hux', hc', hOx'⟩ := HQ.out.1.at i hlt
        simp only [Value.slice.injEq, Option.some.injEq, Addr.mk.injEq, and_true, true_and] at ha'
        obtain ⟨rfl, rfl⟩ := ha'
        obtain rfl : x' = x := by
          have := HUX.out
          rw [hux'] at this
          exact Option.some.inj this
        have hOn : OwnS wr w1.heap.size x' n := HQ.out.1.2 i _ _ hux' HNI.out
        clear hux' hOx' hc
        by_cases hkn : k < n
        · obtain ⟨g2, cp2, hx2, hg2, hcp, hcm, ⟨y, hy⟩, hfz, cur, hcur⟩ := hOn.cell k hkn
          subst hx2
          have hkn' : (k : Int) < (n : Int) := by omega
          have hk0 : (0 : Int) ≤ (k : Int) := by omega
          have HQ2 : Hid (RowS (wr.setCell ⟨g2, k * 5 + 2, none⟩ (.int .i64 77)) w1.heap.size (.slice (some ⟨g, 0, none⟩) ns.length cap) us ns ∧ OwnS (wr.setCell ⟨g2, k * 5 + 2, none⟩ (.int .i64 77)) w1.heap.size u p) := ⟨HQ.out.1.set _ _ hcur, HQ.out.2.set _ _ _⟩
          have HBQ : Hid (Below w1.heap.size w1 (wr.setCell ⟨g2, k * 5 + 2, none⟩ (.int .i64 77))) := hbq.setCell (p := ⟨g2, k * 5 + 2, none⟩) hg2 _
          clear hOn hcur
          go_wp2_with fail
          go_roundw
          case rel => exact ⟨k + 1, by omega, by go_num, HQ2, HBQ.out⟩
          case measure => simp [intOf]; omega
        · obtain rfl : k = n := by omega
          obtain ⟨adx', cpx', hxf'⟩ := hOn.form
          subst hxf'
          have hkn' : ¬ ((k : Int) < (k : Int)) := by omega
          clear hOn
          go_wp2_with fail
          go_roundw
          case rel => exact ⟨i + 1, by omega, by go_num, HQ, hbq⟩
          case measure => simp [intOf]; omega
    · obtain rfl : i = ns.length := by omega
      have hlt' : ¬ ((ns.length : Int) < (ns.length : Int)) := by omega
      obtain ⟨ada, cpa, ha⟩ : ∃ ad cp, a = .slice ad ns.length cp := by
        rcases HR.out.1.1.2 with ⟨h1, h2⟩ | ⟨g, cap, cur, h1, _⟩
        · exact ⟨none, 0, by rw [h1, h2]⟩
        · exact ⟨_, _, h1⟩
      subst ha
      go_wp2_with fail
      go_loopw [9] (fun kv wq => ∃ k : Nat, k ≤ p ∧ kv = .int .i64 k ∧ Hid (OwnS wq w1.heap.size u p) ∧ Below w1.heap.size w1 wq) (fun kv _ => p - (intOf kv).toNat)
      case atStart => exact ⟨0, Nat.zero_le _, rfl, HR.out.2, hbr⟩
      case round =>
        obtain ⟨k, hk, rfl, HQ, hbq⟩ := hrel
        by_cases hkn : k < p
        · obtain ⟨g2, cp2, hx2, hg2, hcp, hcm, ⟨y, hy⟩, hfz, cur, hcur⟩ := HQ.out.cell k hkn
          subst hx2
          have hkn' : (k : Int) < (p : Int) := by omega
          have hk0 : (0 : Int) ≤ (k : Int) := by omega
          have HQ2 : Hid (OwnS (wr.setCell ⟨g2, k * 5 + 2, none⟩ (.int .i64 77)) w1.heap.size (.slice (some ⟨g2, 0, none⟩) p cp2) p) := HQ.out.set _ _ _
          have HBQ : Hid (Below w1.heap.size w1 (wr.setCell ⟨g2, k * 5 + 2, none⟩ (.int .i64 77))) := hbq.setCell (p := ⟨g2, k * 5 + 2, none⟩) hg2 _
          clear hcur
          go_wp2_with fail
          go_roundw
          case rel => exact ⟨k + 1, by omega, by go_num, HQ2, HBQ.out⟩
          case measure => simp [intOf]; omega
        · obtain rfl : k = p := by omega
          obtain ⟨adx', cpx', hxf'⟩ := HQ.out.form
          subst hxf'
          have hkn' : ¬ ((k : Int) < (k : Int)) := by omega
          have HBQ : Hid (Below w1.heap.size w1 wr) := hbq
          have HWQ : Hid (Below w.heap.size w wr) := HB1.out.trans (hbq.mono HB1.out.size)
          clear HQ hbq
          go_wp2_with fail
          refine (c12 wr (HS1.out.below HBQ.out)).mono ?_
          rintro e w4 ⟨rfl, hb4⟩
          have HB4 : Hid (Below w1.heap.size w1 w4) := HBQ.out.trans (hb4.mono HBQ.out.size)
          have HW4 : Hid (Below w.heap.size w w4) := HB1.out.trans (HB4.out.mono HB1.out.size)
          clear hb4
          have H8 := c13 l l _ _ w4 (HT1.out.below HB4.out) (HT.out.below HW4.out)
          rw [eqT_refl] at H8
          go_wp2_with fail
          refine H8.mono ?_
          rintro e w5 ⟨rfl, hb5⟩
          have HB5 : Hid (Below w1.heap.size w1 w5) := HB4.out.trans (hb5.mono HB4.out.size)
          have HW5 : Hid (Below w.heap.size w w5) := HB1.out.trans (HB5.out.mono HB1.out.size)
          clear hb5 H8
          go_wp2_with fail
          refine (c26 l _ w5 (HT1.out.below HB5.out) (HS1.out.below HB5.out)).mono ?_
          rintro e w6 ⟨r6, rfl, hR6, hb6⟩
          have HB6 : Hid (Below w1.heap.size w1 w6) := HB5.out.trans (hb6.mono HB5.out.size)
          have HW6 : Hid (Below w.heap.size w w6) := HB1.out.trans (HB6.out.mono HB1.out.size)
          clear hb6
          go_wp2_with fail
          refine (c27 l _ w6 (HT.out.below HW6.out)).mono ?_
          rintro e w7 ⟨r7, rfl, hR7, hb7⟩
          have HW7 : Hid (Below w.heap.size w w7) := HW6.out.trans (hb7.mono HW6.out.size)
          have H9 := c20 (argsL l) (argsL l) r6 r7 w7 (hR6.below hb7) hR7
          rw [sameR_refl] at H9
          clear hR6 hR7 hb7
          go_wp2_with fail
          refine H9.mono ?_
          rintro e w8 ⟨rfl, hb8⟩
          go_wp2_with fail
          go_ret
          exact ⟨rfl, HW7.out.trans (hb8.mono HW7.out.size)⟩
end Go.Proofs.YtpepogmkbcbmpabDoor
