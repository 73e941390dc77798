/- Contract of 'maps' once more: which map comes of the bindings. Sums and guards by a map that says more; values that are not there. -/
import Derived.Test.YtaehhophaaipdaaGreatDoorMAp
import Derived.Test.YtaehhophaaipdaaGreatDoorGVp
import Derived.Test.YtaehhophaaipdaaGreatDoorQNp
import Derived.Test.YtaehhophaaipdaaGreatDoorQOp
namespace Go.Proofs.YtaehhophaaipdaaGreatDoor
open Go.RowKit
attribute [local go_sem ↓] Go.wp_at_zero Go.wp_at_succ
/-- What bindings make of no map. -/
def foldB (bs : List Bn) : Hp := bs.foldl (fun m b => bindH m b.x b.l) []
theorem foldB_snoc (bs : List Bn) (b : Bn) : foldB (bs ++ [b]) = bindH (foldB bs) b.x b.l := by
  unfold foldB
  rw [List.foldl_append]
  rfl
/-- Both maps behind k bindings. -/
def BmF (wB w : World) (hb M rt k : Nat) (m : Hp) : Prop := ∃ G bs, Bm wB hb M rt k m G bs w ∧ hpOf bs = m ∧ RisesH m ∧ bs.length ≤ k
set_option maxRecDepth 100000 in
set_option maxHeartbeats 4000000 in
theorem i7f (a : Option Addr) (n c : Nat) (bs0 : List Bn) (w : World) (hA : BdRow w a n bs0) (hn : n ≤ 3518437208780) (hS : Signs w) :
    Calls Tryz.prog 7 #[.slice a n c] w fun e w' => ∃ hb M rt, e = .returned (.tuple #[.pointer (some ⟨hb, 0, none⟩), .pointer (some ⟨rt, 0, none⟩)]) ∧ Hid (BmF w w' hb M rt n (foldB bs0)) := by
  have HV : Hid (BdRow w a n bs0 ∧ Signs w) := ⟨hA, hS⟩
  have H22 : Calls Tryz.prog 27 #[] w fun e w' => ∃ hb M, e = .returned (.pointer (some ⟨hb, 0, none⟩)) ∧ Hid (HpAt w' hb M 0 (.map []) [] ∧ Below w.heap.size w w' ∧ w.heap.size ≤ hb ∧ w.heap.size ≤ M) := by
    refine (h26 w).mono ?_
    rintro e w' ⟨rfl, h1, h2⟩
    exact ⟨_, _, rfl, h1, h2, by omega, Nat.le_refl _⟩
  clear hA hS
  go_enter Tryz.func7, Tryz.ntmps7
  go_wp2_with fail
  refine H22.mono ?_
  rintro e w1 ⟨hb, M, rfl, HI0⟩
  clear H22
  have H23 : Calls Tryz.prog 28 #[] w1 fun e w' => ∃ rt, e = .returned (.pointer (some ⟨rt, 0, none⟩)) ∧ Hid (BmF w w' hb M rt 0 []) := by
    refine (i23 w1).mono ?_
    rintro e w' ⟨rfl, h1, h2⟩
    obtain ⟨t1, t2, t3, t4⟩ := HI0.out
    have hhb : hb < w1.heap.size := (Array.getElem?_eq_some_iff.1 t1.blk).1
    have hM := t1.map.lt
    have hs := t2.size
    refine ⟨_, rfl, (fun _ => False), [], ⟨⟨0, _, (fun _ => False), t1.below h2, fun x v hx hv g hg => ?_, Nat.le_refl _, fun g hg => hg.elim⟩, h1, fun g hg => hg.elim, ⟨t3, t4, by omega, by omega, by omega⟩, t2.trans (h2.mono t2.size), fun x l hl => by cases hl⟩, rfl, List.Pairwise.nil, Nat.le_refl _⟩
    have e1 := Maps.has_true_of_atKey hv
    rw [t1.no x hx rfl] at e1
    cases e1
  go_wp2_with fail
  refine H23.mono ?_
  rintro e w1b ⟨rt, rfl, HT0⟩
  clear H23 HI0
  go_wp2_with fail
  go_loopw [6] (fun i wr => ∃ k : Nat, k ≤ n ∧ i = .int .i64 k ∧ Hid (BmF w wr hb M rt k (foldB (bs0.take k)))) (fun i _ => n - (intOf i).toNat)
  case atStart => exact ⟨0, Nat.zero_le _, rfl, HT0⟩
  case round =>
    clear HT0
    obtain ⟨k, hk, rfl, HK⟩ := hrel
    by_cases hlt : k < n
    · have hltI : (k : Int) < (n : Int) := by omega
      have hk0 : (0 : Int) ≤ (k : Int) := by omega
      obtain ⟨m, hm0⟩ : ∃ m, foldB (bs0.take k) = m := ⟨_, rfl⟩
      rw [hm0] at HK
      have HM : Hid (foldB (bs0.take k) = m) := hm0
      clear hm0
      obtain ⟨G, bs, HB⟩ : ∃ G bs, Hid (Bm w hb M rt k m G bs wr ∧ hpOf bs = m ∧ RisesH m ∧ bs.length ≤ k) := HK.out
      clear HK
      obtain ⟨b, o, hx, rfl, hbl, c0, c1, c2⟩ := HV.out.1.row.at hlt
      obtain ⟨e1, e2, e3, e4⟩ := HV.out.1.el _ (List.getElem_mem hx)
      obtain ⟨q, hq⟩ : ∃ q, bs0[k] = q := ⟨_, rfl⟩
      have HQ : Hid (foldB (bs0.take (k + 1)) = bindH m q.x q.l) := by
        show _ = _
        rw [List.take_succ_eq_append_getElem hx, hq, foldB_snoc, HM.out]
      rw [hq] at c0 c1 c2 e1 e2 e3 e4
      obtain ⟨⟨x1, x2⟩, la, ln, lc, ll⟩ := q
      simp only [Bn.v] at c0 c1 c2 e1 e2 e3 e4
      have HCL : Hid (∀ u, Below w.heap.size w u → u.cell? ⟨b, o + k * 3, none⟩ = some (.int .i64 x1) ∧ u.cell? ⟨b, o + k * 3 + 1, none⟩ = some (.int .i64 x2) ∧ u.cell? ⟨b, o + k * 3 + 2, none⟩ = some (.slice la ln lc)) := fun u hu => ⟨(hu.cell (p := ⟨b, o + k * 3, none⟩) hbl).trans c0, (hu.cell (p := ⟨b, o + k * 3 + 1, none⟩) hbl).trans c1, (hu.cell (p := ⟨b, o + k * 3 + 2, none⟩) hbl).trans c2⟩
      have HX : Hid (TermAt w (.slice la ln lc) ll ∧ wfN (x1, x2) ∧ (∀ c ∈ ll, wfN (c.vn, c.vk)) ∧ ll.length * 48 ≤ 140737488355328) := ⟨e1, e2, e3, e4⟩
      clear hx hbl c0 c1 c2 e1 e2 e3 e4 hq
      obtain ⟨p0, p1, p2⟩ := HCL.out wr HB.out.1.bel
      have H29 : ∀ W, Hid (Below wr.heap.size wr W) → Calls Tryz.prog 29 #[.pointer (some ⟨hb, 0, none⟩), .agg #[.int .i64 x1, .int .i64 x2], .slice la ln lc] W fun e w' => e = .returned (.int .i64 (bindE m (x1, x2) ll)) ∧ Hid (Bm w hb M rt (k + 1) (bindH m (x1, x2) ll) G bs w') := fun W hW => bm_29 (x1, x2) ll _ (HB.out.1.below hW.out) HX.out.1 HX.out.2.2.2 HX.out.2.1 HX.out.2.2.1 HV.out.2 (by omega)
      generalize bindE m (x1, x2) ll = E1 at *
      go_wp2_with fail
      go_region_with (go_at_call 29; refine (H29 _ (Below.drew (Below.refl _ _))).mono ?_; rintro e w3 ⟨rfl, H3⟩)
      all_goals (
        obtain ⟨r0, r1, r2⟩ := HCL.out w3 H3.out.bel
        have H30 : ∀ W, Hid (Below w3.heap.size w3 W) → Calls Tryz.prog 30 #[.pointer (some ⟨rt, 0, none⟩), .agg #[.int .i64 x1, .int .i64 x2], .slice la ln lc] W fun e w' => e = .returned (.int .i64 (bindE (hpOf bs) (x1, x2) ll)) ∧ Hid (∃ G' bs', hpOf bs' = bindH (hpOf bs) (x1, x2) ll ∧ bs'.length ≤ bs.length + 1 ∧ Bm w hb M rt (k + 1) (bindH m (x1, x2) ll) G' bs' w') := fun W hW => bm_30 (x1, x2) ll _ (H3.out.below hW.out) HX.out.1 HX.out.2.2.2 (by have := HB.out.2.2.2; omega)
        clear p0 p1 p2 H29
        generalize bindE (hpOf bs) (x1, x2) ll = E2 at *
        go_wp2_with fail
        go_region_with (go_at_call 30; refine (H30 _ (Below.drew (Below.refl _ _))).mono ?_; rintro e w4 ⟨rfl, H4⟩)
        all_goals (
          have HF : Hid (BmF w w4 hb M rt (k + 1) (foldB (bs0.take (k + 1)))) := by
            obtain ⟨G', bs', h1, h2, h3⟩ := H4.out
            obtain ⟨_, g2, g3, g4⟩ := HB.out
            have hQ : foldB (bs0.take (k + 1)) = bindH m (x1, x2) ll := HQ.out
            rw [hQ]
            refine ⟨G', bs', h3, by rw [h1, g2], ?_, by omega⟩
            exact rises_bind g3
          clear H4 H30
          go_wp2_with fail
          go_roundw
          case rel => exact ⟨k + 1, by omega, by go_num, HF⟩
          case measure => simp [intOf]; omega))
    · have hltI : ¬ (k : Int) < (n : Int) := by omega
      obtain rfl : k = n := by omega
      have e0 : bs0.take k = bs0 := List.take_of_length_le (by have := HV.out.1.row.1; omega)
      rw [e0] at HK
      clear e0
      go_wp2_with fail
      exact bodyPost_ret (v := .tuple #[.pointer (some ⟨hb, 0, none⟩), .pointer (some ⟨rt, 0, none⟩)]) (by simp [results, Tryz.results7, go_sem]) rfl ⟨hb, M, rt, rfl, HK⟩
end Go.Proofs.YtaehhophaaipdaaGreatDoor

namespace Go.Proofs.YtaehhophaaipdaaGreatDoor
open Go.RowKit
attribute [local go_sem ↓] Go.wp_at_zero Go.wp_at_succ
end Go.Proofs.YtaehhophaaipdaaGreatDoor
