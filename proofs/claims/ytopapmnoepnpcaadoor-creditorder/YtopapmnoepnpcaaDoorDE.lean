/- Contract of Print of an amount that is right. -/
import Derived.Test.YtopapmnoepnpcaaDoorDD
import Derived.Test.YtopapmnoepnpcaaDoorCJ
import Derived.Test.YtopapmnoepnpcaaDoorSh2
import Derived.Lib.AppendIntMem
import Derived.Lib.ItoaLen
import Derived.Lib.AppendStr
import Derived.Lib.Slices
import Derived.Lib.Hide
import Derived.Laws.IdiomStrings
import Derived.OwnWalk
import Derived.BigCall
namespace Go.Proofs.YtopapmnoepnpcaaDoor
open Go.RowKit
attribute [local go_sem ↓] Go.wp_at_zero Go.wp_at_succ
/-- The text of Bits, and of an amount. -/
def bitsL : List Int → List UInt8
  | [] => []
  | b :: l => 43 :: (Lib.itoa b ++ bitsL l)
def printL (W : Int) (B : List Int) : List UInt8 := Lib.itoa W ++ bitsL B
theorem bitsL_snoc : ∀ (l : List Int) (b : Int), bitsL (l ++ [b]) = bitsL l ++ (43 :: Lib.itoa b)
  | [], b => by simp [bitsL]
  | x :: l, b => by simp only [List.cons_append, bitsL]; rw [bitsL_snoc l b]; simp
theorem infoU8 : ∃ i, Tryd.prog.info? 5 = some i ∧ i.zero = some (.int .u8 0) ∧ i.size = 1 ∧ i.bytes = 1 := by
  have h : (Tryd.prog.info? 5).map (fun i => (i.zero, i.size, i.bytes)) = some (some (.int .u8 0), 1, 1) := by kernel_rfl
  cases hq : Tryd.prog.info? 5 with
  | none => rw [hq] at h; cases h
  | some i =>
    rw [hq] at h
    simp only [Option.map_some, Option.some.injEq, Prod.mk.injEq] at h
    exact ⟨i, rfl, h.1, h.2.1, h.2.2⟩
theorem dec_pos (u : Nat) : 0 < (Lib.decDigits u).length := by
  rw [Lib.decDigits]
  split <;> simp
theorem itoa_pos (x : Int) : 0 < (Lib.itoa x).length := by
  unfold Lib.itoa
  split
  · simp
  · exact dec_pos _
abbrev Tb (w : World) : Prop := Lib.TabIs Tryd.prog w "internal/strconv.uint64pow10" .u64 Lib.pow10Tab
theorem Tb.below {w w' : World} (h : Tb w) (hb : Below w.heap.size w w') : Tb w' := Lib.tabBelow_of_tabIs h w' hb
set_option maxRecDepth 100000 in
set_option maxHeartbeats 8000000 in
theorem d17 (v : Value) (W : Int) (B : List Int) (w : World) (h : Am w v W B) (hR : rightB W B = true) (hT : Tb w) : Calls Tryd.prog 17 #[v] w fun e w' => e = .returned (.string ⟨(printL W B).toArray⟩) ∧ Below w.heap.size w w' := by
  have HV : Hid (Am w v W B) := h
  obtain ⟨a, n, c, rfl, hS⟩ := h.val
  have HS : Hid (Sl w a n c B) := hS
  have hlen := hS.i.len
  have hW := (right_iff.1 hR).1
  have hBl := rise_len B 0 (by omega) (right_iff.1 hR).2
  have HM : Hid (∀ x ∈ B, 0 ≤ x ∧ x ≤ 1048576) := rise_mem B 0 (by omega) (right_iff.1 hR).2
  have HTb : Hid (Lib.TabBelow Tryd.prog w.heap.size w "internal/strconv.uint64pow10" .u64 Lib.pow10Tab) := Lib.tabBelow_of_tabIs hT
  obtain ⟨i0, hi, hz0, hz1, hz2⟩ := infoU8
  have HI : Hid (Tryd.prog.info? 5 = some i0 ∧ i0.zero = some (.int .u8 0) ∧ i0.size = 1 ∧ i0.bytes = 1) := ⟨hi, hz0, hz1, hz2⟩
  obtain ⟨U, hU⟩ : ∃ U, w.alloc (.cells #[.int .i64 W, .slice a n c] 24) = U := ⟨_, rfl⟩
  obtain ⟨p, hp⟩ : ∃ p, w.heap.size = p := ⟨_, rfl⟩
  have H0 : Hid (Bk w U p (.int .i64 W) (.slice a n c) 24) := by rw [← hU, ← hp]; exact bk_new w _ _ _
  obtain ⟨s0, s1⟩ := box2 H0.out.box
  have H9 : Calls Tryd.prog 9 #[.agg #[.int .i64 W, .slice a n c]] U fun e w' => e = .returned (.bool true) ∧ Hid (Bk w w' p (.int .i64 W) (.slice a n c) 24) := (d9 _ W B U (HV.out.below H0.out.bel)).mono fun e w' ⟨h1, h2⟩ => ⟨by rw [h1, hR], H0.out.below h2⟩
  clear h hS hR hT hi hz0 hz1 hz2
  go_enter Tryd.func17, Tryd.ntmps17
  go_wp2_with fail
  refine H9.mono ?_
  rintro e w1 ⟨rfl, H1⟩
  clear H9 hU s0 s1 H0
  obtain ⟨s0, s1⟩ := box2 H1.out.box
  have hpl : Hid (p < w1.heap.size) := (Array.getElem?_eq_some_iff.1 H1.out.box).1
  have H27 : Calls Tryd.prog 27 #[.slice none 0 0, .int .i64 W, .int .i64 10] w1 fun e w' => ∃ va m vc, e = .returned (.slice va m vc) ∧ m = (Lib.itoa W).length ∧ Hid (w'.ownsRow w1.heap.size 5 1 (.slice va m vc) m (Lib.byteCells (Lib.itoa W)) ∧ Below w1.heap.size w1 w') := by
    refine (Tryd.strconv_AppendInt_10 w1.heap.size 0 W (by omega) (by omega) (.slice none 0 0) [] w1 (World.ownsRow_nil _ _ _ _) (Nat.le_refl _) (by omega) (Lib.tabBelow_of_tabIs (HTb.out w1 H1.out.bel))).mono ?_
    rintro e w' ⟨v', rfl, h1, h2, _⟩
    rw [Nat.zero_add, List.nil_append] at h1
    obtain ⟨va, vc, rfl⟩ : ∃ va vc, v' = .slice va (Lib.itoa W).length vc := by
      rcases h1.2 with ⟨e, e2⟩ | ⟨g, cap, cur, e, _⟩
      · exact ⟨none, 0, by rw [e, e2]⟩
      · exact ⟨_, _, e⟩
    exact ⟨va, _, vc, rfl, rfl, h1, h2⟩
  go_wp2_with fail
  refine H27.mono ?_
  rintro e w2 ⟨va, m, vc, rfl, hm, H2⟩
  clear H27 s0 s1
  have hm20 := Lib.itoa_length_le W (by omega) (by omega)
  have HC0 : Hid (w2.ownsRow w1.heap.size 5 1 (.slice va m vc) m (Lib.byteCells (Lib.itoa W ++ bitsL (B.take 0))) ∧ Below w1.heap.size w1 w2 ∧ m = (Lib.itoa W ++ bitsL (B.take 0)).length) := by
    refine ⟨by simpa [bitsL] using H2.out.1, H2.out.2, by simpa [bitsL] using hm⟩
  have hm0 : m ≤ 21 + 22 * 0 := by omega
  have hnn : (n : Int) ≤ 1048576 := by omega
  have HBk : Hid (∀ V, Below w1.heap.size w1 V → Bk w V p (.int .i64 W) (.slice a n c) 24 ∧ Sl V a n c B) := fun V hV => ⟨H1.out.below hV, HS.out.below (H1.out.below hV).bel⟩
  obtain ⟨s0, s1⟩ := box2 (HBk.out w2 H2.out.2).1.box
  clear H2 hm hm20
  go_wp2_with fail
  clear s0 s1
  go_loopw [3, 5, 15] (fun st _ i wr => ∃ (k m : Nat) (va : Option Addr) (vc : Nat), k ≤ n ∧ st = .slice va m vc ∧ i = .int .i64 k ∧ m ≤ 21 + 22 * k ∧ Hid (wr.ownsRow w1.heap.size 5 1 (.slice va m vc) m (Lib.byteCells (Lib.itoa W ++ bitsL (B.take k))) ∧ Below w1.heap.size w1 wr ∧ m = (Lib.itoa W ++ bitsL (B.take k)).length)) (fun _ _ i _ => n - (intOf i).toNat)
  case atStart => exact ⟨0, m, va, vc, Nat.zero_le _, rfl, rfl, hm0, HC0⟩
  case round =>
    clear HC0 hm0
    obtain ⟨k, m, va, vc, hk, rfl, rfl, hmk, HC⟩ := hrel
    by_cases hlt : k < n
    · have l1 : (k : Int) < (n : Int) := by omega
      have l0 : (0 : Int) ≤ (k : Int) := by omega
      obtain ⟨b, o, hx, rfl, p0⟩ := (HBk.out wr HC.out.2.1).2.i.at hlt
      have HT2 : Hid (bitsL (B.take (k + 1)) = bitsL (B.take k) ++ (43 :: Lib.itoa B[k])) := by
        show bitsL (B.take (k + 1)) = _
        rw [← bitsL_snoc, List.take_append_getElem]
      have HY : Hid (0 ≤ B[k] ∧ B[k] ≤ 1048576) := HM.out _ (List.getElem_mem hx)
      generalize B[k] = y at *
      have hy20 := Lib.itoa_length_le y (by have := HY.out; omega) (by have := HY.out; omega)
      have hsz : w1.heap.size ≤ wr.heap.size := HC.out.2.1.size
      have hmk2 : m ≤ 30000000 := by omega
      go_wp2_with (at_builtin; refine Lib.wpList_append_own_string _ rfl _ _ 56 9 rfl w1.heap.size 5 i0 Tryd.underlying56 Tryd.underlying9 HI.out.1 HI.out.2.1 HI.out.2.2.1 HI.out.2.2.2 _ m _ rfl HC.out.1 _ rfl (show m + 1 ≤ maxLen by unfold maxLen; omega) (show m + 1 ≤ 140737488355328 by omega) hsz ?_)
      intro v' w5 r1 r2 _
      have H5 : Hid (Below w1.heap.size w1 w5 ∧ w5.ownsRow w1.heap.size 5 1 v' (m + 1) (Lib.byteCells (Lib.itoa W ++ bitsL (B.take k)) ++ Lib.byteCells [43])) := by
        refine ⟨HC.out.2.1.trans ⟨r2.os, r2.tape, r2.output, r2.size, fun j hj => r2.block j (Nat.lt_of_lt_of_le hj hsz) fun e => ?_⟩, r1⟩
        have := (HC.out.1.lt j e.symm).1
        omega
      clear r1 r2
      have H27 : Calls Tryd.prog 27 #[v', .int .i64 y, .int .i64 10] w5 fun e w' => ∃ va m' vc, e = .returned (.slice va m' vc) ∧ m' = m + 1 + (Lib.itoa y).length ∧ Hid (w'.ownsRow w1.heap.size 5 1 (.slice va m' vc) m' (Lib.byteCells (Lib.itoa W ++ bitsL (B.take (k + 1)))) ∧ Below w1.heap.size w1 w' ∧ m' = (Lib.itoa W ++ bitsL (B.take (k + 1))).length) := by
        obtain ⟨t1, t2⟩ := H5.out
        refine (Tryd.strconv_AppendInt_10 w1.heap.size (m + 1) y (by have := HY.out; omega) (by have := HY.out; omega) v' _ w5 t2 t1.size (by omega) ((Lib.tabBelow_of_tabIs (HTb.out w1 H1.out.bel)).on t1)).mono ?_
        rintro e w' ⟨v2, rfl, h1, h2, _⟩
        have e1 : Lib.byteCells (Lib.itoa W ++ bitsL (B.take k)) ++ Lib.byteCells [43] ++ Lib.byteCells (Lib.itoa y) = Lib.byteCells (Lib.itoa W ++ bitsL (B.take (k + 1))) := by rw [HT2.out]; simp [Lib.byteCells]
        rw [e1] at h1
        obtain ⟨va, vc, rfl⟩ : ∃ va vc, v2 = .slice va (m + 1 + (Lib.itoa y).length) vc := by
          rcases h1.2 with ⟨e, e2⟩ | ⟨g, cap, cur, e, _⟩
          · omega
          · exact ⟨_, _, e⟩
        refine ⟨va, _, vc, rfl, rfl, h1, t1.trans h2, ?_⟩
        have := HC.out.2.2
        rw [HT2.out]
        simp only [List.length_append, List.length_cons] at this ⊢
        omega
      go_wp2_with fail
      refine H27.mono ?_
      rintro e w6 ⟨va2, m2, vc2, rfl, hm2, H6⟩
      have hm3 : m2 ≤ 21 + 22 * (k + 1) := by omega
      clear H27 H5 hm2 p0 hy20 HT2
      go_wp2_with fail
      go_roundw
      case rel => exact ⟨k + 1, m2, va2, vc2, by omega, rfl, by go_num, hm3, H6⟩
      case measure => simp [intOf]; omega
    · have HE : Hid (wr.ownsRow w1.heap.size 5 1 (.slice va m vc) m (Lib.byteCells (printL W B)) ∧ Below w.heap.size w wr ∧ m = (printL W B).length) := by
        have := HC.out
        rw [List.take_of_length_le (by omega)] at this
        exact ⟨this.1, (HBk.out wr this.2.1).1.bel, this.2.2⟩
      have hpos : 0 < m := by
        have h1 := HE.out.2.2
        have h2 : 0 < (Lib.itoa W).length := itoa_pos W
        unfold printL at h1
        rw [List.length_append] at h1
        omega
      obtain ⟨L, hL⟩ : ∃ L, L = printL W B := ⟨_, rfl⟩
      rw [← hL] at HE
      have HLq : Hid (L = printL W B) := hL
      obtain ⟨g, rfl⟩ : ∃ g, va = some ⟨g, 0, none⟩ := by
        rcases HE.out.1.2 with ⟨_, h0⟩ | ⟨g, cap, cur, e, _⟩
        · omega
        · cases e; exact ⟨g, rfl⟩
      have hcv := run_convert_bytes_back (P := Tryd.prog) wr 56 9 5 ⟨g, 0, none⟩ vc L Tryd.underlying56 Tryd.underlying5 Tryd.underlying9 (fun j hj => HE.out.1.cells (g := g) rfl j _ (by simp [Lib.byteCells, hj]))
      rw [← HE.out.2.2] at hcv
      clear hL HC
      go_wp2_with fail
      go_ret
      exact ⟨by rw [← HLq.out]; rfl, HE.out.2.1⟩
end Go.Proofs.YtopapmnoepnpcaaDoor
