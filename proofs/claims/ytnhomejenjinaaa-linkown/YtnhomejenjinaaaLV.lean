/- The statement on what is handed out: it returns true. -/
import Derived.Test.YtnhomejenjinaaaLU
import Derived.Test.YtnhomejenjinaaaLG
namespace Go.Proofs.Ytnhomejenjinaaa
open Go.RowKit
attribute [local go_sem ↓] Go.wp_at_zero Go.wp_at_succ
/-- A row of payloads. -/
def PaIn (w : World) (pa : Option Addr) (q : Nat) : Prop := ∀ k, k < q → ∃ b o ua un uc xs, pa = some ⟨b, o, none⟩ ∧ b < w.heap.size ∧ w.cell? ⟨b, o + k, none⟩ = some (.slice ua un uc) ∧ By w ua un uc xs
set_option maxRecDepth 100000 in
set_option maxHeartbeats 8000000 in
theorem l6 (pa : Option Addr) (q pc : Nat) (w : World) (hP : PaIn w pa q) :
    Calls Try.prog 6 #[.slice pa q pc] w fun e w' => e = .returned (.bool true) ∧ Below w.heap.size w w' := by
  have HP : Hid (PaIn w pa q) := hP
  clear hP
  go_enter Try.func6, Try.ntmps6
  go_wp2_with fail
  refine (l7 w).mono ?_
  rintro e w1 ⟨rfl, hw1⟩
  obtain ⟨la, hla⟩ : ∃ la, w.heap.size = la := ⟨_, rfl⟩
  have HA : Hid (LkG w1 w.heap.size la ((0 : Nat) : Int) ⟨none, 0, 0⟩ [] ∧ Below w.heap.size w w1 ∧ w1.heap.size = la + 1 ∧ w.heap.size = la) := by
    rw [← hla]
    refine ⟨⟨?_, Nat.le_refl _, rowO_nil _ _ _, fun t ht => by cases ht⟩, ?_, by rw [hw1]; simp, rfl⟩
    · rw [hw1]
      exact heap_alloc_new w _
    · rw [hw1]
      exact (Below.refl _ w).alloc (Nat.le_refl _) _
  rw [hla]
  clear hw1 hla
  go_wp2_with fail
  refine (r8 w1).mono ?_
  rintro e w2 ⟨rfl, hw2⟩
  obtain ⟨rb, hrb⟩ : ∃ rb, w1.heap.size = rb := ⟨_, rfl⟩
  have HB : Hid (Lw w2 w.heap.size la rb ⟨none, 0, 0⟩ [] (.slice none 0 0) [] [] ∧ Below w.heap.size w w2) := by
    obtain ⟨k1, k2, k3, k4⟩ := HA.out
    have hb : Below w1.heap.size w1 w2 := by rw [hw2]; exact (Below.refl _ w1).alloc (Nat.le_refl _) _
    have h0 := k2.size
    refine ⟨⟨k1.below hb, ⟨?_, ⟨by omega, Nat.le_trans h0 hb.size⟩, World.ownsRow_nil _ _ _ _, rfl, fun k d xs h => by simp at h⟩, rfl, fun k d xs h => by simp at h⟩, k2.trans (hb.mono h0)⟩
    rw [hw2, ← hrb]
    exact heap_alloc_new w1 _
  rw [hrb]
  have HPl : Hid (∀ k, k < q → ∃ b o ua un uc xs, pa = some ⟨b, o, none⟩ ∧ Hid (∀ W, Below w.heap.size w W → W.cell? ⟨b, o + k, none⟩ = some (.slice ua un uc)) ∧ Hid (By w ua un uc xs ∧ (un = 0 ∨ ∀ g, blk ua = some g → g < w.heap.size))) := fun k hk => by
    obtain ⟨b, o, ua, un, uc, xs, e1, e2, e3, e4⟩ := HP.out k hk
    have e6 : un = 0 ∨ ∀ g, blk ua = some g → g < w.heap.size := by
      rcases e4.mem with h | ⟨b', o', h1, h2, _⟩
      · exact .inl h
      · refine .inr fun g hg => ?_
        rw [h1] at hg
        simp only [blk_some, Option.some.injEq] at hg
        omega
    exact ⟨b, o, ua, un, uc, xs, e1, fun W hW => (hW.cell (p := ⟨b, o + k, none⟩) e2).trans e3, e4, e6⟩
  obtain ⟨B, hB⟩ : ∃ B, w.heap.size = B := ⟨_, rfl⟩
  have HBw : Hid (w.heap.size = B ∧ B ≤ la) := ⟨hB, by rw [← hB]; exact HB.out.1.lk.hb⟩
  rw [hB] at HB HPl
  clear HA HP hw2 hrb
  go_wp2_with fail
  go_loopw [7] (fun iv wr => ∃ i : Nat, iv = .int .i64 i ∧ i ≤ 50 ∧ i ≤ q ∧ Hid (∃ s l ov ds ms, Lw wr B la rb s l ov ds ms ∧ ds.length ≤ i ∧ Below B w wr)) (fun iv _ => 50 - (intOf iv).toNat)
  case atStart => exact ⟨0, rfl, by omega, Nat.zero_le _, _, _, _, _, _, HB.out.1, Nat.le_refl _, HB.out.2⟩
  case round =>
    clear HB
    obtain ⟨i, rfl, hi50, hiq, HI'⟩ := hrel
    obtain ⟨s, l, ov, ds, ms, HI⟩ : ∃ s l ov ds ms, Hid (Lw wr B la rb s l ov ds ms ∧ ds.length ≤ i ∧ Below B w wr) := HI'.out
    clear HI'
    by_cases hgo : i < q ∧ i < 50
    · obtain ⟨hm1, hm2⟩ := hgo
      have hm1I : (i : Int) < (q : Int) := by omega
      have hm2I : (i : Int) < 50 := by omega
      have hi0 : (0 : Int) ≤ (i : Int) := by omega
      obtain ⟨b, o, ua, un, uc, ys, rfl, hpy, hy⟩ := HPl.out i hm1
      have py := hpy.out wr HI.out.2.2
      by_cases hln : un ≤ 65536
      · have H14 : Calls Try.prog 14 #[.pointer (some ⟨la, 0, none⟩), .int .i64 1, .slice ua un uc] wr fun e w' => ∃ v, e = .returned v ∧ Hid (Below B w w' ∧ B ≤ w'.heap.size ∧ ∃ s' t, LkG w' B la ((0 : Nat) : Int) s' (l ++ [t]) ∧ RkG w' B rb ov ds ms ∧ ∀ (k : Nat) (u : Sl) (zs : List Int), (l ++ [t])[k]? = some u → (ms ++ [ys])[k]? = some zs → Row w' B 5 u.a u.n u.c (u8s zs) ∧ ∀ x ∈ zs, Byte x) := by
          obtain ⟨h1, h2, h3⟩ := HI.out
          have h8 := HBw.out
          have hby : By wr ua un uc ys := hy.out.1.below (by rw [h8.1]; exact h3)
          refine (l14g B la 0 (0 + l.length) s l ua un uc ys wr h1.lk h1.rk.hb.2 hby ?_ hln rfl (by have := h1.len; omega)).mono ?_
          · rcases hy.out.2 with h7 | h7
            · exact .inl h7
            · refine .inr fun g hg => ?_
              have h7 := h7 g hg
              refine ⟨by have := h1.rk.hb.2; omega, by omega, fun e => ?_⟩
              have := (h1.lk.row.lt e).1
              omega
          · rintro e w' ⟨a', c', rfl, hp, _⟩
            obtain ⟨s', t, k1, k2, k3, k4⟩ := h1.mid hp hby.rng
            exact ⟨_, rfl, h3.trans k3, k2.hb.2, s', t, k1, k2, k4⟩
        have HX : Hid (ds.length ≤ i ∧ l.length = ds.length) := ⟨HI.out.2.1, HI.out.1.len⟩
        clear HI
        go_wp2_with fail
        refine H14.mono ?_
        rintro e w3 ⟨v3, rfl, H3⟩
        clear H14 py
        have py := hpy.out w3 H3.out.1
        have H15 : Calls Try.prog 15 #[.pointer (some ⟨rb, 0, none⟩), .int .i64 1, .slice ua un uc] w3 fun e w' => ∃ v, e = .returned v ∧ Hid (∃ s l ov ds ms, Lw w' B la rb s l ov ds ms ∧ ds.length ≤ i + 1 ∧ Below B w w') := by
          obtain ⟨h1, h2, s', t, h3, h4, h5⟩ := H3.out
          have h8 := HBw.out
          have hby : By w3 ua un uc ys := hy.out.1.below (by rw [h8.1]; exact h1)
          have hx := HX.out
          refine (r15 B rb ds.length ov ds ms ua un uc ys w3 h4 hby hln rfl (by omega)).mono ?_
          rintro e w' ⟨v, rfl, ov', d, k1, k2, k3, k4⟩
          exact ⟨v, rfl, s', l ++ [t], ov', ds ++ [d], ms ++ [ys], lw_end h3 h4 k1 (by simp [hx.2]) h5 k4, by simp; omega, h1.trans k2⟩
        clear H3 HX
        go_wp2_with fail
        refine H15.mono ?_
        rintro e w4 ⟨v4, rfl, H4⟩
        clear H15 py
        go_wp2_with fail
        go_roundw
        case rel => exact ⟨i + 1, by go_num, by omega, by omega, H4.out⟩
        case measure => simp [intOf]; omega
      · have H14 : Calls Try.prog 14 #[.pointer (some ⟨la, 0, none⟩), .int .i64 1, .slice ua un uc] wr fun e w' => ∃ v, e = .returned v ∧ Hid (Below wr.heap.size wr w') := by
          refine (l14_long la _ s ua un uc wr HI.out.1.lk.blk hln).mono ?_
          rintro e w' ⟨rfl, k1⟩
          exact ⟨_, rfl, k1⟩
        go_wp2_with fail
        refine H14.mono ?_
        rintro e w3 ⟨v3, rfl, H3⟩
        clear H14 py
        have HI3 : Hid (Lw w3 B la rb s l ov ds ms ∧ ds.length ≤ i ∧ Below B w w3) := ⟨HI.out.1.below H3.out, HI.out.2.1, HI.out.2.2.trans (H3.out.mono HI.out.1.rk.hb.2)⟩
        clear HI H3
        have py := hpy.out w3 HI3.out.2.2
        have H15 : Calls Try.prog 15 #[.pointer (some ⟨rb, 0, none⟩), .int .i64 1, .slice ua un uc] w3 fun e w' => ∃ v, e = .returned v ∧ Hid (∃ s l ov ds ms, Lw w' B la rb s l ov ds ms ∧ ds.length ≤ i + 1 ∧ Below B w w') := by
          refine (r15_long rb _ ov ua un uc w3 HI3.out.1.rk.blk hln).mono ?_
          rintro e w' ⟨rfl, k1⟩
          obtain ⟨h1, h2, h3⟩ := HI3.out
          exact ⟨_, rfl, s, l, ov, ds, ms, h1.below k1, by omega, h3.trans (k1.mono h1.rk.hb.2)⟩
        clear HI3
        go_wp2_with fail
        refine H15.mono ?_
        rintro e w4 ⟨v4, rfl, H4⟩
        clear H15 py
        go_wp2_with fail
        go_roundw
        case rel => exact ⟨i + 1, by go_num, by omega, by omega, H4.out⟩
        case measure => simp [intOf]; omega
    · rename World => WS
      have hfin : Calls Try.prog 26 #[.pointer (some ⟨la, 0, none⟩)] WS fun e w' => ∃ (n : Nat) (a : Option Addr) (c : Nat) (es : List Sl), e = .returned (.slice a n c) ∧ n ≤ 50 ∧ Hid (es.length = n ∧ Below WS.heap.size WS w' ∧ w'.ownsRow WS.heap.size 36 5 (.slice a n c) n (encAll es 0) ∧ ∀ e ∈ es, Wy w' WS.heap.size e) := by
        obtain ⟨h1, h2, h3⟩ := HI.out
        have hml : ms.length = l.length := (h1.len.trans h1.rk.len).symm
        refine (l26c la 0 s l ms WS h1.lk.toO (by have := h1.len; omega) hml fun k t xs e1 e2 => (h1.byl k t xs e1 e2).1.by (h1.byl k t xs e1 e2).2).mono ?_
        rintro e w' ⟨a, c, rfl, es, j1, j2, j3, j4⟩
        refine ⟨l.length, a, c, es, rfl, by have := h1.len; omega, j1, j4, j2, fun e he => ?_⟩
        obtain ⟨k, hk, rfl⟩ := List.getElem_of_mem he
        exact (j3 k es[k] ms[k] (List.getElem?_eq_getElem hk) (List.getElem?_eq_getElem (by omega))).wy
      have hend : ¬ ((i : Int) < (q : Int) ∧ (i : Int) < 50) := by omega
      have HG : Hid (∀ W, Below WS.heap.size WS W → Below B w W ∧ WS.heap.size ≤ W.heap.size ∧ Calls Try.prog 10 #[.pointer (some ⟨la, 0, none⟩), .pointer (some ⟨rb, 0, none⟩)] W fun e w' => e = .returned (.bool true) ∧ Hid (Below B w w')) := fun W hW => by
        obtain ⟨h1, h2, h3⟩ := HI.out
        have h4 := h1.below hW
        have h5 := h3.trans (hW.mono h1.rk.hb.2)
        refine ⟨h5, hW.size, (s10 B B la rb s l ov ds ms W h4.lk h4.rk h4.len (by omega) fun k t xs e1 e2 => (h4.byl k t xs e1 e2).1.by (h4.byl k t xs e1 e2).2).mono ?_⟩
        rintro e w' ⟨rfl, k1⟩
        exact ⟨rfl, h5.trans (k1.mono h4.rk.hb.2)⟩
      obtain ⟨b0, hb0⟩ : ∃ b0, WS.heap.size = b0 := ⟨_, rfl⟩
      rw [hb0] at hfin HG
      clear HI hb0
      have hfin' : Calls Try.prog 26 #[.pointer (some ⟨la, 0, none⟩)] WS fun e w' => ∃ (n : Nat) (a : Option Addr) (c : Nat) (es : List Sl), e = .returned (.slice a n c) ∧ n ≤ 50 ∧ Hid (es.length = n ∧ Below b0 WS w' ∧ w'.ownsRow b0 36 5 (.slice a n c) n (encAll es 0) ∧ ∀ e ∈ es, Wy w' b0 e) := hfin
      clear hfin
      rcases Nat.lt_or_ge i q with hiq' | hiq'
      · have hm1I : (i : Int) < (q : Int) := by omega
        have hm2I : ¬ (i : Int) < 50 := by omega
        go_wp2_with fail
        refine hfin'.mono ?_
        rintro e w5 ⟨n, a, c, es, rfl, hn50, H5⟩
        clear hfin'
        go_wp2_with fail
        go_loopw [9] (fun iv wx => ∃ i : Nat, iv = .int .i64 i ∧ i ≤ n ∧ Hid (es.length = n ∧ Below b0 WS wx ∧ wx.ownsRow b0 36 5 (.slice a n c) n (encAll es 0) ∧ ∀ e ∈ es, Wy wx b0 e)) (fun iv _ => n - (intOf iv).toNat)
        case atStart => exact ⟨0, rfl, Nat.zero_le _, H5.out⟩
        case round =>
          clear H5
          obtain ⟨j, rfl, hj, HJ⟩ := hrel
          by_cases hjn : j < n
          · have hjnI : (j : Int) < (n : Int) := by omega
            have hj0 : (0 : Int) ≤ (j : Int) := by omega
            obtain ⟨⟨ea, en, ec⟩, hed⟩ : ∃ d, es[j]? = some d := ⟨_, List.getElem?_eq_getElem (by have := HJ.out.1; omega)⟩
            have HE : Hid (es[j]? = some ⟨ea, en, ec⟩) := hed
            clear hed
            go_wp2_with fail
            go_loopw [10] (fun kv wx => ∃ k : Nat, kv = .int .i64 k ∧ k ≤ en ∧ Hid (es.length = n ∧ Below b0 WS wx ∧ wx.ownsRow b0 36 5 (.slice a n c) n (encAll es 0) ∧ ∀ e ∈ es, Wy wx b0 e)) (fun kv _ => en - (intOf kv).toNat)
            case atStart => exact ⟨0, rfl, Nat.zero_le _, HJ.out⟩
            case round =>
              clear HJ
              obtain ⟨k, rfl, hk, HK⟩ := hrel
              obtain ⟨g, gc, hge, _, _, _, _, z4⟩ := dg_rd HK.out.2.2.1 HE.out
              simp only [Value.slice.injEq, true_and] at hge
              obtain ⟨rfl, rfl⟩ := hge
              simp only [Sl.v] at z4
              by_cases hken : k < en
              · have hkenI : (k : Int) < (en : Int) := by omega
                have hk0 : (0 : Int) ≤ (k : Int) := by omega
                obtain ⟨ge, cu, rfl, hgb, hgh, hgs, hgm⟩ : ∃ (ge : Nat) (cu : Array Value), ea = some ⟨ge, 0, none⟩ ∧ b0 ≤ ge ∧ wr.heap[ge]? = some (.cells cu 5 (0, 0)) ∧ en ≤ cu.size ∧ en ≤ maxLen := by
                  rcases HK.out.2.2.2 _ (List.mem_of_getElem? HE.out) with h | ⟨ge, cu, h1, h2, h3, h4⟩
                  · dsimp only at h; omega
                  · exact ⟨ge, cu, h1, h2, h3, h4⟩
                have zc : wr.cell? ⟨ge, k, none⟩ = some cu[k] := by rw [cell_of_row wr ge k _ 5 (0, 0) hgh, Array.getElem?_eq_getElem]
                have zf := frozen_of_row wr ge k _ 5 hgh
                have HN : Hid (es.length = n ∧ Below b0 WS (wr.setCell ⟨ge, k, none⟩ (.int .u8 77)) ∧ (wr.setCell ⟨ge, k, none⟩ (.int .u8 77)).ownsRow b0 36 5 (.slice (some ⟨g, 0, none⟩) n c) n (encAll es 0) ∧ ∀ e ∈ es, Wy (wr.setCell ⟨ge, k, none⟩ (.int .u8 77)) b0 e) := by
                  obtain ⟨k1, k2, k3, k4⟩ := HK.out
                  refine ⟨k1, k2.setCell hgb _, owns_keeps k3 fun g' hg' => heap_setCell_other _ _ _ _ fun e => ?_, fun e he => (k4 e he).set _ _ _⟩
                  obtain ⟨cu2, h4⟩ := owns_kind k3 hg'
                  dsimp only at e
                  rw [e, hgh] at h4
                  simp only [Option.some.injEq, Obj.cells.injEq] at h4
                  exact absurd h4.2.1 (by decide)
                unfold maxLen at hgm
                clear HK hgh
                go_wp2_with fail
                go_roundw
                case rel => exact ⟨k + 1, by go_num, hken, HN.out⟩
                case measure => simp [intOf]; omega
              · have hkenI : ¬ (k : Int) < (en : Int) := by omega
                go_wp2_with fail
                go_roundw
                case rel => exact ⟨j + 1, by go_num, hjn, HK.out⟩
                case measure => simp [intOf]; omega
          · have hjnI : ¬ (j : Int) < (n : Int) := by omega
            have HZ : Hid (Below b0 WS wr) := HJ.out.2.1
            clear HJ
            go_wp2_with fail
            refine (l9 wr).mono ?_
            rintro e w6 ⟨rfl, hb6⟩
            have h10 := (HG.out w6 (HZ.out.trans (hb6.mono (HG.out wr HZ.out).2.1))).2.2
            go_wp2_with fail
            refine h10.mono ?_
            rintro e w7 ⟨rfl, H7⟩
            clear h10
            go_wp2_with fail
            go_ret
            exact ⟨rfl, by rw [HBw.out.1]; exact H7.out⟩
      · have hm1I : ¬ (i : Int) < (q : Int) := by omega
        go_wp2_with fail
        refine hfin'.mono ?_
        rintro e w5 ⟨n, a, c, es, rfl, hn50, H5⟩
        clear hfin'
        go_wp2_with fail
        go_loopw [9] (fun iv wx => ∃ i : Nat, iv = .int .i64 i ∧ i ≤ n ∧ Hid (es.length = n ∧ Below b0 WS wx ∧ wx.ownsRow b0 36 5 (.slice a n c) n (encAll es 0) ∧ ∀ e ∈ es, Wy wx b0 e)) (fun iv _ => n - (intOf iv).toNat)
        case atStart => exact ⟨0, rfl, Nat.zero_le _, H5.out⟩
        case round =>
          clear H5
          obtain ⟨j, rfl, hj, HJ⟩ := hrel
          by_cases hjn : j < n
          · have hjnI : (j : Int) < (n : Int) := by omega
            have hj0 : (0 : Int) ≤ (j : Int) := by omega
            obtain ⟨⟨ea, en, ec⟩, hed⟩ : ∃ d, es[j]? = some d := ⟨_, List.getElem?_eq_getElem (by have := HJ.out.1; omega)⟩
            have HE : Hid (es[j]? = some ⟨ea, en, ec⟩) := hed
            clear hed
            go_wp2_with fail
            go_loopw [10] (fun kv wx => ∃ k : Nat, kv = .int .i64 k ∧ k ≤ en ∧ Hid (es.length = n ∧ Below b0 WS wx ∧ wx.ownsRow b0 36 5 (.slice a n c) n (encAll es 0) ∧ ∀ e ∈ es, Wy wx b0 e)) (fun kv _ => en - (intOf kv).toNat)
            case atStart => exact ⟨0, rfl, Nat.zero_le _, HJ.out⟩
            case round =>
              clear HJ
              obtain ⟨k, rfl, hk, HK⟩ := hrel
              obtain ⟨g, gc, hge, _, _, _, _, z4⟩ := dg_rd HK.out.2.2.1 HE.out
              simp only [Value.slice.injEq, true_and] at hge
              obtain ⟨rfl, rfl⟩ := hge
              simp only [Sl.v] at z4
              by_cases hken : k < en
              · have hkenI : (k : Int) < (en : Int) := by omega
                have hk0 : (0 : Int) ≤ (k : Int) := by omega
                obtain ⟨ge, cu, rfl, hgb, hgh, hgs, hgm⟩ : ∃ (ge : Nat) (cu : Array Value), ea = some ⟨ge, 0, none⟩ ∧ b0 ≤ ge ∧ wr.heap[ge]? = some (.cells cu 5 (0, 0)) ∧ en ≤ cu.size ∧ en ≤ maxLen := by
                  rcases HK.out.2.2.2 _ (List.mem_of_getElem? HE.out) with h | ⟨ge, cu, h1, h2, h3, h4⟩
                  · dsimp only at h; omega
                  · exact ⟨ge, cu, h1, h2, h3, h4⟩
                have zc : wr.cell? ⟨ge, k, none⟩ = some cu[k] := by rw [cell_of_row wr ge k _ 5 (0, 0) hgh, Array.getElem?_eq_getElem]
                have zf := frozen_of_row wr ge k _ 5 hgh
                have HN : Hid (es.length = n ∧ Below b0 WS (wr.setCell ⟨ge, k, none⟩ (.int .u8 77)) ∧ (wr.setCell ⟨ge, k, none⟩ (.int .u8 77)).ownsRow b0 36 5 (.slice (some ⟨g, 0, none⟩) n c) n (encAll es 0) ∧ ∀ e ∈ es, Wy (wr.setCell ⟨ge, k, none⟩ (.int .u8 77)) b0 e) := by
                  obtain ⟨k1, k2, k3, k4⟩ := HK.out
                  refine ⟨k1, k2.setCell hgb _, owns_keeps k3 fun g' hg' => heap_setCell_other _ _ _ _ fun e => ?_, fun e he => (k4 e he).set _ _ _⟩
                  obtain ⟨cu2, h4⟩ := owns_kind k3 hg'
                  dsimp only at e
                  rw [e, hgh] at h4
                  simp only [Option.some.injEq, Obj.cells.injEq] at h4
                  exact absurd h4.2.1 (by decide)
                unfold maxLen at hgm
                clear HK hgh
                go_wp2_with fail
                go_roundw
                case rel => exact ⟨k + 1, by go_num, hken, HN.out⟩
                case measure => simp [intOf]; omega
              · have hkenI : ¬ (k : Int) < (en : Int) := by omega
                go_wp2_with fail
                go_roundw
                case rel => exact ⟨j + 1, by go_num, hjn, HK.out⟩
                case measure => simp [intOf]; omega
          · have hjnI : ¬ (j : Int) < (n : Int) := by omega
            have HZ : Hid (Below b0 WS wr) := HJ.out.2.1
            clear HJ
            go_wp2_with fail
            refine (l9 wr).mono ?_
            rintro e w6 ⟨rfl, hb6⟩
            have h10 := (HG.out w6 (HZ.out.trans (hb6.mono (HG.out wr HZ.out).2.1))).2.2
            go_wp2_with fail
            refine h10.mono ?_
            rintro e w7 ⟨rfl, H7⟩
            clear h10
            go_wp2_with fail
            go_ret
            exact ⟨rfl, by rw [HBw.out.1]; exact H7.out⟩
end Go.Proofs.Ytnhomejenjinaaa
