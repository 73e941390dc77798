/- The reference's place, Value, Chain and Deref. -/
import Derived.Test.YtojobiefambkoaaGreatDoorFE
namespace Go.Proofs.YtojobiefambkoaaGreatDoor
open Go.RowKit
attribute [local go_sem ↓] Go.wp_at_zero Go.wp_at_succ
/-- Where a name stands. -/
def PlR (bs : List Bn) (v : Nm) (i : Int) : Prop := (i = -1 ∧ hasB bs v = false) ∨ ∃ k : Nat, i = (k : Int) ∧ ∃ hk : k < bs.length, bs[k].x = v
set_option maxRecDepth 100000 in
set_option maxHeartbeats 4000000 in
theorem i40p (G : Nat → Prop) (rt : Nat) (bs : List Bn) (v : Nm) (w : World) (h : RfH w G rt bs) (hn : bs.length ≤ 4000000000000) :
    Calls Tryz.prog 58 #[.pointer (some ⟨rt, 0, none⟩), .agg #[.int .i64 v.1, .int .i64 v.2]] w fun e w' => ∃ i : Int, e = .returned (.int .i64 i) ∧ PlR bs v i ∧ Below w.heap.size w w' := by
  obtain ⟨W, hW⟩ : ∃ W, w.alloc (.cells #[.int .i64 v.1, .int .i64 v.2] 49) = W := ⟨_, rfl⟩
  obtain ⟨vb, hvb⟩ : ∃ vb, w.heap.size = vb := ⟨_, rfl⟩
  obtain ⟨n, hnn⟩ : ∃ n, bs.length = n := ⟨_, rfl⟩
  have hbW : Below w.heap.size w W := by rw [← hW]; exact (Below.refl _ w).alloc (Nat.le_refl _) _
  have hc : W.heap[vb]? = some (.cells #[.int .i64 v.1, .int .i64 v.2] 49 (0, 0)) := by rw [← hW, ← hvb]; exact heap_alloc_new w _
  have HX : Hid (RfH W G rt bs ∧ Below w.heap.size w W ∧ bs.length = n ∧ W.heap[vb]? = some (.cells #[.int .i64 v.1, .int .i64 v.2] 49 (0, 0)) ∧ n ≤ 4000000000000) := ⟨h.below hbW, hbW, hnn, hc, hnn ▸ hn⟩
  have hn' : n ≤ 4000000000000 := hnn ▸ hn
  clear h hc hbW hn hnn
  obtain ⟨v1, v2⟩ := v
  simp only at hW
  go_enter Tryz.func58, Tryz.ntmps58
  go_wp2_with fail
  go_loopw [5] (fun i wr => ∃ k : Nat, k ≤ n ∧ i = .int .i64 k ∧ Hid (Below W.heap.size W wr ∧ hasB bs (v1, v2) = hasB (bs.drop k) (v1, v2))) (fun i _ => n - (intOf i).toNat)
  case atStart => exact ⟨0, Nat.zero_le _, rfl, Below.refl _ _, by simp⟩
  case round =>
    clear hW hvb
    obtain ⟨k, hk, rfl, HK⟩ := hrel
    have hR : RfH wr G rt bs := HX.out.1.below HK.out.1
    obtain ⟨ra, rc, k1, hRs, _⟩ := hR.ex
    have q0 : wr.cell? ⟨rt, 0, none⟩ = some (.slice ra bs.length rc) := by rw [cell_of_row wr rt 0 _ 87 (0, 0) k1]; rfl
    rw [HX.out.2.2.1] at q0
    have hvl : vb < W.heap.size := (Array.getElem?_eq_some_iff.1 HX.out.2.2.2.1).1
    obtain ⟨v0, v1'⟩ := box_cells ((HK.out.1.block vb hvl).trans HX.out.2.2.2.1)
    have HBn : Hid (Below w.heap.size w wr) := HX.out.2.1.trans (HK.out.1.mono HX.out.2.1.size)
    by_cases hlt : k < n
    · have hlt1 : (k : Int) < (n : Int) := by omega
      have hk0 : (0 : Int) ≤ (k : Int) := by omega
      obtain ⟨b1, o1, hk1, rfl, _, c0, c1, c2⟩ := hRs.at (k := k) (by have := HX.out.2.2.1; omega)
      clear c2
      have HP : Hid _ := hasB_drop bs (v1, v2) k hk1
      have HF : Hid (∀ z, bs[k].x = z → PlR bs z k) := fun z e => .inr ⟨k, rfl, hk1, e⟩
      generalize bs[k].x = y at *
      obtain ⟨y1, y2⟩ := y
      simp only at c0 c1
      clear hR hRs hk1 hvl k1
      by_cases hxy : y1 = v1 ∧ y2 = v2
      · obtain ⟨rfl, rfl⟩ := hxy
        clear HP
        go_wp2_with fail
        go_quiet (fail)
        go_wp2_with fail
        go_ret
        exact ⟨(k : Int), rfl, HF.out _ rfl, below_dN HBn.out _⟩
      · have hN := eqlN y1 y2 v1 v2
        rw [show (y1 == v1 && y2 == v2) = false by simpa using hxy] at hN
        have hne : ((y1, y2) : Nm) ≠ (v1, v2) := fun e => hxy (by simpa using e)
        have HE : Hid (hasB bs (v1, v2) = hasB (bs.drop (k + 1)) (v1, v2)) := by show _ = _; rw [HK.out.2, HP.out.2 hne]
        clear HP hne hxy
        go_wp2_with fail
        go_quiet (fail)
        go_wp2_with fail
        go_roundw
        case rel => exact ⟨k + 1, by omega, by go_num, below_dN HK.out.1 _, HE.out⟩
        case measure => simp [intOf]; omega
    · have hlt1 : ¬ (k : Int) < (n : Int) := by omega
      have HE : Hid (hasB bs (v1, v2) = false) := by
        show _ = _
        rw [HK.out.2, List.drop_of_length_le (by have := HX.out.2.2.1; omega)]
        rfl
      clear hRs k1 hR
      go_wp2_with fail
      go_ret
      exact ⟨-1, rfl, .inl ⟨rfl, HE.out⟩, HBn.out⟩
/-- What the reference's Value tells. -/
def VlR (bs : List Bn) (x : Nm) (e : Ending) : Prop := (e = .returned (.tuple #[.slice none 0 0, .bool false]) ∧ lookH (hpOf bs) x = none) ∨ ∃ b ∈ bs, b.x = x ∧ e = .returned (.tuple #[.slice b.a b.n b.c, .bool true])
set_option maxRecDepth 100000 in
set_option maxHeartbeats 4000000 in
theorem z6 (G : Nat → Prop) (rt : Nat) (bs : List Bn) (x : Nm) (w : World) (h : RfH w G rt bs) (hn : bs.length ≤ 4000000000000) :
    Calls Tryz.prog 69 #[.pointer (some ⟨rt, 0, none⟩), .agg #[.int .i64 x.1, .int .i64 x.2]] w fun e w' => VlR bs x e ∧ Below w.heap.size w w' := by
  obtain ⟨W, hW⟩ : ∃ W, w.alloc (.cells #[.int .i64 x.1, .int .i64 x.2] 49) = W := ⟨_, rfl⟩
  obtain ⟨vb, hvb⟩ : ∃ vb, w.heap.size = vb := ⟨_, rfl⟩
  have hbW : Below w.heap.size w W := by rw [← hW]; exact (Below.refl _ w).alloc (Nat.le_refl _) _
  have hc : W.heap[vb]? = some (.cells #[.int .i64 x.1, .int .i64 x.2] 49 (0, 0)) := by rw [← hW, ← hvb]; exact heap_alloc_new w _
  obtain ⟨v0, v1⟩ := box_cells hc
  have H28 : Calls Tryz.prog 58 #[.pointer (some ⟨rt, 0, none⟩), .agg #[.int .i64 x.1, .int .i64 x.2]] W fun e w' => ∃ i : Int, e = .returned (.int .i64 i) ∧ Hid (PlR bs x i ∧ RfH w' G rt bs ∧ Below w.heap.size w w') := by
    refine (i40p G rt bs x W (h.below hbW) hn).mono ?_
    rintro e w' ⟨i, rfl, h1, h2⟩
    exact ⟨i, rfl, h1, (h.below hbW).below h2, hbW.trans (h2.mono hbW.size)⟩
  clear h hbW hc
  obtain ⟨x1, x2⟩ := x
  simp only at *
  go_enter Tryz.func69, Tryz.ntmps69
  go_wp2_with fail
  refine H28.mono ?_
  rintro e w1 ⟨i, rfl, H1⟩
  clear H28 v0 v1
  by_cases hi : i < 0
  · have HE : Hid (lookH (hpOf bs) (x1, x2) = none ∧ Below w.heap.size w w1) := by
      rcases H1.out.1 with ⟨_, h⟩ | ⟨k, e, _⟩
      · refine ⟨?_, H1.out.2.2⟩
        unfold hasB at h
        simpa using h
      · omega
    go_wp2_with fail
    refine bodyPost_ret (v := .tuple #[.slice none 0 0, .bool false]) (by simp [results, Tryz.results69, go_sem]) rfl ⟨.inl ⟨rfl, HE.out.1⟩, HE.out.2⟩
  · obtain ⟨k, rfl, b, o, la, ln, lc, ra, rc, c0, hlt, rfl, c2, HE⟩ : ∃ k : Nat, i = (k : Int) ∧ ∃ b o la ln lc ra rc, w1.cell? ⟨rt, 0, none⟩ = some (.slice ra bs.length rc) ∧ (k : Int) < (bs.length : Int) ∧ ra = some ⟨b, o, none⟩ ∧ w1.cell? ⟨b, o + k * 3 + 2, none⟩ = some (.slice la ln lc) ∧ Hid ((∃ q ∈ bs, q.x = (x1, x2) ∧ q.a = la ∧ q.n = ln ∧ q.c = lc) ∧ Below w.heap.size w w1) := by
      rcases H1.out.1 with ⟨e, _⟩ | ⟨k, e, hk, hx⟩
      · omega
      · obtain ⟨ra, rc, h1, h2, _⟩ := H1.out.2.1.ex
        obtain ⟨b, o, hx2, e2, _, _, _, c2⟩ := h2.at hk
        exact ⟨k, e, b, o, _, _, _, ra, rc, by rw [cell_of_row w1 rt 0 _ 87 (0, 0) h1]; rfl, by omega, e2, c2, ⟨bs[k], List.getElem_mem hk, hx, rfl, rfl, rfl⟩, H1.out.2.2⟩
    clear H1
    have hk0 : (0 : Int) ≤ (k : Int) := by omega
    go_wp2_with fail
    refine bodyPost_ret (v := .tuple #[.slice la ln lc, .bool true]) (by simp [results, Tryz.results69, go_sem]) rfl ?_
    obtain ⟨⟨q, hq, e1, rfl, rfl, rfl⟩, h2⟩ := HE.out
    exact ⟨.inr ⟨q, hq, e1, rfl⟩, h2⟩
end Go.Proofs.YtojobiefambkoaaGreatDoor
