/- The document's Rising: a row of names, each once, rising. -/
import Derived.Test.YtojobiefambkoaaGreatDoorTA
import Derived.Test.YtojobiefambkoaaGreatDoorFF
namespace Go.Proofs.YtojobiefambkoaaGreatDoor
open Go.RowKit
attribute [local go_sem ↓] Go.wp_at_zero Go.wp_at_succ
theorem sl_from (a : Option Addr) (n c p : Nat) (hp : p ≤ n) (hc : n ≤ c) (ha : (a = none ∧ c = 0) ∨ ∃ b o, a = some ⟨b, o, none⟩) : ∃ a', (∀ w, (Instr.slice 23 (.slice a n c) (some (.int .i64 (p : Nat))) none none).run Tryz.prog w = .ok (.slice a' (n - p) (c - p)) w) ∧ (n - p = 0 ∨ ∃ b o, a = some ⟨b, o, none⟩ ∧ a' = some ⟨b, o + p * 2, none⟩) := by
  rcases ha with ⟨rfl, rfl⟩ | ⟨b, o, rfl⟩
  · obtain rfl : n = 0 := by omega
    obtain rfl : p = 0 := by omega
    exact ⟨none, fun w => by go_simp, .inl rfl⟩
  · have h1 : ¬ ((p : Int) < 0) := by omega
    have h2 : (p : Int) ≤ (n : Int) := by omega
    refine ⟨if c = p then some ⟨b, o, none⟩ else some ⟨b, o + p * 2, none⟩, fun w => by go_simp, ?_⟩
    by_cases e : c = p
    · exact .inl (by omega)
    · exact .inr ⟨b, o, rfl, by rw [if_neg e]⟩
theorem names_from {w : World} {v : Value} {xs : List Nm} {b o n c : Nat} (h : NamesAt w v xs) (e : v = .slice (some ⟨b, o, none⟩) n c) (p : Nat) : ∀ q u, (flatN (xs.drop p))[q]? = some u → w.cell? ((⟨b, o + p * 2, none⟩ : Addr).add q) = some u := by
  intro q u hu
  rcases h.2 with ⟨e1, ad, e2⟩ | ⟨b', o', c', e2, hr, _⟩
  · rw [e1] at hu
    simp [flatN] at hu
  · rw [e] at e2
    simp only [Value.slice.injEq, Option.some.injEq, Addr.mk.injEq, and_true] at e2
    obtain ⟨⟨rfl, rfl⟩, _, _⟩ := e2
    rw [Addr.add_mid, Nat.add_assoc]
    refine hr (p * 2 + q) u ?_
    by_cases hp : p ≤ xs.length
    · have e3 : flatN xs = flatN (xs.take p) ++ flatN (xs.drop p) := by rw [← flatN_append, List.take_append_drop]
      have e4 : (flatN (xs.take p)).length = p * 2 := by rw [flatN_length, List.length_take, Nat.min_eq_left hp]
      rw [e3, List.getElem?_append_right (by omega), e4, Nat.add_sub_cancel_left]
      exact hu
    · rw [List.drop_eq_nil_of_le (by omega)] at hu
      simp [flatN] at hu
/-- Two names stay readable. -/
abbrev Rq4 (W0 : World) (g p : Nat) (y1 y2 : Int) (b q : Nat) (x1 x2 : Int) (W : World) : Prop := W.cell? ⟨g, p, none⟩ = some (.int .i64 y1) ∧ W.cell? ⟨g, p + 1, none⟩ = some (.int .i64 y2) ∧ W.cell? ⟨b, q, none⟩ = some (.int .i64 x1) ∧ W.cell? ⟨b, q + 1, none⟩ = some (.int .i64 x2) ∧ Hid (Below W0.heap.size W0 W ∧ g < W0.heap.size ∧ b < W0.heap.size)
theorem rq4_below {W0 W W' : World} {g p b q : Nat} {y1 y2 x1 x2 : Int} (h : Rq4 W0 g p y1 y2 b q x1 x2 W) (hb : Below W.heap.size W W') : Rq4 W0 g p y1 y2 b q x1 x2 W' := by
  obtain ⟨h1, h2, h3, h4, h5⟩ := h
  have hg : g < W.heap.size := Nat.lt_of_lt_of_le h5.out.2.1 h5.out.1.size
  have hbb : b < W.heap.size := Nat.lt_of_lt_of_le h5.out.2.2 h5.out.1.size
  exact ⟨(hb.cell (p := ⟨g, p, none⟩) hg).trans h1, (hb.cell (p := ⟨g, p + 1, none⟩) hg).trans h2, (hb.cell (p := ⟨b, q, none⟩) hbb).trans h3, (hb.cell (p := ⟨b, q + 1, none⟩) hbb).trans h4, h5.out.1.trans (hb.mono h5.out.1.size), h5.out.2⟩
theorem rq4_drew {W0 W : World} {g p b q : Nat} {y1 y2 x1 x2 : Int} (h : Rq4 W0 g p y1 y2 b q x1 x2 W) : Rq4 W0 g p y1 y2 b q x1 x2 W.drew := ⟨h.1, h.2.1, h.2.2.1, h.2.2.2.1, h.2.2.2.2.out.1.drew, h.2.2.2.2.out.2⟩
theorem row_drewN {w : World} {B : Nat} {e : TypeId} {s n : Nat} {v : Value} {xs : List Value} (h : w.ownsRow B e s v n xs) (k : Nat) : (w.drewN k).ownsRow B e s v n xs := owns_below' h (below_drewN (Below.refl _ _) k)
theorem news_drewN {w : World} {n : Nat} {a : Option Addr} {xs : List Value} (h : n = 0 ∨ ∃ ad, a = some ad ∧ ∀ q u, xs[q]? = some u → w.cell? (ad.add q) = some u) (k : Nat) : n = 0 ∨ ∃ ad, a = some ad ∧ ∀ q u, xs[q]? = some u → (w.drewN k).cell? (ad.add q) = some u := by
  rcases h with h | ⟨ad, h1, h2⟩
  · exact .inl h
  · refine .inr ⟨ad, h1, fun q u hu => ?_⟩
    have := h2 q u hu
    have hb := below_drewN (Below.refl w.heap.size w) k
    have hl := World.block_lt_of_cell? w _ this
    exact (hb.cell hl).trans this
set_option maxRecDepth 100000 in
set_option maxHeartbeats 8000000 in
theorem z39 (l : List Nm) (la : Option Addr) (ln lc : Nat) (w : World) (h : NamesAt w (.slice la ln lc) l) (hl : ln ≤ 1000000000) :
    Calls Tryz.prog 39 #[.slice none 0 0, .slice la ln lc] w fun e w' => ∃ a j c, e = .returned (.slice a j c) ∧ Hid ((risR l).length = j ∧ OwnN w' w.heap.size (.slice a j c) (risR l) ∧ Below w.heap.size w w') := by
  obtain ⟨i0, hi, hz, hs, hby⟩ := info23
  have HV : Hid (NamesAt w (.slice la ln lc) l ∧ l.length = ln) := ⟨h, names_len h rfl⟩
  have HI0 : Hid ((risR (l.take 0)).length = 0 ∧ OwnN w w.heap.size (.slice none 0 0) (risR (l.take 0)) ∧ Below w.heap.size w w) := ⟨by simp [risR], by simp only [List.take_zero, risR, List.foldl_nil]; exact World.ownsRow_nil _ _ _ _, Below.refl _ _⟩
  clear h
  go_enter Tryz.func39, Tryz.ntmps39
  go_wp2_with fail
  go_loopw [0, 5] (fun lv iv wr => ∃ (i : Nat) (a : Option Addr) (j c : Nat), i ≤ ln ∧ lv = .slice a j c ∧ iv = .int .i64 i ∧ Hid ((risR (l.take i)).length = j ∧ OwnN wr w.heap.size (.slice a j c) (risR (l.take i)) ∧ Below w.heap.size w wr)) (fun _ iv _ => ln - (intOf iv).toNat)
  case atStart => exact ⟨0, none, 0, 0, Nat.zero_le _, rfl, rfl, HI0⟩
  case round =>
    clear HI0
    obtain ⟨i, ja, j, jc, hi', rfl, rfl, HK⟩ := hrel
    by_cases hlt : i < ln
    · have hltI : (i : Int) < (ln : Int) := by omega
      have hi0 : (0 : Int) ≤ (i : Int) := by omega
      obtain ⟨b, o, hx, rfl, hbl, p0, p1⟩ := names_at (HV.out.1.below HK.out.2.2) hlt
      have HSN : Hid (risR (l.take (i + 1)) = insR (risR (l.take i)) l[i]) := by
        show _ = _
        rw [List.take_succ_eq_append_getElem hx, risR_snoc]
      have HJL : Hid (j ≤ i) := by
        show j ≤ i
        have h1 := HK.out.1
        have h2 := risR_len (l.take i)
        rw [List.length_take] at h2
        omega
      have hjl : j ≤ i := HJL.out
      obtain ⟨xs, hxs⟩ : ∃ xs, risR (l.take i) = xs := ⟨_, rfl⟩
      rw [hxs] at HK HSN
      generalize l[i] = x at *
      obtain ⟨x1, x2⟩ := x
      simp only at p0 p1
      clear hxs hx
      obtain ⟨wB, rfl⟩ : ∃ wB, wB = wr := ⟨wr, rfl⟩
      have HXN : Hid (NamesAt wB (.slice ja j jc) xs) := by
        exact namesAt_of_owns HK.out.2.1 (by have := HK.out.1; unfold maxLen; omega)
      have HXL : Hid (xs.length = j) := HK.out.1
      obtain ⟨hjc, hjf⟩ : j ≤ jc ∧ ((ja = none ∧ jc = 0) ∨ ∃ b o, ja = some ⟨b, o, none⟩) := by
        rcases HK.out.2.1.2 with ⟨e1, e2⟩ | ⟨g, cap, cur, e1, _, _, e4, _⟩
        · simp only [Value.slice.injEq] at e1
          exact ⟨by omega, .inl ⟨e1.1, e1.2.2⟩⟩
        · simp only [Value.slice.injEq] at e1
          rw [HK.out.1] at e4
          exact ⟨by omega, .inr ⟨g, 0, e1.1⟩⟩
      have HBB : Hid (Below w.heap.size w wB) := HK.out.2.2
      have HN0 : Hid (wB.ownsRow wB.heap.size 49 2 (.slice none 0 0) 0 (flatN (xs.take 0)) ∧ Below wB.heap.size wB wB ∧ ∀ q y, q < 0 → xs[q]? = some y → lessN y (x1, x2) = true) := ⟨by simp only [List.take_zero]; exact World.ownsRow_nil _ _ _ _, Below.refl _ _, fun q y hq => by omega⟩
      clear HK
      go_wp2_with fail
      go_loopw [6, 7] (fun nv kv wr => ∃ (k : Nat) (na : Option Addr) (nc : Nat), k ≤ j ∧ nv = .slice na k nc ∧ kv = .int .i64 k ∧ Hid (wr.ownsRow wB.heap.size 49 2 (.slice na k nc) k (flatN (xs.take k)) ∧ Below wB.heap.size wB wr ∧ ∀ q y, q < k → xs[q]? = some y → lessN y (x1, x2) = true)) (fun _ kv _ => j - (intOf kv).toNat)
      case atStart => exact ⟨0, none, 0, Nat.zero_le _, rfl, rfl, HN0⟩
      case round =>
        clear HN0
        obtain ⟨k, na, nc, hkj, rfl, rfl, HKN⟩ := hrel
        by_cases hkt : k < j
        · have hkI : (k : Int) < (j : Int) := by omega
          have hk0 : (0 : Int) ≤ (k : Int) := by omega
          obtain ⟨g, og, hxk, rfl, hgl, q0, q1⟩ := names_at HXN.out hkt
          have HY : Hid (xs[k]? = some xs[k] ∧ xs.take (k + 1) = xs.take k ++ [xs[k]]) := ⟨List.getElem?_eq_getElem hxk, List.take_succ_eq_append_getElem hxk⟩
          generalize xs[k] = y at *
          obtain ⟨y1, y2⟩ := y
          simp only at q0 q1
          have hS6 : Rq4 wr g (og + k * 2) y1 y2 b (o + i * 2) x1 x2 wr.drew := by
            have hb := HKN.out.2.1
            exact rq4_drew ⟨(hb.cell (p := ⟨g, og + k * 2, none⟩) hgl).trans q0, (hb.cell (p := ⟨g, og + k * 2 + 1, none⟩) hgl).trans q1, (hb.cell (p := ⟨b, o + i * 2, none⟩) hbl).trans p0, (hb.cell (p := ⟨b, o + i * 2 + 1, none⟩) hbl).trans p1, Below.refl _ _, Nat.lt_of_lt_of_le hgl hb.size, Nat.lt_of_lt_of_le hbl hb.size⟩
          have H59 : ∀ W, Calls Tryz.prog 59 #[.agg #[.int .i64 y1, .int .i64 y2], .agg #[.int .i64 x1, .int .i64 x2]] W fun e w' => e = .returned (.bool (lessN (y1, y2) (x1, x2))) ∧ Below W.heap.size W w' := fun W => by
            rw [← lsB_N (y1, y2) (x1, x2)]
            exact i10 y1 y2 x1 x2 W
          cases hls : lessN (y1, y2) (x1, x2)
          · rw [hls] at H59
            have HRN : Hid (insR xs (x1, x2) = xs.take k ++ (x1, x2) :: xs.drop (if xs[k]? = some (x1, x2) then k + 1 else k)) := insR_at (x1, x2) xs k (by rw [HXL.out]; exact hkj) HKN.out.2.2 (fun z hz => by rw [HY.out.1] at hz; cases hz; exact hls)
            clear hls
            go_wp2_with fail
            refine wp_region_noPanic ?_
            refine wp_region_held_drew (S := Rq4 wr g (og + k * 2) y1 y2 b (o + i * 2) x1 x2) (by kernel_rfl) hS6 (fun hHeld => ?_)
            refine wpAnyH_take (i := 0) (v := ?_) (by simp only [List.getElem?_toArray, List.getElem?_cons_zero]; rfl) (by kernel_rfl) (by kernel_rfl) (by kernel_rfl) (fun _ _ _ h => h) (Or.inl ⟨by rfl, ?_⟩) (by assumption) ?_; rotate_left; (· (intro w hSw; (try dsimp only at hSw); go_simp <;> with_reducible rfl)); try simp only [Act.put, List.setIfInBounds_toArray, List.set_cons_zero, List.set_cons_succ]
            refine wpAnyH_take (i := 1) (v := ?_) (by simp only [List.getElem?_toArray, List.getElem?_cons_zero, List.getElem?_cons_succ]; rfl) (by kernel_rfl) (by kernel_rfl) (by kernel_rfl) (fun _ _ _ h => h) (Or.inl ⟨by rfl, ?_⟩) (by assumption) ?_; rotate_left; (· (intro w hSw; (try dsimp only at hSw); go_simp <;> with_reducible rfl)); try simp only [Act.put, List.setIfInBounds_toArray, List.set_cons_zero, List.set_cons_succ]
            refine wpAnyH_take (i := 2) (v := ?_) (by simp only [List.getElem?_toArray, List.getElem?_cons_zero, List.getElem?_cons_succ]; rfl) (by kernel_rfl) (by kernel_rfl) (by kernel_rfl) (fun _ _ _ h => h) (Or.inl ⟨by rfl, ?_⟩) (by assumption) ?_; rotate_left; (· (intro w hSw; (try dsimp only at hSw); go_simp <;> with_reducible rfl)); try simp only [Act.put, List.setIfInBounds_toArray, List.set_cons_zero, List.set_cons_succ]
            refine wpAnyH_take (i := 3) (v := ?_) (by simp only [List.getElem?_toArray, List.getElem?_cons_zero, List.getElem?_cons_succ]; rfl) (by kernel_rfl) (by kernel_rfl) (by kernel_rfl) (fun _ _ _ h => h) (Or.inl ⟨by rfl, ?_⟩) (by assumption) ?_; rotate_left; (· (intro w hSw; (try dsimp only at hSw); go_simp <;> with_reducible rfl)); try simp only [Act.put, List.setIfInBounds_toArray, List.set_cons_zero, List.set_cons_succ]
            refine wpAnyH_take (i := 4) (v := ?_) (by simp only [List.getElem?_toArray, List.getElem?_cons_zero, List.getElem?_cons_succ]; rfl) (by kernel_rfl) (by kernel_rfl) (by kernel_rfl) (fun _ _ _ h => h) (Or.inl ⟨by rfl, ?_⟩) (by assumption) ?_; rotate_left; (· (intro w hSw; (try dsimp only at hSw); go_simp <;> with_reducible rfl)); try simp only [Act.put, List.setIfInBounds_toArray, List.set_cons_zero, List.set_cons_succ]
            refine wpAnyH_take (i := 5) (v := ?_) (by simp only [List.getElem?_toArray, List.getElem?_cons_zero, List.getElem?_cons_succ]; rfl) (by kernel_rfl) (by kernel_rfl) (by kernel_rfl) (fun _ _ _ h => h) (Or.inl ⟨by rfl, ?_⟩) (by assumption) ?_; rotate_left; (· (intro w hSw; (try dsimp only at hSw); go_simp <;> with_reducible rfl)); try simp only [Act.put, List.setIfInBounds_toArray, List.set_cons_zero, List.set_cons_succ]
            refine wpAnyH_take (i := 6) (v := ?_) (by simp only [List.getElem?_toArray, List.getElem?_cons_zero, List.getElem?_cons_succ]; rfl) (by kernel_rfl) (by kernel_rfl) (by kernel_rfl) (fun _ _ _ h => h) (Or.inl ⟨by rfl, ?_⟩) (by assumption) ?_; rotate_left; (· (intro w hSw; (try dsimp only at hSw); go_simp <;> with_reducible rfl)); try simp only [Act.put, List.setIfInBounds_toArray, List.set_cons_zero, List.set_cons_succ]
            refine wpAnyH_take (i := 7) (v := ?_) (by simp only [List.getElem?_toArray, List.getElem?_cons_zero, List.getElem?_cons_succ]; rfl) (by kernel_rfl) (by kernel_rfl) (by kernel_rfl) (fun _ _ _ h => h) (Or.inl ⟨by rfl, ?_⟩) (by assumption) ?_; rotate_left; (· (intro w hSw; (try dsimp only at hSw); go_simp <;> with_reducible rfl)); try simp only [Act.put, List.setIfInBounds_toArray, List.set_cons_zero, List.set_cons_succ]
            refine wpAnyH_take (i := 8) (v := ?_) (by simp only [List.getElem?_toArray, List.getElem?_cons_zero, List.getElem?_cons_succ]; rfl) (by kernel_rfl) (by kernel_rfl) (by kernel_rfl) (fun _ _ _ h => h) (Or.inl ⟨by rfl, ?_⟩) (by assumption) ?_; rotate_left; (· (intro w hSw; (try dsimp only at hSw); go_simp <;> with_reducible rfl)); try simp only [Act.put, List.setIfInBounds_toArray, List.set_cons_zero, List.set_cons_succ]
            refine wpAnyH_take (i := 9) (v := ?_) (by simp only [List.getElem?_toArray, List.getElem?_cons_zero, List.getElem?_cons_succ]; rfl) (by kernel_rfl) (by kernel_rfl) (by kernel_rfl) (fun _ _ _ h => h) (Or.inl ⟨by rfl, ?_⟩) (by assumption) ?_; rotate_left; (· (intro w hSw; (try dsimp only at hSw); go_simp <;> with_reducible rfl)); try simp only [Act.put, List.setIfInBounds_toArray, List.set_cons_zero, List.set_cons_succ]
            refine wpAnyH_take (i := 10) (v := ?_) (by simp only [List.getElem?_toArray, List.getElem?_cons_zero, List.getElem?_cons_succ]; rfl) (by kernel_rfl) (by kernel_rfl) (by kernel_rfl) (fun _ _ _ h => h) (Or.inl ⟨by rfl, ?_⟩) (by assumption) ?_; rotate_left; (· (intro w hSw; (try dsimp only at hSw); go_simp <;> with_reducible rfl)); try simp only [Act.put, List.setIfInBounds_toArray, List.set_cons_zero, List.set_cons_succ]
            refine wpAnyH_take (i := 11) (v := ?_) (by simp only [List.getElem?_toArray, List.getElem?_cons_zero, List.getElem?_cons_succ]; rfl) (by kernel_rfl) (by kernel_rfl) (by kernel_rfl) (fun _ _ _ h => h) (Or.inl ⟨by rfl, ?_⟩) (by assumption) ?_; rotate_left; (· (intro w hSw; (try dsimp only at hSw); go_simp <;> with_reducible rfl)); try simp only [Act.put, List.setIfInBounds_toArray, List.set_cons_zero, List.set_cons_succ]
            refine wpAnyH_take (i := 12) (v := ?_) (by simp only [List.getElem?_toArray, List.getElem?_cons_zero, List.getElem?_cons_succ]; rfl) (by kernel_rfl) (by kernel_rfl) (by kernel_rfl) (fun _ _ _ h => h) (Or.inl ⟨by rfl, ?_⟩) (by assumption) ?_; rotate_left; (· (intro w hSw; (try dsimp only at hSw); go_simp <;> with_reducible rfl)); try simp only [Act.put, List.setIfInBounds_toArray, List.set_cons_zero, List.set_cons_succ]
            refine wpAnyH_ready (rs := [13]) (by kernel_rfl) (by simp) ?_
            refine AllReadyH.cons (by simp only [List.getElem?_toArray, List.getElem?_cons_zero, List.getElem?_cons_succ]; rfl) (fun K hK => ?_) AllReadyH.nil
            go_simp
            refine (H59 _).mono ?_
            rintro e u9 ⟨rfl, hbx9⟩
            refine hK.out _ _ (rq4_below hHeld hbx9) (fun hHeld => ?_)
            clear hK K
            try simp only [Act.put, List.setIfInBounds_toArray, List.set_cons_zero, List.set_cons_succ]
            refine wpAnyH_take (i := 14) (v := ?_) (by simp only [List.getElem?_toArray, List.getElem?_cons_zero, List.getElem?_cons_succ]; rfl) (by kernel_rfl) (by kernel_rfl) (by kernel_rfl) (fun _ _ _ h => h) (Or.inl ⟨by rfl, ?_⟩) (by assumption) ?_; rotate_left; (· (intro w hSw; (try dsimp only at hSw); go_simp <;> with_reducible rfl)); try simp only [Act.put, List.setIfInBounds_toArray, List.set_cons_zero, List.set_cons_succ]
            refine wpAnyH_done (by kernel_rfl) ?_ _
            refine NoPanic.normal ?_
            have HB6 : Hid (Below wB.heap.size wB u9) := HKN.out.2.1.trans (hHeld.2.2.2.2.out.1.mono HKN.out.2.1.size)
            have HO6 : Hid (u9.ownsRow wB.heap.size 49 2 (.slice na k nc) k (flatN (xs.take k))) := owns_below' HKN.out.1 hHeld.2.2.2.2.out.1
            clear hHeld hS6 H59 HKN
            obtain ⟨w6, rfl⟩ : ∃ w6, w6 = u9 := ⟨u9, rfl⟩
            by_cases hxy0 : (y1, y2) = (x1, x2)
            · have HRK : Hid (risR (l.take (i + 1)) = xs.take k ++ (x1, x2) :: xs.drop (k + 1)) := by
                show _ = _
                rw [HSN.out, HRN.out, HY.out.1, if_pos (by rw [hxy0])]
              have hxy : (y1 == x1 && y2 == x2) = true := by cases hxy0; simp
              clear hxy0 HRN
              have k0 := (HB6.out.cell (p := ⟨b, o + i * 2, none⟩) hbl).trans p0
              have k1 := (HB6.out.cell (p := ⟨b, o + i * 2 + 1, none⟩) hbl).trans p1
              have hsz6 := HB6.out.size
              have hnews := newsN_new w6 (x1, x2)
              have hnews : Hid (∀ j' u, (flatN [(x1, x2)])[j']? = some u → (w6.alloc (.cells #[.int .i64 x1, .int .i64 x2] 49)).cell? ((⟨w6.heap.size, 0, none⟩ : Addr).add j') = some u) := hnews
              have hlen : Hid ((flatN [(x1, x2)]).length = 1 * 2) := rfl
              go_wp2_with (at_builtin; refine wpList_append_own _ rfl _ _ 23 rfl wB.heap.size 49 i0 (.agg #[.int .i64 0, .int .i64 0]) 2 16 Tryz.underlying23 hi hz hs hby rfl (by decide) _ _ _ rfl (HO6.out.alloc _) ⟨w6.heap.size, 0, none⟩ 1 1 (flatN [(x1, x2)]) rfl hlen.out hnews.out (flatN_one _) (by unfold maxLen; omega) (by omega) (by simp; omega) ?_)
              intro v' w7 hown hgr hnil
              obtain ⟨va, vc, hvf⟩ := owns_form hown
              subst hvf
              have HO7 : Hid (w7.ownsRow wB.heap.size 49 2 (.slice va (k + 1) vc) (k + 1) (flatN (xs.take k) ++ flatN [(x1, x2)]) ∧ Below wB.heap.size wB w7) := ⟨hown, (HB6.out.alloc HB6.out.size _).grown hgr (by simp; omega) (fun g hg => (HO6.out.lt g hg).1)⟩
              clear hown hgr hnil HO6 hnews hlen k0 k1
              obtain ⟨aF, hF, hF2⟩ := sl_from (some ⟨g, og, none⟩) j jc (k + 1) (by omega) hjc hjf
              have hF : ∀ w, (Instr.slice 23 (.slice (some ⟨g, og, none⟩) j jc) (some (.int .i64 ((k : Int) + 1))) none none).run Tryz.prog w = .ok (.slice aF (j - (k + 1)) (jc - (k + 1))) w := fun w => by have h := hF w; push_cast at h; exact h
              have HN : Hid (j - (k + 1) = 0 ∨ ∃ ad, aF = some ad ∧ ∀ q u, (flatN (xs.drop (k + 1)))[q]? = some u → w7.cell? (ad.add q) = some u) := by
                rcases hF2 with h | ⟨b', o', e1, e2⟩
                · exact .inl h
                · refine .inr ⟨_, e2, ?_⟩
                  exact names_from (HXN.out.below HO7.out.2) (by rw [e1]) (k + 1)
              have HL : Hid ((flatN (xs.drop (k + 1))).length = (j - (k + 1)) * 2) := by
                show _ = _
                rw [flatN_length, List.length_drop, HXL.out]
              have l0 := (HO7.out.2.cell (p := ⟨g, og + k * 2, none⟩) hgl).trans q0
              have l1 := (HO7.out.2.cell (p := ⟨g, og + k * 2 + 1, none⟩) hgl).trans q1
              have l2 := (HO7.out.2.cell (p := ⟨b, o + i * 2, none⟩) hbl).trans p0
              have l3 := (HO7.out.2.cell (p := ⟨b, o + i * 2 + 1, none⟩) hbl).trans p1
              have hE := eql23b y1 y2 x1 x2
              rw [hxy] at hE
              go_wp2_with fail
              go_quiet (fail)
              go_wp2_with (at_builtin; refine wpList_append_any _ rfl _ _ 23 rfl wB.heap.size 49 i0 (.agg #[.int .i64 0, .int .i64 0]) 2 16 Tryz.underlying23 hi hz hs hby rfl (by decide) _ _ _ rfl (row_drewN HO7.out.1 _) aF (j - (k + 1)) (jc - (k + 1)) (flatN (xs.drop (k + 1))) rfl HL.out (news_drewN HN.out _) (flatN_one _) (by unfold maxLen; omega) (by omega) (by have := HO7.out.2.size; simp; omega) ?_)
              intro ra rc w8 hown hgr
              have HF : Hid ((risR (l.take (i + 1))).length = k + 1 + (j - (k + 1)) ∧ OwnN w8 w.heap.size (.slice ra (k + 1 + (j - (k + 1))) rc) (risR (l.take (i + 1))) ∧ Below w.heap.size w w8) := by
                have e1 : risR (l.take (i + 1)) = xs.take k ++ (x1, x2) :: xs.drop (k + 1) := HRK.out
                have e2 : (risR (l.take (i + 1))).length = k + 1 + (j - (k + 1)) := by
                  rw [e1, List.length_append, List.length_cons, List.length_take, List.length_drop, HXL.out]
                  omega
                refine ⟨e2, ?_, ?_⟩
                · show w8.ownsRow w.heap.size 49 2 _ _ _
                  rw [e2, e1]
                  refine row_low ?_ HBB.out.size
                  have e3 : flatN (xs.take k ++ (x1, x2) :: xs.drop (k + 1)) = flatN (xs.take k) ++ (flatN [(x1, x2)] ++ flatN (xs.drop (k + 1))) := by
                    rw [show xs.take k ++ (x1, x2) :: xs.drop (k + 1) = xs.take k ++ [(x1, x2)] ++ xs.drop (k + 1) by simp, flatN_append, flatN_append, List.append_assoc]
                  rw [e3]
                  exact hown
                · have h1 : Below wB.heap.size wB w8 := (below_drewN HO7.out.2 _).grown hgr (by have := HO7.out.2.size; simp; omega) (fun g hg => (HO7.out.1.lt g hg).1)
                  exact HBB.out.trans (h1.mono HBB.out.size)
              clear hown hgr HO7 HN HL
              go_wp2_with fail
              go_roundw
              case rel => exact ⟨i + 1, ra, k + 1 + (j - (k + 1)), rc, by omega, rfl, by go_num, HF⟩
              case measure => simp [intOf]; omega
            · have HRK : Hid (risR (l.take (i + 1)) = xs.take k ++ (x1, x2) :: xs.drop k) := by
                show _ = _
                rw [HSN.out, HRN.out, HY.out.1, if_neg (fun e => hxy0 (by injection e))]
              have hxy : (y1 == x1 && y2 == x2) = false := by
                cases h : (y1 == x1 && y2 == x2)
                · rfl
                · rw [Bool.and_eq_true, beq_iff_eq, beq_iff_eq] at h
                  exact absurd (Prod.ext h.1 h.2) hxy0
              clear hxy0 HRN
              have k0 := (HB6.out.cell (p := ⟨b, o + i * 2, none⟩) hbl).trans p0
              have k1 := (HB6.out.cell (p := ⟨b, o + i * 2 + 1, none⟩) hbl).trans p1
              have hsz6 := HB6.out.size
              have hnews := newsN_new w6 (x1, x2)
              have hnews : Hid (∀ j' u, (flatN [(x1, x2)])[j']? = some u → (w6.alloc (.cells #[.int .i64 x1, .int .i64 x2] 49)).cell? ((⟨w6.heap.size, 0, none⟩ : Addr).add j') = some u) := hnews
              have hlen : Hid ((flatN [(x1, x2)]).length = 1 * 2) := rfl
              go_wp2_with (at_builtin; refine wpList_append_own _ rfl _ _ 23 rfl wB.heap.size 49 i0 (.agg #[.int .i64 0, .int .i64 0]) 2 16 Tryz.underlying23 hi hz hs hby rfl (by decide) _ _ _ rfl (HO6.out.alloc _) ⟨w6.heap.size, 0, none⟩ 1 1 (flatN [(x1, x2)]) rfl hlen.out hnews.out (flatN_one _) (by unfold maxLen; omega) (by omega) (by simp; omega) ?_)
              intro v' w7 hown hgr hnil
              obtain ⟨va, vc, hvf⟩ := owns_form hown
              subst hvf
              have HO7 : Hid (w7.ownsRow wB.heap.size 49 2 (.slice va (k + 1) vc) (k + 1) (flatN (xs.take k) ++ flatN [(x1, x2)]) ∧ Below wB.heap.size wB w7) := ⟨hown, (HB6.out.alloc HB6.out.size _).grown hgr (by simp; omega) (fun g hg => (HO6.out.lt g hg).1)⟩
              clear hown hgr hnil HO6 hnews hlen k0 k1
              obtain ⟨aF, hF, hF2⟩ := sl_from (some ⟨g, og, none⟩) j jc (k) (by omega) hjc hjf
              have hF : ∀ w, (Instr.slice 23 (.slice (some ⟨g, og, none⟩) j jc) (some (.int .i64 ((k : Int)))) none none).run Tryz.prog w = .ok (.slice aF (j - (k)) (jc - (k))) w := fun w => by have h := hF w; push_cast at h; exact h
              have HN : Hid (j - (k) = 0 ∨ ∃ ad, aF = some ad ∧ ∀ q u, (flatN (xs.drop (k)))[q]? = some u → w7.cell? (ad.add q) = some u) := by
                rcases hF2 with h | ⟨b', o', e1, e2⟩
                · exact .inl h
                · refine .inr ⟨_, e2, ?_⟩
                  exact names_from (HXN.out.below HO7.out.2) (by rw [e1]) (k)
              have HL : Hid ((flatN (xs.drop (k))).length = (j - (k)) * 2) := by
                show _ = _
                rw [flatN_length, List.length_drop, HXL.out]
              have l0 := (HO7.out.2.cell (p := ⟨g, og + k * 2, none⟩) hgl).trans q0
              have l1 := (HO7.out.2.cell (p := ⟨g, og + k * 2 + 1, none⟩) hgl).trans q1
              have l2 := (HO7.out.2.cell (p := ⟨b, o + i * 2, none⟩) hbl).trans p0
              have l3 := (HO7.out.2.cell (p := ⟨b, o + i * 2 + 1, none⟩) hbl).trans p1
              have hE := eql23b y1 y2 x1 x2
              rw [hxy] at hE
              go_wp2_with fail
              go_quiet (fail)
              go_wp2_with (at_builtin; refine wpList_append_any _ rfl _ _ 23 rfl wB.heap.size 49 i0 (.agg #[.int .i64 0, .int .i64 0]) 2 16 Tryz.underlying23 hi hz hs hby rfl (by decide) _ _ _ rfl (row_drewN HO7.out.1 _) aF (j - (k)) (jc - (k)) (flatN (xs.drop (k))) rfl HL.out (news_drewN HN.out _) (flatN_one _) (by unfold maxLen; omega) (by omega) (by have := HO7.out.2.size; simp; omega) ?_)
              intro ra rc w8 hown hgr
              have HF : Hid ((risR (l.take (i + 1))).length = k + 1 + (j - (k)) ∧ OwnN w8 w.heap.size (.slice ra (k + 1 + (j - (k))) rc) (risR (l.take (i + 1))) ∧ Below w.heap.size w w8) := by
                have e1 : risR (l.take (i + 1)) = xs.take k ++ (x1, x2) :: xs.drop (k) := HRK.out
                have e2 : (risR (l.take (i + 1))).length = k + 1 + (j - (k)) := by
                  rw [e1, List.length_append, List.length_cons, List.length_take, List.length_drop, HXL.out]
                  omega
                refine ⟨e2, ?_, ?_⟩
                · show w8.ownsRow w.heap.size 49 2 _ _ _
                  rw [e2, e1]
                  refine row_low ?_ HBB.out.size
                  have e3 : flatN (xs.take k ++ (x1, x2) :: xs.drop (k)) = flatN (xs.take k) ++ (flatN [(x1, x2)] ++ flatN (xs.drop (k))) := by
                    rw [show xs.take k ++ (x1, x2) :: xs.drop (k) = xs.take k ++ [(x1, x2)] ++ xs.drop (k) by simp, flatN_append, flatN_append, List.append_assoc]
                  rw [e3]
                  exact hown
                · have h1 : Below wB.heap.size wB w8 := (below_drewN HO7.out.2 _).grown hgr (by have := HO7.out.2.size; simp; omega) (fun g hg => (HO7.out.1.lt g hg).1)
                  exact HBB.out.trans (h1.mono HBB.out.size)
              clear hown hgr HO7 HN HL
              go_wp2_with fail
              go_roundw
              case rel => exact ⟨i + 1, ra, k + 1 + (j - (k)), rc, by omega, rfl, by go_num, HF⟩
              case measure => simp [intOf]; omega
          · rw [hls] at H59
            have HLS : Hid (lessN (y1, y2) (x1, x2) = true) := hls
            clear hls
            go_wp2_with fail
            refine wp_region_noPanic ?_
            refine wp_region_held_drew (S := Rq4 wr g (og + k * 2) y1 y2 b (o + i * 2) x1 x2) (by kernel_rfl) hS6 (fun hHeld => ?_)
            refine wpAnyH_take (i := 0) (v := ?_) (by simp only [List.getElem?_toArray, List.getElem?_cons_zero]; rfl) (by kernel_rfl) (by kernel_rfl) (by kernel_rfl) (fun _ _ _ h => h) (Or.inl ⟨by rfl, ?_⟩) (by assumption) ?_; rotate_left; (· (intro w hSw; (try dsimp only at hSw); go_simp <;> with_reducible rfl)); try simp only [Act.put, List.setIfInBounds_toArray, List.set_cons_zero, List.set_cons_succ]
            refine wpAnyH_take (i := 1) (v := ?_) (by simp only [List.getElem?_toArray, List.getElem?_cons_zero, List.getElem?_cons_succ]; rfl) (by kernel_rfl) (by kernel_rfl) (by kernel_rfl) (fun _ _ _ h => h) (Or.inl ⟨by rfl, ?_⟩) (by assumption) ?_; rotate_left; (· (intro w hSw; (try dsimp only at hSw); go_simp <;> with_reducible rfl)); try simp only [Act.put, List.setIfInBounds_toArray, List.set_cons_zero, List.set_cons_succ]
            refine wpAnyH_take (i := 2) (v := ?_) (by simp only [List.getElem?_toArray, List.getElem?_cons_zero, List.getElem?_cons_succ]; rfl) (by kernel_rfl) (by kernel_rfl) (by kernel_rfl) (fun _ _ _ h => h) (Or.inl ⟨by rfl, ?_⟩) (by assumption) ?_; rotate_left; (· (intro w hSw; (try dsimp only at hSw); go_simp <;> with_reducible rfl)); try simp only [Act.put, List.setIfInBounds_toArray, List.set_cons_zero, List.set_cons_succ]
            refine wpAnyH_take (i := 3) (v := ?_) (by simp only [List.getElem?_toArray, List.getElem?_cons_zero, List.getElem?_cons_succ]; rfl) (by kernel_rfl) (by kernel_rfl) (by kernel_rfl) (fun _ _ _ h => h) (Or.inl ⟨by rfl, ?_⟩) (by assumption) ?_; rotate_left; (· (intro w hSw; (try dsimp only at hSw); go_simp <;> with_reducible rfl)); try simp only [Act.put, List.setIfInBounds_toArray, List.set_cons_zero, List.set_cons_succ]
            refine wpAnyH_take (i := 4) (v := ?_) (by simp only [List.getElem?_toArray, List.getElem?_cons_zero, List.getElem?_cons_succ]; rfl) (by kernel_rfl) (by kernel_rfl) (by kernel_rfl) (fun _ _ _ h => h) (Or.inl ⟨by rfl, ?_⟩) (by assumption) ?_; rotate_left; (· (intro w hSw; (try dsimp only at hSw); go_simp <;> with_reducible rfl)); try simp only [Act.put, List.setIfInBounds_toArray, List.set_cons_zero, List.set_cons_succ]
            refine wpAnyH_take (i := 5) (v := ?_) (by simp only [List.getElem?_toArray, List.getElem?_cons_zero, List.getElem?_cons_succ]; rfl) (by kernel_rfl) (by kernel_rfl) (by kernel_rfl) (fun _ _ _ h => h) (Or.inl ⟨by rfl, ?_⟩) (by assumption) ?_; rotate_left; (· (intro w hSw; (try dsimp only at hSw); go_simp <;> with_reducible rfl)); try simp only [Act.put, List.setIfInBounds_toArray, List.set_cons_zero, List.set_cons_succ]
            refine wpAnyH_take (i := 6) (v := ?_) (by simp only [List.getElem?_toArray, List.getElem?_cons_zero, List.getElem?_cons_succ]; rfl) (by kernel_rfl) (by kernel_rfl) (by kernel_rfl) (fun _ _ _ h => h) (Or.inl ⟨by rfl, ?_⟩) (by assumption) ?_; rotate_left; (· (intro w hSw; (try dsimp only at hSw); go_simp <;> with_reducible rfl)); try simp only [Act.put, List.setIfInBounds_toArray, List.set_cons_zero, List.set_cons_succ]
            refine wpAnyH_take (i := 7) (v := ?_) (by simp only [List.getElem?_toArray, List.getElem?_cons_zero, List.getElem?_cons_succ]; rfl) (by kernel_rfl) (by kernel_rfl) (by kernel_rfl) (fun _ _ _ h => h) (Or.inl ⟨by rfl, ?_⟩) (by assumption) ?_; rotate_left; (· (intro w hSw; (try dsimp only at hSw); go_simp <;> with_reducible rfl)); try simp only [Act.put, List.setIfInBounds_toArray, List.set_cons_zero, List.set_cons_succ]
            refine wpAnyH_take (i := 8) (v := ?_) (by simp only [List.getElem?_toArray, List.getElem?_cons_zero, List.getElem?_cons_succ]; rfl) (by kernel_rfl) (by kernel_rfl) (by kernel_rfl) (fun _ _ _ h => h) (Or.inl ⟨by rfl, ?_⟩) (by assumption) ?_; rotate_left; (· (intro w hSw; (try dsimp only at hSw); go_simp <;> with_reducible rfl)); try simp only [Act.put, List.setIfInBounds_toArray, List.set_cons_zero, List.set_cons_succ]
            refine wpAnyH_take (i := 9) (v := ?_) (by simp only [List.getElem?_toArray, List.getElem?_cons_zero, List.getElem?_cons_succ]; rfl) (by kernel_rfl) (by kernel_rfl) (by kernel_rfl) (fun _ _ _ h => h) (Or.inl ⟨by rfl, ?_⟩) (by assumption) ?_; rotate_left; (· (intro w hSw; (try dsimp only at hSw); go_simp <;> with_reducible rfl)); try simp only [Act.put, List.setIfInBounds_toArray, List.set_cons_zero, List.set_cons_succ]
            refine wpAnyH_take (i := 10) (v := ?_) (by simp only [List.getElem?_toArray, List.getElem?_cons_zero, List.getElem?_cons_succ]; rfl) (by kernel_rfl) (by kernel_rfl) (by kernel_rfl) (fun _ _ _ h => h) (Or.inl ⟨by rfl, ?_⟩) (by assumption) ?_; rotate_left; (· (intro w hSw; (try dsimp only at hSw); go_simp <;> with_reducible rfl)); try simp only [Act.put, List.setIfInBounds_toArray, List.set_cons_zero, List.set_cons_succ]
            refine wpAnyH_take (i := 11) (v := ?_) (by simp only [List.getElem?_toArray, List.getElem?_cons_zero, List.getElem?_cons_succ]; rfl) (by kernel_rfl) (by kernel_rfl) (by kernel_rfl) (fun _ _ _ h => h) (Or.inl ⟨by rfl, ?_⟩) (by assumption) ?_; rotate_left; (· (intro w hSw; (try dsimp only at hSw); go_simp <;> with_reducible rfl)); try simp only [Act.put, List.setIfInBounds_toArray, List.set_cons_zero, List.set_cons_succ]
            refine wpAnyH_take (i := 12) (v := ?_) (by simp only [List.getElem?_toArray, List.getElem?_cons_zero, List.getElem?_cons_succ]; rfl) (by kernel_rfl) (by kernel_rfl) (by kernel_rfl) (fun _ _ _ h => h) (Or.inl ⟨by rfl, ?_⟩) (by assumption) ?_; rotate_left; (· (intro w hSw; (try dsimp only at hSw); go_simp <;> with_reducible rfl)); try simp only [Act.put, List.setIfInBounds_toArray, List.set_cons_zero, List.set_cons_succ]
            refine wpAnyH_ready (rs := [13]) (by kernel_rfl) (by simp) ?_
            refine AllReadyH.cons (by simp only [List.getElem?_toArray, List.getElem?_cons_zero, List.getElem?_cons_succ]; rfl) (fun K hK => ?_) AllReadyH.nil
            go_simp
            refine (H59 _).mono ?_
            rintro e u9 ⟨rfl, hbx9⟩
            refine hK.out _ _ (rq4_below hHeld hbx9) (fun hHeld => ?_)
            clear hK K
            try simp only [Act.put, List.setIfInBounds_toArray, List.set_cons_zero, List.set_cons_succ]
            refine wpAnyH_take (i := 14) (v := ?_) (by simp only [List.getElem?_toArray, List.getElem?_cons_zero, List.getElem?_cons_succ]; rfl) (by kernel_rfl) (by kernel_rfl) (by kernel_rfl) (fun _ _ _ h => h) (Or.inl ⟨by rfl, ?_⟩) (by assumption) ?_; rotate_left; (· (intro w hSw; (try dsimp only at hSw); go_simp <;> with_reducible rfl)); try simp only [Act.put, List.setIfInBounds_toArray, List.set_cons_zero, List.set_cons_succ]
            refine wpAnyH_done (by kernel_rfl) ?_ _
            refine NoPanic.normal ?_
            have HB6 : Hid (Below wB.heap.size wB u9) := HKN.out.2.1.trans (hHeld.2.2.2.2.out.1.mono HKN.out.2.1.size)
            have HO6 : Hid (u9.ownsRow wB.heap.size 49 2 (.slice na k nc) k (flatN (xs.take k))) := owns_below' HKN.out.1 hHeld.2.2.2.2.out.1
            have l0 := hHeld.1
            have l1 := hHeld.2.1
            have HLE : Hid (∀ q y, q < k → xs[q]? = some y → lessN y (x1, x2) = true) := HKN.out.2.2
            clear hHeld hS6 H59 HKN
            have hsz6 := HB6.out.size
            have hnews := newsN_new u9 (y1, y2)
            have hnews : Hid (∀ j' u, (flatN [(y1, y2)])[j']? = some u → (u9.alloc (.cells #[.int .i64 y1, .int .i64 y2] 49)).cell? ((⟨u9.heap.size, 0, none⟩ : Addr).add j') = some u) := hnews
            have hlen : Hid ((flatN [(y1, y2)]).length = 1 * 2) := rfl
            go_wp2_with (at_builtin; refine wpList_append_own _ rfl _ _ 23 rfl wB.heap.size 49 i0 (.agg #[.int .i64 0, .int .i64 0]) 2 16 Tryz.underlying23 hi hz hs hby rfl (by decide) _ _ _ rfl (HO6.out.alloc _) ⟨u9.heap.size, 0, none⟩ 1 1 (flatN [(y1, y2)]) rfl hlen.out hnews.out (flatN_one _) (by unfold maxLen; omega) (by omega) (by simp; omega) ?_)
            intro v' w7 hown hgr hnil
            obtain ⟨va, vc, hvf⟩ := owns_form hown
            subst hvf
            have HF : Hid (w7.ownsRow wB.heap.size 49 2 (.slice va (k + 1) vc) (k + 1) (flatN (xs.take (k + 1))) ∧ Below wB.heap.size wB w7 ∧ ∀ q y, q < k + 1 → xs[q]? = some y → lessN y (x1, x2) = true) := by
              refine ⟨?_, (HB6.out.alloc HB6.out.size _).grown hgr (by simp; omega) (fun g hg => (HO6.out.lt g hg).1), fun q z hq hz => ?_⟩
              · rw [HY.out.2, flatN_append]
                exact hown
              · by_cases e : q < k
                · exact HLE.out q z e hz
                · obtain rfl : q = k := by omega
                  rw [HY.out.1] at hz
                  cases hz
                  exact HLS.out
            clear hown hgr hnil HO6 hnews hlen l0 l1
            go_wp2_with fail
            go_roundw
            case rel => exact ⟨k + 1, va, vc, by omega, rfl, by go_num, HF⟩
            case measure => simp [intOf]; omega
        · have hkI : ¬ (k : Int) < (j : Int) := by omega
          have hkI' : decide ((k : Int) < (j : Int)) = false := by rw [decide_eq_false_iff_not]; exact hkI
          have HRK : Hid (risR (l.take (i + 1)) = xs.take k ++ (x1, x2) :: xs.drop k) := by
            show _ = _
            have e0 : xs[k]? = none := List.getElem?_eq_none (by rw [HXL.out]; omega)
            rw [HSN.out, insR_at (x1, x2) xs k (by rw [HXL.out]; exact hkj) HKN.out.2.2 (fun z hz => by rw [e0] at hz; cases hz), e0, if_neg (by simp)]
          go_wp2_with fail
          go_quiet (fail)
          generalize hw6 : World.drewN wr _ = w6
          have HB6 : Hid (Below wB.heap.size wB w6) := by rw [← hw6]; exact below_drewN HKN.out.2.1 _
          have HO6 : Hid (w6.ownsRow wB.heap.size 49 2 (.slice na k nc) k (flatN (xs.take k))) := by rw [← hw6]; exact row_drewN HKN.out.1 _
          clear hw6 HKN
          have k0 := (HB6.out.cell (p := ⟨b, o + i * 2, none⟩) hbl).trans p0
          have k1 := (HB6.out.cell (p := ⟨b, o + i * 2 + 1, none⟩) hbl).trans p1
          have hsz6 := HB6.out.size
          have hnews := newsN_new w6 (x1, x2)
          have hnews : Hid (∀ j' u, (flatN [(x1, x2)])[j']? = some u → (w6.alloc (.cells #[.int .i64 x1, .int .i64 x2] 49)).cell? ((⟨w6.heap.size, 0, none⟩ : Addr).add j') = some u) := hnews
          have hlen : Hid ((flatN [(x1, x2)]).length = 1 * 2) := rfl
          go_wp2_with (at_builtin; refine wpList_append_own _ rfl _ _ 23 rfl wB.heap.size 49 i0 (.agg #[.int .i64 0, .int .i64 0]) 2 16 Tryz.underlying23 hi hz hs hby rfl (by decide) _ _ _ rfl (HO6.out.alloc _) ⟨w6.heap.size, 0, none⟩ 1 1 (flatN [(x1, x2)]) rfl hlen.out hnews.out (flatN_one _) (by unfold maxLen; omega) (by omega) (by simp; omega) ?_)
          intro v' w7 hown hgr hnil
          obtain ⟨va, vc, hvf⟩ := owns_form hown
          subst hvf
          have HO7 : Hid (w7.ownsRow wB.heap.size 49 2 (.slice va (k + 1) vc) (k + 1) (flatN (xs.take k) ++ flatN [(x1, x2)]) ∧ Below wB.heap.size wB w7) := ⟨hown, (HB6.out.alloc HB6.out.size _).grown hgr (by simp; omega) (fun g hg => (HO6.out.lt g hg).1)⟩
          clear hown hgr hnil HO6 hnews hlen k0 k1
          obtain ⟨aF, hF, hF2⟩ := sl_from ja j jc (k) (by omega) hjc hjf
          have hF : ∀ w, (Instr.slice 23 (.slice ja j jc) (some (.int .i64 ((k : Int)))) none none).run Tryz.prog w = .ok (.slice aF (j - (k)) (jc - (k))) w := fun w => by have h := hF w; push_cast at h; exact h
          have HN : Hid (j - (k) = 0 ∨ ∃ ad, aF = some ad ∧ ∀ q u, (flatN (xs.drop (k)))[q]? = some u → w7.cell? (ad.add q) = some u) := by
            rcases hF2 with h | ⟨b', o', e1, e2⟩
            · exact .inl h
            · refine .inr ⟨_, e2, ?_⟩
              exact names_from (HXN.out.below HO7.out.2) (by rw [e1]) (k)
          have HL : Hid ((flatN (xs.drop (k))).length = (j - (k)) * 2) := by
            show _ = _
            rw [flatN_length, List.length_drop, HXL.out]
          go_wp2_with fail
          go_quiet (fail)
          go_wp2_with (at_builtin; refine wpList_append_any _ rfl _ _ 23 rfl wB.heap.size 49 i0 (.agg #[.int .i64 0, .int .i64 0]) 2 16 Tryz.underlying23 hi hz hs hby rfl (by decide) _ _ _ rfl (row_drewN HO7.out.1 _) aF (j - (k)) (jc - (k)) (flatN (xs.drop (k))) rfl HL.out (news_drewN HN.out _) (flatN_one _) (by unfold maxLen; omega) (by omega) (by have := HO7.out.2.size; simp; omega) ?_)
          intro ra rc w8 hown hgr
          have HF : Hid ((risR (l.take (i + 1))).length = k + 1 + (j - (k)) ∧ OwnN w8 w.heap.size (.slice ra (k + 1 + (j - (k))) rc) (risR (l.take (i + 1))) ∧ Below w.heap.size w w8) := by
            have e1 : risR (l.take (i + 1)) = xs.take k ++ (x1, x2) :: xs.drop (k) := HRK.out
            have e2 : (risR (l.take (i + 1))).length = k + 1 + (j - (k)) := by
              rw [e1, List.length_append, List.length_cons, List.length_take, List.length_drop, HXL.out]
              omega
            refine ⟨e2, ?_, ?_⟩
            · show w8.ownsRow w.heap.size 49 2 _ _ _
              rw [e2, e1]
              refine row_low ?_ HBB.out.size
              have e3 : flatN (xs.take k ++ (x1, x2) :: xs.drop (k)) = flatN (xs.take k) ++ (flatN [(x1, x2)] ++ flatN (xs.drop (k))) := by
                rw [show xs.take k ++ (x1, x2) :: xs.drop (k) = xs.take k ++ [(x1, x2)] ++ xs.drop (k) by simp, flatN_append, flatN_append, List.append_assoc]
              rw [e3]
              exact hown
            · have h1 : Below wB.heap.size wB w8 := (below_drewN HO7.out.2 _).grown hgr (by have := HO7.out.2.size; simp; omega) (fun g hg => (HO7.out.1.lt g hg).1)
              exact HBB.out.trans (h1.mono HBB.out.size)
          clear hown hgr HO7 HN HL
          go_wp2_with fail
          go_roundw
          case rel => exact ⟨i + 1, ra, k + 1 + (j - (k)), rc, by omega, rfl, by go_num, HF⟩
          case measure => simp [intOf]; omega
    · have hltI : ¬ (i : Int) < (ln : Int) := by omega
      have HE : Hid ((risR l).length = j ∧ OwnN wr w.heap.size (.slice ja j jc) (risR l) ∧ Below w.heap.size w wr) := by
        have e1 : l.take i = l := List.take_of_length_le (by have := HV.out.2; omega)
        have h := HK.out
        rw [e1] at h
        exact h
      go_wp2_with fail
      go_ret
      exact ⟨_, _, _, rfl, HE⟩
end Go.Proofs.YtojobiefambkoaaGreatDoor
