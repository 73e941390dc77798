/- Contract of the statement on what is handed out. -/
import Derived.Test.YtdonclnjgopmbaaPM
import Derived.Test.YtdonclnjgopmbaaOI
namespace Go.Proofs.Ytdonclnjgopmbaa
open Go.RowKit
attribute [local go_sem ↓] Go.wp_at_zero Go.wp_at_succ
/-- Both tables behind at most k rounds. -/
def Two (wB w : World) (tb rb wb rt k : Nat) : Prop := ∃ n s m q G rs ws, Tw w wB.heap.size tb rb wb n s m q G rt rs ws ∧ Lk m q rs ws ∧ (n ≤ 2 * k ∧ rs.length ≤ k ∧ ws.length ≤ k ∧ ∀ y, (m y).length ≤ k) ∧ Below wB.heap.size wB w
theorem Two.below {wB w w' : World} {tb rb wb rt k : Nat} (h : Two wB w tb rb wb rt k) (hb : Below w.heap.size w w') : Two wB w' tb rb wb rt k := by
  obtain ⟨n, s, m, q, G, rs, ws, h1, h2, h3, h4⟩ := h
  exact ⟨n, s, m, q, G, rs, ws, h1.below hb, h2, h3, h4.trans (hb.mono h4.size)⟩
/-- A row that may be written. -/
def Fm (w : World) (B e z : Nat) (a : Option Addr) (n : Nat) : Prop := n = 0 ∨ ∃ g cur, a = some ⟨g, 0, none⟩ ∧ B ≤ g ∧ w.heap[g]? = some (.cells cur e (0, 0)) ∧ n * z ≤ cur.size
theorem Fm.set {w : World} {B e z : Nat} {a : Option Addr} {n : Nat} (h : Fm w B e z a n) (p : Addr) (hp : p.spot = none) (v : Value) : Fm (w.setCell p v) B e z a n := by
  rcases h with e | ⟨g, cur, e, h0, h1, h2⟩
  · exact .inl e
  · obtain ⟨b, j, s⟩ := p
    simp only at hp
    subst hp
    by_cases hb : b = g
    · subst hb
      exact .inr ⟨b, _, e, h0, heap_setCell_same w b j _ _ v h1, by simpa using h2⟩
    · exact .inr ⟨g, cur, e, h0, by rw [heap_setCell_other w ⟨b, j, none⟩ g v (Ne.symm hb)]; exact h1, h2⟩
theorem Fm.below {w w' : World} {B e z : Nat} {a : Option Addr} {n : Nat} (h : Fm w B e z a n) (hb : Below w.heap.size w w') : Fm w' B e z a n := by
  rcases h with e | ⟨g, cur, e, h0, h1, h2⟩
  · exact .inl e
  · exact .inr ⟨g, cur, e, h0, (hb.block g (Array.getElem?_eq_some_iff.1 h1).1).trans h1, h2⟩
theorem Fm.at {w : World} {B e z : Nat} {a : Option Addr} {n : Nat} (h : Fm w B e z a n) {k j : Nat} (hk : k < n) (hj : j < z) : ∃ g v, a = some ⟨g, 0, none⟩ ∧ B ≤ g ∧ w.cell? ⟨g, k * z + j, none⟩ = some v ∧ w.frozen? ⟨g, k * z + j, none⟩ = false := by
  rcases h with e | ⟨g, cur, e, h0, h1, h2⟩
  · omega
  · have hj : k * z + j < cur.size := by
      have : (k + 1) * z ≤ n * z := Nat.mul_le_mul_right z hk
      rw [Nat.add_mul] at this
      omega
    refine ⟨g, cur[k * z + j], e, h0, ?_, frozen_of_row w g _ _ _ h1⟩
    rw [cell_of_row w g _ _ _ (0, 0) h1, Array.getElem?_eq_getElem hj]
theorem Fm.row {w : World} {B : Nat} {g k c : Nat} {xs : List Int} (h : Row w B 3 (some ⟨g, 0, none⟩) k c (i64s xs)) : Fm w B 3 1 (some ⟨g, 0, none⟩) k := by
  rcases h.mem with ⟨e, _⟩ | ⟨g', cu, e, h1, h2, h3, h4⟩
  · cases e
  · have hl := h.len
    cases e
    exact .inr ⟨g, cu, rfl, h1, h2, by have := h.cap; omega⟩
theorem Fm.own {w : World} {B n : Nat} {a : Option Addr} {c : Nat} {xs : List Value} (h : w.ownsRow B 28 2 (.slice a n c) n xs) : Fm w B 28 2 a n := by
  rcases h.2 with ⟨_, e⟩ | ⟨g, cap, cur, e, h1, h2, h3, _, h4, _⟩
  · exact .inl e
  · cases e
    exact .inr ⟨g, cur, rfl, h1, h2, by rw [h4]; exact Nat.mul_le_mul_right 2 h3⟩
/-- The rows that were handed out are written over: nothing else. -/
def Wrt (wE wr : World) (a1 a2 a3 : Option Addr) (n1 n2 n3 : Nat) : Prop := Below wE.heap.size wE wr ∧ Fm wr wE.heap.size 3 1 a1 n1 ∧ Fm wr wE.heap.size 28 2 a2 n2 ∧ Fm wr wE.heap.size 28 2 a3 n3
theorem Wrt.set {wE wr : World} {a1 a2 a3 : Option Addr} {n1 n2 n3 : Nat} (h : Wrt wE wr a1 a2 a3 n1 n2 n3) {g : Nat} (hg : wE.heap.size ≤ g) (j : Nat) (v : Value) : Wrt wE (wr.setCell ⟨g, j, none⟩ v) a1 a2 a3 n1 n2 n3 :=
  ⟨h.1.setCell (p := ⟨g, j, none⟩) hg v, h.2.1.set _ rfl _, h.2.2.1.set _ rfl _, h.2.2.2.set _ rfl _⟩
abbrev DdS (u : World) (b p : Nat) (x1 x2 nd : Int) : Prop := u.cell? ⟨b, p + 1, none⟩ = some (.int .i64 x1) ∧ u.cell? ⟨b, p + 2, none⟩ = some (.int .i64 x2) ∧ u.cell? ⟨b, p + 3, none⟩ = some (.int .i64 nd)
theorem dds_of {u : World} {b p : Nat} {x1 x2 nd kd : Int} {v : Value} (h : u.cell? ⟨b, p, none⟩ = some (.int .i64 kd) ∧ u.cell? ⟨b, p + 1, none⟩ = some (.int .i64 x1) ∧ u.cell? ⟨b, p + 2, none⟩ = some (.int .i64 x2) ∧ u.cell? ⟨b, p + 3, none⟩ = some (.int .i64 nd) ∧ u.cell? ⟨b, p + 4, none⟩ = some v) : DdS u b p x1 x2 nd := ⟨h.2.1, h.2.2.1, h.2.2.2.1⟩
set_option maxRecDepth 100000 in
set_option maxHeartbeats 16000000 in
theorem o6 (a : Option Addr) (n c : Nat) (es : List Dd) (v : Nm) (w : World) (hA : DdRow w a n es) (hn : n ≤ 9223372036854775807) (hv : wfN v) :
    Calls Try.prog 6 #[.slice a n c, .agg #[.int .i64 v.1, .int .i64 v.2]] w fun e w' => e = .returned (.bool true) ∧ Below w.heap.size w w' := by
  obtain ⟨wB, hwB⟩ : ∃ wB, w.alloc (.cells #[.int .i64 v.1, .int .i64 v.2] 28) = wB := ⟨_, rfl⟩
  obtain ⟨vb, hvb⟩ : ∃ vb, w.heap.size = vb := ⟨_, rfl⟩
  have HV : Hid (Below w.heap.size w wB ∧ wB.heap[vb]? = some (.cells #[.int .i64 v.1, .int .i64 v.2] 28 (0, 0)) ∧ vb < wB.heap.size ∧ wfN v ∧ DdRow w a n es) := by
    rw [← hwB, ← hvb]
    exact ⟨(Below.refl _ w).alloc (Nat.le_refl _) _, heap_alloc_new w _, by simp, hv, hA⟩
  have HC : Hid (∀ w', Below wB.heap.size wB w' → w'.cell? ⟨vb, 0, none⟩ = some (.int .i64 v.1) ∧ w'.cell? ⟨vb, 1, none⟩ = some (.int .i64 v.2)) := fun w' hw => by
    obtain ⟨_, h2, h3, _⟩ := HV.out
    exact box_cells ((hw.block vb h3).trans h2)
  have H7 : Calls Try.prog 7 #[] wB fun e w' => ∃ tb rb wb, e = .returned (.pointer (some ⟨tb, 0, none⟩)) ∧ Hid (TbAt w' wB.heap.size tb rb wb 0 (fun _ => ⟨none, 0, 0⟩) (fun _ => []) (fun _ => false) ∧ Below wB.heap.size wB w') := by
    refine (o7 wB).mono ?_
    rintro e w' ⟨rfl, h1, h2⟩
    exact ⟨_, _, _, rfl, h1, h2⟩
  clear hA hv
  obtain ⟨v1, v2⟩ := v
  simp only at *
  go_enter Try.func6, Try.ntmps6
  go_wp2_with fail
  refine H7.mono ?_
  rintro e w1 ⟨tb, rb, wb, rfl, HI0⟩
  clear H7 hwB hvb
  have H8 : Calls Try.prog 8 #[] w1 fun e w' => ∃ rt, e = .returned (.pointer (some ⟨rt, 0, none⟩)) ∧ Hid (Two wB w' tb rb wb rt 0) := by
    refine (o8 w1).mono ?_
    rintro e w' ⟨rfl, h1, h2⟩
    obtain ⟨t1, t2⟩ := HI0.out
    refine ⟨_, rfl, 0, _, _, _, _, [], [], ⟨t1.below h2, h1, fun g hg => hg.elim, t2.size⟩, ⟨List.Pairwise.nil, List.Pairwise.nil, fun x => by simp, fun x _ => rfl, fun x => by simp⟩, ⟨by omega, by simp, by simp, fun y => by simp⟩, t2.trans (h2.mono t2.size)⟩
  go_wp2_with fail
  refine H8.mono ?_
  rintro e w2 ⟨rt, rfl, HT0⟩
  clear H8 HI0
  go_wp2_with fail
  go_loopw [7] (fun i wr => ∃ k : Nat, k ≤ n ∧ k ≤ 100 ∧ i = .int .i64 k ∧ Hid (Two wB wr tb rb wb rt k)) (fun i _ => n - (intOf i).toNat)
  case atStart => exact ⟨0, by omega, by omega, rfl, HT0⟩
  case round =>
    clear HT0
    obtain ⟨k, hk, hk1, rfl, HK⟩ := hrel
    by_cases hlt : k < n ∧ k < 100
    · obtain ⟨hlt, hlt2⟩ := hlt
      have hltI : (k : Int) < (n : Int) := by omega
      have hltJ : (k : Int) < 100 := by omega
      have hk0 : (0 : Int) ≤ (k : Int) := by omega
      obtain ⟨nn, s, m, q, G, rs, ws, hT, hL, ⟨n1, n2, n3, n4⟩, hB⟩ := HK.out
      obtain ⟨b, o, d, rfl, hdk, hdw, hcl⟩ := HV.out.2.2.2.2.at k hlt
      have hBw : Hid (∀ u, Below wB.heap.size wB u → Below w.heap.size w u) := fun u hu => HV.out.1.trans (hu.mono HV.out.1.size)
      obtain ⟨kd, ⟨x1, x2⟩, nd, da, dn, dc⟩ := d
      simp only at hcl hdw
      have HCL : Hid (∀ w', Below w.heap.size w w' → w'.cell? ⟨b, o + k * 5, none⟩ = some (.int .i64 kd) ∧ w'.cell? ⟨b, o + k * 5 + 1, none⟩ = some (.int .i64 x1) ∧ w'.cell? ⟨b, o + k * 5 + 2, none⟩ = some (.int .i64 x2) ∧ w'.cell? ⟨b, o + k * 5 + 3, none⟩ = some (.int .i64 nd) ∧ w'.cell? ⟨b, o + k * 5 + 4, none⟩ = some (.slice da dn dc)) := hcl
      clear hcl hdk HK
      obtain ⟨_, p1, p2, p3, _⟩ := HCL.out wr (hBw.out _ hB)
      have H11 : Hid (∀ u, Below wr.heap.size wr u → Calls Try.prog 11 #[.pointer (some ⟨tb, 0, none⟩), .agg #[.int .i64 x1, .int .i64 x2], .int .i64 nd] u fun e w' => ∃ r, e = .returned (.bool r) ∧ Hid (∃ s', Tw w' wB.heap.size tb rb wb (nn + 1) s' (askM m (x1, x2) nd) q G rt rs ws ∧ Below wB.heap.size wB w')) := fun u hu => by
        have hB' := hB.trans (hu.mono hB.size)
        refine (tw11 (x1, x2) nd (hT.below hu) hdw (by omega) (by have := n4 (x1, x2); omega) hB'.size).mono ?_
        rintro e w' ⟨rfl, s', h1, h2⟩
        exact ⟨_, rfl, s', h1, hB'.trans h2⟩
      have HX : Hid (wfN (x1, x2) ∧ Lk m q rs ws ∧ nn ≤ 2 * k ∧ rs.length ≤ k ∧ ws.length ≤ k ∧ ∀ y, (m y).length ≤ k) := ⟨hdw, hL, n1, n2, n3, n4⟩
      clear hT hL n1 n2 n3 n4 hB hdw
      go_wp2_with fail
      refine wp_region_noPanic ?_
      refine wp_region_held_drew (S := fun u => DdS u b (o + k * 5) x1 x2 nd) (by kernel_rfl) (⟨p1, p2, p3⟩) (fun hHeld => ?_)
      (refine wpAnyH_take (i := 0) (v := ?_) (by simp only [List.getElem?_toArray, List.getElem?_cons_zero]; rfl) (by kernel_rfl) (by kernel_rfl) (by kernel_rfl) (fun _ _ _ h => h) (Or.inl ⟨by rfl, ?_⟩) (by assumption) ?_; rotate_left; (· (intro w hSw; (try dsimp only at hSw); go_simp <;> with_reducible rfl)); try simp only [Act.put, List.setIfInBounds_toArray, List.set_cons_zero, List.set_cons_succ])
      (refine wpAnyH_take (i := 1) (v := ?_) (by simp only [List.getElem?_toArray, List.getElem?_cons_zero, List.getElem?_cons_succ]; rfl) (by kernel_rfl) (by kernel_rfl) (by kernel_rfl) (fun _ _ _ h => h) (Or.inl ⟨by rfl, ?_⟩) (by assumption) ?_; rotate_left; (· (intro w hSw; (try dsimp only at hSw); go_simp <;> with_reducible rfl)); try simp only [Act.put, List.setIfInBounds_toArray, List.set_cons_zero, List.set_cons_succ])
      (refine wpAnyH_take (i := 2) (v := ?_) (by simp only [List.getElem?_toArray, List.getElem?_cons_zero, List.getElem?_cons_succ]; rfl) (by kernel_rfl) (by kernel_rfl) (by kernel_rfl) (fun _ _ _ h => h) (Or.inl ⟨by rfl, ?_⟩) (by assumption) ?_; rotate_left; (· (intro w hSw; (try dsimp only at hSw); go_simp <;> with_reducible rfl)); try simp only [Act.put, List.setIfInBounds_toArray, List.set_cons_zero, List.set_cons_succ])
      (refine wpAnyH_take (i := 3) (v := ?_) (by simp only [List.getElem?_toArray, List.getElem?_cons_zero, List.getElem?_cons_succ]; rfl) (by kernel_rfl) (by kernel_rfl) (by kernel_rfl) (fun _ _ _ h => h) (Or.inl ⟨by rfl, ?_⟩) (by assumption) ?_; rotate_left; (· (intro w hSw; (try dsimp only at hSw); go_simp <;> with_reducible rfl)); try simp only [Act.put, List.setIfInBounds_toArray, List.set_cons_zero, List.set_cons_succ])
      (refine wpAnyH_take (i := 4) (v := ?_) (by simp only [List.getElem?_toArray, List.getElem?_cons_zero, List.getElem?_cons_succ]; rfl) (by kernel_rfl) (by kernel_rfl) (by kernel_rfl) (fun _ _ _ h => h) (Or.inl ⟨by rfl, ?_⟩) (by assumption) ?_; rotate_left; (· (intro w hSw; (try dsimp only at hSw); go_simp <;> with_reducible rfl)); try simp only [Act.put, List.setIfInBounds_toArray, List.set_cons_zero, List.set_cons_succ])
      (refine wpAnyH_take (i := 5) (v := ?_) (by simp only [List.getElem?_toArray, List.getElem?_cons_zero, List.getElem?_cons_succ]; rfl) (by kernel_rfl) (by kernel_rfl) (by kernel_rfl) (fun _ _ _ h => h) (Or.inl ⟨by rfl, ?_⟩) (by assumption) ?_; rotate_left; (· (intro w hSw; (try dsimp only at hSw); go_simp <;> with_reducible rfl)); try simp only [Act.put, List.setIfInBounds_toArray, List.set_cons_zero, List.set_cons_succ])
      (refine wpAnyH_take (i := 6) (v := ?_) (by simp only [List.getElem?_toArray, List.getElem?_cons_zero, List.getElem?_cons_succ]; rfl) (by kernel_rfl) (by kernel_rfl) (by kernel_rfl) (fun _ _ _ h => h) (Or.inl ⟨by rfl, ?_⟩) (by assumption) ?_; rotate_left; (· (intro w hSw; (try dsimp only at hSw); go_simp <;> with_reducible rfl)); try simp only [Act.put, List.setIfInBounds_toArray, List.set_cons_zero, List.set_cons_succ])
      (refine wpAnyH_take (i := 7) (v := ?_) (by simp only [List.getElem?_toArray, List.getElem?_cons_zero, List.getElem?_cons_succ]; rfl) (by kernel_rfl) (by kernel_rfl) (by kernel_rfl) (fun _ _ _ h => h) (Or.inl ⟨by rfl, ?_⟩) (by assumption) ?_; rotate_left; (· (intro w hSw; (try dsimp only at hSw); go_simp <;> with_reducible rfl)); try simp only [Act.put, List.setIfInBounds_toArray, List.set_cons_zero, List.set_cons_succ])
      (refine wpAnyH_take (i := 8) (v := ?_) (by simp only [List.getElem?_toArray, List.getElem?_cons_zero, List.getElem?_cons_succ]; rfl) (by kernel_rfl) (by kernel_rfl) (by kernel_rfl) (fun _ _ _ h => h) (Or.inl ⟨by rfl, ?_⟩) (by assumption) ?_; rotate_left; (· (intro w hSw; (try dsimp only at hSw); go_simp <;> with_reducible rfl)); try simp only [Act.put, List.setIfInBounds_toArray, List.set_cons_zero, List.set_cons_succ])
      (refine wpAnyH_take (i := 9) (v := ?_) (by simp only [List.getElem?_toArray, List.getElem?_cons_zero, List.getElem?_cons_succ]; rfl) (by kernel_rfl) (by kernel_rfl) (by kernel_rfl) (fun _ _ _ h => h) (Or.inl ⟨by rfl, ?_⟩) (by assumption) ?_; rotate_left; (· (intro w hSw; (try dsimp only at hSw); go_simp <;> with_reducible rfl)); try simp only [Act.put, List.setIfInBounds_toArray, List.set_cons_zero, List.set_cons_succ])
      (refine wpAnyH_take (i := 10) (v := ?_) (by simp only [List.getElem?_toArray, List.getElem?_cons_zero, List.getElem?_cons_succ]; rfl) (by kernel_rfl) (by kernel_rfl) (by kernel_rfl) (fun _ _ _ h => h) (Or.inl ⟨by rfl, ?_⟩) (by assumption) ?_; rotate_left; (· (intro w hSw; (try dsimp only at hSw); go_simp <;> with_reducible rfl)); try simp only [Act.put, List.setIfInBounds_toArray, List.set_cons_zero, List.set_cons_succ])
      refine wpAnyH_ready (rs := [11]) (by kernel_rfl) (by simp) ?_
      refine AllReadyH.cons (by simp only [List.getElem?_toArray, List.getElem?_cons_zero, List.getElem?_cons_succ]; rfl) (fun K hK => ?_) AllReadyH.nil
      go_simp
      go_at_call 11
      refine (H11.out _ (by first | exact Below.refl _ _ | exact (Below.refl _ _).drew | exact below_dN (Below.refl _ _) _)).mono ?_
      rintro e w3 ⟨r, rfl, H3⟩
      refine hK.out _ _ ?_ (fun hHeld => ?_)
      · exact dds_of (HCL.out w3 (hBw.out _ (by obtain ⟨_, _, h⟩ := H3.out; exact h)))
      clear hK K
      try simp only [Act.put, List.setIfInBounds_toArray, List.set_cons_zero, List.set_cons_succ]
      refine wpAnyH_done (by kernel_rfl) ?_ _
      refine NoPanic.normal ?_
      clear hHeld
      clear H11 p1 p2 p3
      obtain ⟨_, p1, p2, p3, _⟩ := HCL.out w3 (hBw.out _ (by obtain ⟨_, _, h⟩ := H3.out; exact h))
      have H12 : Hid (∀ u, Below w3.heap.size w3 u → Calls Try.prog 12 #[.pointer (some ⟨rt, 0, none⟩), .agg #[.int .i64 x1, .int .i64 x2], .int .i64 nd] u fun e w' => ∃ r, e = .returned (.bool r) ∧ Hid (∃ s' G' rs', Tw w' wB.heap.size tb rb wb (nn + 1) s' (askM m (x1, x2) nd) q G' rt rs' ws ∧ Lk (askM m (x1, x2) nd) q rs' ws ∧ rs'.length ≤ k + 1 ∧ Below wB.heap.size wB w')) := fun u hu => by
        obtain ⟨s', hT, hB⟩ := H3.out
        obtain ⟨hdw, hL, n1, n2, n3, n4⟩ := HX.out
        have hB' := hB.trans (hu.mono hB.size)
        refine (tw12 (x1, x2) nd (hT.below hu) hL hdw (by omega) (by have := n4 (x1, x2); omega) hB'.size).mono ?_
        rintro e w' ⟨rfl, G', rs', h1, h2, h3, h4⟩
        exact ⟨_, rfl, s', G', rs', h1, h2, by omega, hB'.trans h4⟩
      go_wp2_with fail
      refine wp_region_noPanic ?_
      refine wp_region_held_drew (S := fun u => DdS u b (o + k * 5) x1 x2 nd) (by kernel_rfl) (⟨p1, p2, p3⟩) (fun hHeld => ?_)
      (refine wpAnyH_take (i := 0) (v := ?_) (by simp only [List.getElem?_toArray, List.getElem?_cons_zero]; rfl) (by kernel_rfl) (by kernel_rfl) (by kernel_rfl) (fun _ _ _ h => h) (Or.inl ⟨by rfl, ?_⟩) (by assumption) ?_; rotate_left; (· (intro w hSw; (try dsimp only at hSw); go_simp <;> with_reducible rfl)); try simp only [Act.put, List.setIfInBounds_toArray, List.set_cons_zero, List.set_cons_succ])
      (refine wpAnyH_take (i := 1) (v := ?_) (by simp only [List.getElem?_toArray, List.getElem?_cons_zero, List.getElem?_cons_succ]; rfl) (by kernel_rfl) (by kernel_rfl) (by kernel_rfl) (fun _ _ _ h => h) (Or.inl ⟨by rfl, ?_⟩) (by assumption) ?_; rotate_left; (· (intro w hSw; (try dsimp only at hSw); go_simp <;> with_reducible rfl)); try simp only [Act.put, List.setIfInBounds_toArray, List.set_cons_zero, List.set_cons_succ])
      (refine wpAnyH_take (i := 2) (v := ?_) (by simp only [List.getElem?_toArray, List.getElem?_cons_zero, List.getElem?_cons_succ]; rfl) (by kernel_rfl) (by kernel_rfl) (by kernel_rfl) (fun _ _ _ h => h) (Or.inl ⟨by rfl, ?_⟩) (by assumption) ?_; rotate_left; (· (intro w hSw; (try dsimp only at hSw); go_simp <;> with_reducible rfl)); try simp only [Act.put, List.setIfInBounds_toArray, List.set_cons_zero, List.set_cons_succ])
      (refine wpAnyH_take (i := 3) (v := ?_) (by simp only [List.getElem?_toArray, List.getElem?_cons_zero, List.getElem?_cons_succ]; rfl) (by kernel_rfl) (by kernel_rfl) (by kernel_rfl) (fun _ _ _ h => h) (Or.inl ⟨by rfl, ?_⟩) (by assumption) ?_; rotate_left; (· (intro w hSw; (try dsimp only at hSw); go_simp <;> with_reducible rfl)); try simp only [Act.put, List.setIfInBounds_toArray, List.set_cons_zero, List.set_cons_succ])
      (refine wpAnyH_take (i := 4) (v := ?_) (by simp only [List.getElem?_toArray, List.getElem?_cons_zero, List.getElem?_cons_succ]; rfl) (by kernel_rfl) (by kernel_rfl) (by kernel_rfl) (fun _ _ _ h => h) (Or.inl ⟨by rfl, ?_⟩) (by assumption) ?_; rotate_left; (· (intro w hSw; (try dsimp only at hSw); go_simp <;> with_reducible rfl)); try simp only [Act.put, List.setIfInBounds_toArray, List.set_cons_zero, List.set_cons_succ])
      (refine wpAnyH_take (i := 5) (v := ?_) (by simp only [List.getElem?_toArray, List.getElem?_cons_zero, List.getElem?_cons_succ]; rfl) (by kernel_rfl) (by kernel_rfl) (by kernel_rfl) (fun _ _ _ h => h) (Or.inl ⟨by rfl, ?_⟩) (by assumption) ?_; rotate_left; (· (intro w hSw; (try dsimp only at hSw); go_simp <;> with_reducible rfl)); try simp only [Act.put, List.setIfInBounds_toArray, List.set_cons_zero, List.set_cons_succ])
      (refine wpAnyH_take (i := 6) (v := ?_) (by simp only [List.getElem?_toArray, List.getElem?_cons_zero, List.getElem?_cons_succ]; rfl) (by kernel_rfl) (by kernel_rfl) (by kernel_rfl) (fun _ _ _ h => h) (Or.inl ⟨by rfl, ?_⟩) (by assumption) ?_; rotate_left; (· (intro w hSw; (try dsimp only at hSw); go_simp <;> with_reducible rfl)); try simp only [Act.put, List.setIfInBounds_toArray, List.set_cons_zero, List.set_cons_succ])
      (refine wpAnyH_take (i := 7) (v := ?_) (by simp only [List.getElem?_toArray, List.getElem?_cons_zero, List.getElem?_cons_succ]; rfl) (by kernel_rfl) (by kernel_rfl) (by kernel_rfl) (fun _ _ _ h => h) (Or.inl ⟨by rfl, ?_⟩) (by assumption) ?_; rotate_left; (· (intro w hSw; (try dsimp only at hSw); go_simp <;> with_reducible rfl)); try simp only [Act.put, List.setIfInBounds_toArray, List.set_cons_zero, List.set_cons_succ])
      (refine wpAnyH_take (i := 8) (v := ?_) (by simp only [List.getElem?_toArray, List.getElem?_cons_zero, List.getElem?_cons_succ]; rfl) (by kernel_rfl) (by kernel_rfl) (by kernel_rfl) (fun _ _ _ h => h) (Or.inl ⟨by rfl, ?_⟩) (by assumption) ?_; rotate_left; (· (intro w hSw; (try dsimp only at hSw); go_simp <;> with_reducible rfl)); try simp only [Act.put, List.setIfInBounds_toArray, List.set_cons_zero, List.set_cons_succ])
      (refine wpAnyH_take (i := 9) (v := ?_) (by simp only [List.getElem?_toArray, List.getElem?_cons_zero, List.getElem?_cons_succ]; rfl) (by kernel_rfl) (by kernel_rfl) (by kernel_rfl) (fun _ _ _ h => h) (Or.inl ⟨by rfl, ?_⟩) (by assumption) ?_; rotate_left; (· (intro w hSw; (try dsimp only at hSw); go_simp <;> with_reducible rfl)); try simp only [Act.put, List.setIfInBounds_toArray, List.set_cons_zero, List.set_cons_succ])
      (refine wpAnyH_take (i := 10) (v := ?_) (by simp only [List.getElem?_toArray, List.getElem?_cons_zero, List.getElem?_cons_succ]; rfl) (by kernel_rfl) (by kernel_rfl) (by kernel_rfl) (fun _ _ _ h => h) (Or.inl ⟨by rfl, ?_⟩) (by assumption) ?_; rotate_left; (· (intro w hSw; (try dsimp only at hSw); go_simp <;> with_reducible rfl)); try simp only [Act.put, List.setIfInBounds_toArray, List.set_cons_zero, List.set_cons_succ])
      refine wpAnyH_ready (rs := [11]) (by kernel_rfl) (by simp) ?_
      refine AllReadyH.cons (by simp only [List.getElem?_toArray, List.getElem?_cons_zero, List.getElem?_cons_succ]; rfl) (fun K hK => ?_) AllReadyH.nil
      go_simp
      go_at_call 12
      refine (H12.out _ (by first | exact Below.refl _ _ | exact (Below.refl _ _).drew | exact below_dN (Below.refl _ _) _)).mono ?_
      rintro e w4 ⟨r', rfl, H4⟩
      refine hK.out _ _ ?_ (fun hHeld => ?_)
      · exact dds_of (HCL.out w4 (hBw.out _ (by obtain ⟨_, _, _, _, _, _, h⟩ := H4.out; exact h)))
      clear hK K
      try simp only [Act.put, List.setIfInBounds_toArray, List.set_cons_zero, List.set_cons_succ]
      refine wpAnyH_done (by kernel_rfl) ?_ _
      refine NoPanic.normal ?_
      clear hHeld
      clear H12 H3 p1 p2 p3
      obtain ⟨_, p1, p2, _, _⟩ := HCL.out w4 (hBw.out _ (by obtain ⟨_, _, _, _, _, _, h⟩ := H4.out; exact h))
      have H16 : Calls Try.prog 16 #[.pointer (some ⟨tb, 0, none⟩), .agg #[.int .i64 x1, .int .i64 x2]] w4 fun e w' => ∃ r, e = .returned (.bool r) ∧ Hid (∃ s' G' rs', Tw w' wB.heap.size tb rb wb (nn + 2) s' (askM m (x1, x2) nd) (setAt q (x1, x2) true) G' rt rs' ws ∧ Lk (askM m (x1, x2) nd) q rs' ws ∧ rs'.length ≤ k + 1 ∧ Below wB.heap.size wB w') := by
        obtain ⟨s', G', rs', h1, h2, h3, h4⟩ := H4.out
        obtain ⟨hdw, _, n1, _⟩ := HX.out
        refine (tw16 (x1, x2) h1 hdw (by omega) h4.size).mono ?_
        rintro e w' ⟨rfl, k1, k2⟩
        exact ⟨_, rfl, s', G', rs', k1, h2, h3, h4.trans k2⟩
      go_wp2_with fail
      refine H16.mono ?_
      rintro e w5 ⟨r2, rfl, H5⟩
      clear H16 H4 p1 p2
      obtain ⟨_, p1, p2, _, _⟩ := HCL.out w5 (hBw.out _ (by obtain ⟨_, _, _, _, _, _, h⟩ := H5.out; exact h))
      have H17 : Calls Try.prog 17 #[.pointer (some ⟨rt, 0, none⟩), .agg #[.int .i64 x1, .int .i64 x2]] w5 fun e w' => ∃ r, e = .returned (.bool r) ∧ Hid (Two wB w' tb rb wb rt (k + 1)) := by
        obtain ⟨s', G', rs', h1, h2, h3, h4⟩ := H5.out
        obtain ⟨hdw, _, n1, n2, n3, n4⟩ := HX.out
        refine (tw17 (x1, x2) h1 h2 hdw (by omega) h4.size).mono ?_
        rintro e w' ⟨rfl, G2, ws', k1, k2, k3, k4⟩
        exact ⟨_, rfl, _, s', _, _, G2, rs', ws', k1, k2, ⟨by omega, h3, by omega, askM_len n4⟩, h4.trans k4⟩
      go_wp2_with fail
      refine H17.mono ?_
      rintro e w6 ⟨r3, rfl, H6⟩
      clear H17 H5 p1 p2
      go_wp2_with fail
      go_roundw
      case rel => exact ⟨k + 1, by omega, by omega, by go_num, H6⟩
      case measure => simp [intOf]; omega
    · obtain ⟨wE, rfl⟩ : ∃ wE, wE = wr := ⟨_, rfl⟩
      have H22 : Calls Try.prog 22 #[.pointer (some ⟨tb, 0, none⟩), .agg #[.int .i64 v1, .int .i64 v2]] wE fun e w' => ∃ g j, e = .returned (.slice (some ⟨g, 0, none⟩) j j) ∧ Hid (Fm w' wE.heap.size 3 1 (some ⟨g, 0, none⟩) j ∧ Below wE.heap.size wE w' ∧ j ≤ 100) := by
        obtain ⟨nn, s, m, q, G, rs, ws, hT, hL, ⟨n1, n2, n3, n4⟩, hB⟩ := HK.out
        refine (o22 _ tb rb wb nn s m q (v1, v2) wE hT.tab HV.out.2.2.2.1 (by have := n4 (v1, v2); omega)).mono ?_
        rintro e w' ⟨g, j, rfl, h1, h2⟩
        exact ⟨g, j, rfl, Fm.row h1, h2, by have := h1.in.len; have := n4 (v1, v2); omega⟩
      obtain ⟨b0, b1⟩ := HC.out wE (by obtain ⟨_, _, _, _, _, _, _, _, _, _, h⟩ := HK.out; exact h)
      have hcond : (¬ (k : Int) < (n : Int)) ∨ ((k : Int) < (n : Int) ∧ ¬ (k : Int) < 100) := by omega
      clear hlt
      rcases hcond with hc1 | ⟨hc1, hc2⟩
      · go_wp2_with fail
        refine H22.mono ?_
        rintro e w3 ⟨g1, j1, rfl, H3⟩
        clear H22 b0 b1
        have H24 : Calls Try.prog 24 #[.pointer (some ⟨tb, 0, none⟩)] w3 fun e w' => ∃ a2 j2 c2, e = .returned (.slice a2 j2 c2) ∧ Hid (Fm w' wE.heap.size 28 2 a2 j2 ∧ Below w3.heap.size w3 w' ∧ j2 ≤ 1000000) := by
          obtain ⟨nn, s, m, q, G, rs, ws, hT, hL, ⟨n1, n2, n3, n4⟩, hB⟩ := HK.out
          refine (o24 _ tb rb wb nn s m q w3 (hT.below H3.out.2.1).tab (by omega)).mono ?_
          rintro e w' ⟨z, rfl, xs, ⟨_, h1⟩, ⟨a2, c2, rfl⟩, h3, h4⟩
          refine ⟨a2, _, c2, rfl, ?_, h4, by omega⟩
          rcases Fm.own h3 with e | ⟨g, cur, e, h5, h6, h7⟩
          · exact .inl e
          · exact .inr ⟨g, cur, e, by have := H3.out.2.1.size; omega, h6, h7⟩
        go_wp2_with fail
        refine H24.mono ?_
        rintro e w4 ⟨a2, j2, c2, rfl, H4⟩
        clear H24
        have H23 : Calls Try.prog 23 #[.pointer (some ⟨tb, 0, none⟩)] w4 fun e w' => ∃ a3 j3 c3, e = .returned (.slice a3 j3 c3) ∧ Hid (Wrt wE w' (some ⟨g1, 0, none⟩) a2 a3 j1 j2 j3 ∧ j3 ≤ 1000000) := by
          obtain ⟨nn, s, m, q, G, rs, ws, hT, hL, ⟨n1, n2, n3, n4⟩, hB⟩ := HK.out
          have hb4 : Below wE.heap.size wE w4 := H3.out.2.1.trans (H4.out.2.1.mono H3.out.2.1.size)
          refine (o23 _ tb rb wb nn s m q w4 (hT.below hb4).tab (by omega)).mono ?_
          rintro e w' ⟨z, rfl, xs, ⟨_, h1⟩, ⟨a3, c3, rfl⟩, h3, h4⟩
          refine ⟨a3, _, c3, rfl, ⟨hb4.trans (h4.mono hb4.size), (H3.out.1.below H4.out.2.1).below h4, H4.out.1.below h4, ?_⟩, by omega⟩
          rcases Fm.own h3 with e | ⟨g, cur, e, h5, h6, h7⟩
          · exact .inl e
          · exact .inr ⟨g, cur, e, by have := hb4.size; omega, h6, h7⟩
        go_wp2_with fail
        refine H23.mono ?_
        rintro e w5 ⟨a3, j3, c3, rfl, H5⟩
        clear H23
        have hj1 : j1 ≤ 100 := H3.out.2.2
        have hj2 : j2 ≤ 1000000 := H4.out.2.2
        have hj3 : j3 ≤ 1000000 := H5.out.2
        have HM0 : Hid (Wrt wE w5 (some ⟨g1, 0, none⟩) a2 a3 j1 j2 j3) := H5.out.1
        clear H3 H4 H5
        go_wp2_with fail
        go_loopw [11] (fun i wx => ∃ k : Nat, k ≤ j1 ∧ i = .int .i64 k ∧ Hid (Wrt wE wx (some ⟨g1, 0, none⟩) a2 a3 j1 j2 j3)) (fun i _ => j1 - (intOf i).toNat)
        case atStart => exact ⟨0, Nat.zero_le _, rfl, HM0⟩
        case round =>
          clear HM0
          obtain ⟨i, hi, rfl, HI⟩ := hrel
          by_cases hil : i < j1
          · have hilI : (i : Int) < (j1 : Int) := by omega
            have hi0 : (0 : Int) ≤ (i : Int) := by omega
            obtain ⟨g, u, eg, hg, q0, q1⟩ := HI.out.2.1.at (j := 0) hil (by omega)
            cases eg
            simp only [Nat.mul_one, Nat.add_zero] at q0 q1
            have HN : Hid (Wrt wE (wr.setCell ⟨g1, i, none⟩ (.int .i64 9)) (some ⟨g1, 0, none⟩) a2 a3 j1 j2 j3) := HI.out.set hg i (.int .i64 9)
            go_wp2_with fail
            go_roundw
            case rel => exact ⟨i + 1, by omega, by go_num, HN⟩
            case measure => simp [intOf]; omega
          · have hilI : ¬ (i : Int) < (j1 : Int) := by omega
            clear hi hil
            go_wp2_with fail
            go_loopw [12] (fun i wx => ∃ k : Nat, k ≤ j2 ∧ i = .int .i64 k ∧ Hid (Wrt wE wx (some ⟨g1, 0, none⟩) a2 a3 j1 j2 j3)) (fun i _ => j2 - (intOf i).toNat)
            case atStart => exact ⟨0, Nat.zero_le _, rfl, HI⟩
            case round =>
              clear HI hilI
              obtain ⟨i2, hi2, rfl, HI⟩ := hrel
              by_cases hil : i2 < j2
              · have hilI : (i2 : Int) < (j2 : Int) := by omega
                have hi0 : (0 : Int) ≤ (i2 : Int) := by omega
                obtain ⟨g, u, rfl, hg, q0, q1⟩ := HI.out.2.2.1.at (j := 1) hil (by omega)
                have HN : Hid (Wrt wE (wr.setCell ⟨g, i2 * 2 + 1, none⟩ (.int .i64 99)) (some ⟨g1, 0, none⟩) (some ⟨g, 0, none⟩) a3 j1 j2 j3) := HI.out.set hg (i2 * 2 + 1) (.int .i64 99)
                go_wp2_with fail
                go_roundw
                case rel => exact ⟨i2 + 1, by omega, by go_num, HN⟩
                case measure => simp [intOf]; omega
              · have hilI : ¬ (i2 : Int) < (j2 : Int) := by omega
                clear hi2 hil
                go_wp2_with fail
                go_loopw [13] (fun i wx => ∃ k : Nat, k ≤ j3 ∧ i = .int .i64 k ∧ Hid (Wrt wE wx (some ⟨g1, 0, none⟩) a2 a3 j1 j2 j3)) (fun i _ => j3 - (intOf i).toNat)
                case atStart => exact ⟨0, Nat.zero_le _, rfl, HI⟩
                case round =>
                  clear HI hilI
                  obtain ⟨i3, hi3, rfl, HI⟩ := hrel
                  by_cases hil : i3 < j3
                  · have hilI : (i3 : Int) < (j3 : Int) := by omega
                    have hi0 : (0 : Int) ≤ (i3 : Int) := by omega
                    obtain ⟨g, u, rfl, hg, q0, q1⟩ := HI.out.2.2.2.at (j := 1) hil (by omega)
                    have HN : Hid (Wrt wE (wr.setCell ⟨g, i3 * 2 + 1, none⟩ (.int .i64 99)) (some ⟨g1, 0, none⟩) a2 (some ⟨g, 0, none⟩) j1 j2 j3) := HI.out.set hg (i3 * 2 + 1) (.int .i64 99)
                    go_wp2_with fail
                    go_roundw
                    case rel => exact ⟨i3 + 1, by omega, by go_num, HN⟩
                    case measure => simp [intOf]; omega
                  · have hilI : ¬ (i3 : Int) < (j3 : Int) := by omega
                    have H21 : Calls Try.prog 21 #[] wr fun e w' => e = .returned (.bool true) ∧ Hid (Two wB w' tb rb wb rt k) := by
                      refine (o21 wr).mono ?_
                      rintro e w' ⟨rfl, hb⟩
                      exact ⟨rfl, (HK.out.below HI.out.1).below hb⟩
                    clear hi3 hil HI
                    go_wp2_with fail
                    refine H21.mono ?_
                    rintro e w7 ⟨rfl, H7⟩
                    clear H21
                    obtain ⟨b0, b1⟩ := HC.out w7 (by obtain ⟨_, _, _, _, _, _, _, _, _, _, h⟩ := H7.out; exact h)
                    have H20 : Calls Try.prog 20 #[.pointer (some ⟨tb, 0, none⟩), .pointer (some ⟨rt, 0, none⟩), .agg #[.int .i64 v1, .int .i64 v2]] w7 fun e w' => e = .returned (.bool true) ∧ Hid (Below w.heap.size w w') := by
                      obtain ⟨nn, s, m, q, G, rs, ws, hT, hL, ⟨n1, n2, n3, n4⟩, hB⟩ := H7.out
                      refine (o20 _ tb rb wb nn s m q G rt rs ws (v1, v2) w7 hT hL HV.out.2.2.2.1 (by omega) (by omega) (by omega) (by have := n4 (v1, v2); omega)).mono ?_
                      rintro e w' ⟨rfl, hb⟩
                      have h1 := HV.out.1.trans (hB.mono HV.out.1.size)
                      exact ⟨rfl, h1.trans (hb.mono h1.size)⟩
                    go_wp2_with fail
                    refine H20.mono ?_
                    rintro e w8 ⟨rfl, H8⟩
                    clear H20
                    go_wp2_with fail
                    go_ret
                    exact ⟨rfl, H8.out⟩
      · go_wp2_with fail
        refine H22.mono ?_
        rintro e w3 ⟨g1, j1, rfl, H3⟩
        clear H22 b0 b1
        have H24 : Calls Try.prog 24 #[.pointer (some ⟨tb, 0, none⟩)] w3 fun e w' => ∃ a2 j2 c2, e = .returned (.slice a2 j2 c2) ∧ Hid (Fm w' wE.heap.size 28 2 a2 j2 ∧ Below w3.heap.size w3 w' ∧ j2 ≤ 1000000) := by
          obtain ⟨nn, s, m, q, G, rs, ws, hT, hL, ⟨n1, n2, n3, n4⟩, hB⟩ := HK.out
          refine (o24 _ tb rb wb nn s m q w3 (hT.below H3.out.2.1).tab (by omega)).mono ?_
          rintro e w' ⟨z, rfl, xs, ⟨_, h1⟩, ⟨a2, c2, rfl⟩, h3, h4⟩
          refine ⟨a2, _, c2, rfl, ?_, h4, by omega⟩
          rcases Fm.own h3 with e | ⟨g, cur, e, h5, h6, h7⟩
          · exact .inl e
          · exact .inr ⟨g, cur, e, by have := H3.out.2.1.size; omega, h6, h7⟩
        go_wp2_with fail
        refine H24.mono ?_
        rintro e w4 ⟨a2, j2, c2, rfl, H4⟩
        clear H24
        have H23 : Calls Try.prog 23 #[.pointer (some ⟨tb, 0, none⟩)] w4 fun e w' => ∃ a3 j3 c3, e = .returned (.slice a3 j3 c3) ∧ Hid (Wrt wE w' (some ⟨g1, 0, none⟩) a2 a3 j1 j2 j3 ∧ j3 ≤ 1000000) := by
          obtain ⟨nn, s, m, q, G, rs, ws, hT, hL, ⟨n1, n2, n3, n4⟩, hB⟩ := HK.out
          have hb4 : Below wE.heap.size wE w4 := H3.out.2.1.trans (H4.out.2.1.mono H3.out.2.1.size)
          refine (o23 _ tb rb wb nn s m q w4 (hT.below hb4).tab (by omega)).mono ?_
          rintro e w' ⟨z, rfl, xs, ⟨_, h1⟩, ⟨a3, c3, rfl⟩, h3, h4⟩
          refine ⟨a3, _, c3, rfl, ⟨hb4.trans (h4.mono hb4.size), (H3.out.1.below H4.out.2.1).below h4, H4.out.1.below h4, ?_⟩, by omega⟩
          rcases Fm.own h3 with e | ⟨g, cur, e, h5, h6, h7⟩
          · exact .inl e
          · exact .inr ⟨g, cur, e, by have := hb4.size; omega, h6, h7⟩
        go_wp2_with fail
        refine H23.mono ?_
        rintro e w5 ⟨a3, j3, c3, rfl, H5⟩
        clear H23
        have hj1 : j1 ≤ 100 := H3.out.2.2
        have hj2 : j2 ≤ 1000000 := H4.out.2.2
        have hj3 : j3 ≤ 1000000 := H5.out.2
        have HM0 : Hid (Wrt wE w5 (some ⟨g1, 0, none⟩) a2 a3 j1 j2 j3) := H5.out.1
        clear H3 H4 H5
        go_wp2_with fail
        go_loopw [11] (fun i wx => ∃ k : Nat, k ≤ j1 ∧ i = .int .i64 k ∧ Hid (Wrt wE wx (some ⟨g1, 0, none⟩) a2 a3 j1 j2 j3)) (fun i _ => j1 - (intOf i).toNat)
        case atStart => exact ⟨0, Nat.zero_le _, rfl, HM0⟩
        case round =>
          clear HM0
          obtain ⟨i, hi, rfl, HI⟩ := hrel
          by_cases hil : i < j1
          · have hilI : (i : Int) < (j1 : Int) := by omega
            have hi0 : (0 : Int) ≤ (i : Int) := by omega
            obtain ⟨g, u, eg, hg, q0, q1⟩ := HI.out.2.1.at (j := 0) hil (by omega)
            cases eg
            simp only [Nat.mul_one, Nat.add_zero] at q0 q1
            have HN : Hid (Wrt wE (wr.setCell ⟨g1, i, none⟩ (.int .i64 9)) (some ⟨g1, 0, none⟩) a2 a3 j1 j2 j3) := HI.out.set hg i (.int .i64 9)
            go_wp2_with fail
            go_roundw
            case rel => exact ⟨i + 1, by omega, by go_num, HN⟩
            case measure => simp [intOf]; omega
          · have hilI : ¬ (i : Int) < (j1 : Int) := by omega
            clear hi hil
            go_wp2_with fail
            go_loopw [12] (fun i wx => ∃ k : Nat, k ≤ j2 ∧ i = .int .i64 k ∧ Hid (Wrt wE wx (some ⟨g1, 0, none⟩) a2 a3 j1 j2 j3)) (fun i _ => j2 - (intOf i).toNat)
            case atStart => exact ⟨0, Nat.zero_le _, rfl, HI⟩
            case round =>
              clear HI hilI
              obtain ⟨i2, hi2, rfl, HI⟩ := hrel
              by_cases hil : i2 < j2
              · have hilI : (i2 : Int) < (j2 : Int) := by omega
                have hi0 : (0 : Int) ≤ (i2 : Int) := by omega
                obtain ⟨g, u, rfl, hg, q0, q1⟩ := HI.out.2.2.1.at (j := 1) hil (by omega)
                have HN : Hid (Wrt wE (wr.setCell ⟨g, i2 * 2 + 1, none⟩ (.int .i64 99)) (some ⟨g1, 0, none⟩) (some ⟨g, 0, none⟩) a3 j1 j2 j3) := HI.out.set hg (i2 * 2 + 1) (.int .i64 99)
                go_wp2_with fail
                go_roundw
                case rel => exact ⟨i2 + 1, by omega, by go_num, HN⟩
                case measure => simp [intOf]; omega
              · have hilI : ¬ (i2 : Int) < (j2 : Int) := by omega
                clear hi2 hil
                go_wp2_with fail
                go_loopw [13] (fun i wx => ∃ k : Nat, k ≤ j3 ∧ i = .int .i64 k ∧ Hid (Wrt wE wx (some ⟨g1, 0, none⟩) a2 a3 j1 j2 j3)) (fun i _ => j3 - (intOf i).toNat)
                case atStart => exact ⟨0, Nat.zero_le _, rfl, HI⟩
                case round =>
                  clear HI hilI
                  obtain ⟨i3, hi3, rfl, HI⟩ := hrel
                  by_cases hil : i3 < j3
                  · have hilI : (i3 : Int) < (j3 : Int) := by omega
                    have hi0 : (0 : Int) ≤ (i3 : Int) := by omega
                    obtain ⟨g, u, rfl, hg, q0, q1⟩ := HI.out.2.2.2.at (j := 1) hil (by omega)
                    have HN : Hid (Wrt wE (wr.setCell ⟨g, i3 * 2 + 1, none⟩ (.int .i64 99)) (some ⟨g1, 0, none⟩) a2 (some ⟨g, 0, none⟩) j1 j2 j3) := HI.out.set hg (i3 * 2 + 1) (.int .i64 99)
                    go_wp2_with fail
                    go_roundw
                    case rel => exact ⟨i3 + 1, by omega, by go_num, HN⟩
                    case measure => simp [intOf]; omega
                  · have hilI : ¬ (i3 : Int) < (j3 : Int) := by omega
                    have H21 : Calls Try.prog 21 #[] wr fun e w' => e = .returned (.bool true) ∧ Hid (Two wB w' tb rb wb rt k) := by
                      refine (o21 wr).mono ?_
                      rintro e w' ⟨rfl, hb⟩
                      exact ⟨rfl, (HK.out.below HI.out.1).below hb⟩
                    clear hi3 hil HI
                    go_wp2_with fail
                    refine H21.mono ?_
                    rintro e w7 ⟨rfl, H7⟩
                    clear H21
                    obtain ⟨b0, b1⟩ := HC.out w7 (by obtain ⟨_, _, _, _, _, _, _, _, _, _, h⟩ := H7.out; exact h)
                    have H20 : Calls Try.prog 20 #[.pointer (some ⟨tb, 0, none⟩), .pointer (some ⟨rt, 0, none⟩), .agg #[.int .i64 v1, .int .i64 v2]] w7 fun e w' => e = .returned (.bool true) ∧ Hid (Below w.heap.size w w') := by
                      obtain ⟨nn, s, m, q, G, rs, ws, hT, hL, ⟨n1, n2, n3, n4⟩, hB⟩ := H7.out
                      refine (o20 _ tb rb wb nn s m q G rt rs ws (v1, v2) w7 hT hL HV.out.2.2.2.1 (by omega) (by omega) (by omega) (by have := n4 (v1, v2); omega)).mono ?_
                      rintro e w' ⟨rfl, hb⟩
                      have h1 := HV.out.1.trans (hB.mono HV.out.1.size)
                      exact ⟨rfl, h1.trans (hb.mono h1.size)⟩
                    go_wp2_with fail
                    refine H20.mono ?_
                    rintro e w8 ⟨rfl, H8⟩
                    clear H20
                    go_wp2_with fail
                    go_ret
                    exact ⟨rfl, H8.out⟩
end Go.Proofs.Ytdonclnjgopmbaa
