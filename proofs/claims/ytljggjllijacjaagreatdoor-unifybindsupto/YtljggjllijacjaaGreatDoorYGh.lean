/- Contract of the program's Solve. -/
import Derived.Test.YtljggjllijacjaaGreatDoorYFh
namespace Go.Proofs.YtljggjllijacjaaGreatDoor
open Go.RowKit
attribute [local go_sem ↓] Go.wp_at_zero Go.wp_at_succ
/-- A map, or none, of at most so many values. -/
def HpQ (w : World) (p : Value) (m : Hp) (n0 : Nat) : Prop := (p = .pointer none ∧ m = []) ∨ ∃ h0 M0 n D, ∃ V : Nat → Prop, p = .pointer (some ⟨h0, 0, none⟩) ∧ HpAt w h0 M0 n D m ∧ VB D V ∧ (∀ g, V g → g < w.heap.size) ∧ n ≤ n0
theorem HpQ.below {w w' : World} {p : Value} {m : Hp} {n0 : Nat} (h : HpQ w p m n0) (hb : Below w.heap.size w w') : HpQ w' p m n0 := by
  rcases h with h | ⟨h0, M0, n, D, V, h1, h2, h3, h4, h5⟩
  · exact .inl h
  · exact .inr ⟨h0, M0, n, D, V, h1, h2.below hb, h3, fun g hg => Nat.lt_of_lt_of_le (h4 g hg) hb.size, h5⟩
/-- What is to be solved, at its start. -/
def Sta0 (m : Hp) (ls : List (List C)) : Sta := ⟨m, ls, [], 0⟩
theorem sq_start {w w' : World} {m : Hp} {ls : List (List C)} {sb hb M n n0 : Nat} {D : DataW Value} {V : Nat → Prop} {rv : Value} (hn : n ≤ n0) (h1 : SvAt w' sb hb (.slice none 0 0) rv 0) (h2 : HpAt w' hb M n D m) (h3 : OwnRow w' w.heap.size rv ls.reverse) (hbel : Below w.heap.size w w') (l1 : w.heap.size ≤ sb) (l2 : w.heap.size ≤ hb) (l3 : w.heap.size ≤ M) (hV : VB D V) (hVl : ∀ g, V g → g < w.heap.size) : Sq w' w.heap.size sb hb M n0 (Sta0 m ls) := by
  obtain ⟨us, o1, o2, o3⟩ := h3
  rw [List.length_reverse] at o1
  refine ⟨.slice none 0 0, rv, n, D, V, [], us, hn, ⟨h1, World.ownsRow_nil _ _ _ _, o1, rfl, fun j u b h => by simp at h, o2, fun j j' x y g _ h => by simp at h, o3, fun t h => by simp at h, h2, hV, fun g hg => ?_, l1, l2, l3, hbel.size⟩⟩
  have h4 := hVl g hg
  refine ⟨by have := hbel.size; omega, by omega, by simp [Value.ownBlock], fun e => ?_⟩
  have := (o1.lt g e).1
  omega
theorem z59all (m : Hp) (p : Value) (n0 : Nat) (ls : List (List C)) (v : Value) (w : World) (hp : HpQ w p m n0) (h : RowAt w v ls) (hby : ∀ l ∈ ls, l.length * 48 ≤ 140737488355328) (hln : ls.length * 24 ≤ 140737488355328) :
    Calls Tryz.prog 59 #[p, v] w fun e w' => ∃ sb hb M, e = .returned (.pointer (some ⟨sb, 0, none⟩)) ∧ Hid (Sq w' w.heap.size sb hb M n0 (Sta0 m ls) ∧ Below w.heap.size w w') := by
  rcases hp with ⟨rfl, rfl⟩ | ⟨h0, M0, n, D, V, rfl, h2, h3, h4, h5⟩
  · refine (u48 ls v w h hby hln).mono ?_
    rintro e w' ⟨sb, hb, M, rv, rfl, k1, k2, k3, k4, k5, k6, k7⟩
    refine ⟨sb, hb, M, rfl, sq_start (V := fun _ => False) (Nat.zero_le _) k1 k2 k3 k4 k5 k6 k7 (fun x v hx hv g hg => ?_) (fun g hg => hg.elim), k4⟩
    have e1 := Maps.has_true_of_atKey hv
    rw [k2.no x hx rfl] at e1
    simp at e1
  · refine (z59 m h0 M0 n D ls v w h2 h hby hln).mono ?_
    rintro e w' ⟨sb, hb, M, rv, rfl, k1, k2, k3, k4, k5, k6, k7⟩
    exact ⟨sb, hb, M, rfl, sq_start h5 k1 k2 k3 k4 k5 k6 k7 h3 h4, k4⟩
theorem svR_keep {B : Nat} {w w' : World} {bv lv : Value} {bd : List (Nm × List C)} {left : List (List C)} (h : SvR B w bv lv bd left) (hk : ∀ k, B ≤ k → w'.heap[k]? = w.heap[k]?) : SvR B w' bv lv bd left := by
  obtain ⟨ts, us, h1, h2, h3, h4, h5, h6⟩ := h
  have ho : ∀ {e s n : Nat} {v : Value} {xs : List Value}, w.ownsRow B e s v n xs → w'.ownsRow B e s v n xs := fun {e s n v xs} h => owns_eq2 h fun g hg => hk g (h.lt g hg).1
  exact ⟨ts, us, ho h1, ho h2, h3, fun j u b k1 k2 => ho (h4 j u b k1 k2), fun j u l k1 k2 => ho (h5 j u l k1 k2), h6⟩
theorem svR_base {B B' : Nat} {w : World} {bv lv : Value} {bd : List (Nm × List C)} {left : List (List C)} (h : SvR B w bv lv bd left) (hb : B' ≤ B) : SvR B' w bv lv bd left := by
  obtain ⟨ts, us, h1, h2, h3, h4, h5, h6⟩ := h
  exact ⟨ts, us, rows_base h1 hb, rows_base h2 hb, h3, fun j u b k1 k2 => rows_base (h4 j u b k1 k2) hb, fun j u l k1 k2 => rows_base (h5 j u l k1 k2) hb, h6⟩
/-- What comes of equations. -/
noncomputable def slvF (m : Hp) (ls : List (List C)) (N : Int) : Sol := if ls.any noneB then ⟨2, [], [], 0⟩ else solF N.toNat (Sta0 m ls)
/-- The box of the answer, and what stays ahead of it. -/
structure Bx (w : World) (rz : Nat) (wn : World) : Prop where
  blk : wn.heap[rz]? = some (.cells #[.int .u8 0, .slice none 0 0, .slice none 0 0, .int .i64 0] 62 (0, 0))
  bel : Below w.heap.size w wn
  low : w.heap.size = rz
theorem Bx.cells {w wn : World} {rz : Nat} (h : Bx w rz wn) : (wn.cell? ⟨rz, 0, none⟩ = some (.int .u8 0) ∧ wn.cell? ⟨rz, 1, none⟩ = some (.slice none 0 0) ∧ wn.cell? ⟨rz, 2, none⟩ = some (.slice none 0 0) ∧ wn.cell? ⟨rz, 3, none⟩ = some (.int .i64 0)) ∧ wn.frozen? ⟨rz, 0, none⟩ = false ∧ wn.frozen? ⟨rz, 1, none⟩ = false ∧ wn.frozen? ⟨rz, 2, none⟩ = false ∧ wn.frozen? ⟨rz, 3, none⟩ = false := by
  refine ⟨⟨?_, ?_, ?_, ?_⟩, frozen_of_row wn rz 0 _ 62 h.blk, frozen_of_row wn rz 1 _ 62 h.blk, frozen_of_row wn rz 2 _ 62 h.blk, frozen_of_row wn rz 3 _ 62 h.blk⟩ <;> (rw [cell_of_row wn rz _ _ 62 (0, 0) h.blk]; rfl)
theorem Bx.next {w wn wm : World} {rz B : Nat} (h : Bx w rz wn) (hb : Below B wn wm) (hB : rz < B) : Bx w rz wm := by
  have h1 := h.low
  exact ⟨(hb.block rz hB).trans h.blk, h.bel.trans (hb.mono (by omega)), h1⟩
theorem Bx.fill {w wn : World} {rz : Nat} (h : Bx w rz wn) (a b c d : Value) : Below w.heap.size w ((((wn.setCell ⟨rz, 0, none⟩ a).setCell ⟨rz, 1, none⟩ b).setCell ⟨rz, 2, none⟩ c).setCell ⟨rz, 3, none⟩ d) ∧ ∀ k, k ≠ rz → ((((wn.setCell ⟨rz, 0, none⟩ a).setCell ⟨rz, 1, none⟩ b).setCell ⟨rz, 2, none⟩ c).setCell ⟨rz, 3, none⟩ d).heap[k]? = wn.heap[k]? := by
  have h1 : w.heap.size ≤ rz := Nat.le_of_eq h.low
  refine ⟨(((h.bel.setCell (p := ⟨rz, 0, none⟩) h1 a).setCell (p := ⟨rz, 1, none⟩) h1 b).setCell (p := ⟨rz, 2, none⟩) h1 c).setCell (p := ⟨rz, 3, none⟩) h1 d, fun k hk => ?_⟩
  rw [heap_setCell_other _ ⟨rz, 3, none⟩ k _ hk, heap_setCell_other _ ⟨rz, 2, none⟩ k _ hk, heap_setCell_other _ ⟨rz, 1, none⟩ k _ hk, heap_setCell_other _ ⟨rz, 0, none⟩ k _ hk]
theorem solF_none {g : Nat} {s : Sta} (h : s.row = []) : solF g s = ⟨1, s.bd, [], s.d⟩ := by
  cases g <;> (unfold solF; rw [h])
theorem solF_zero {s : Sta} {t : List C} {r : List (List C)} (h : s.row = t :: r) : solF 0 s = ⟨3, s.bd, t :: r, s.d⟩ := by
  unfold solF; rw [h]
theorem solF_clash {g : Nat} {s : Sta} {t : List C} {r : List (List C)} (h : s.row = t :: r) (hk : (nxK s t).k = 4) : solF (g + 1) s = ⟨2, [], [], s.d + 1⟩ := by
  unfold solF; rw [h]; simp [hk]
theorem solF_next {g : Nat} {s : Sta} {t : List C} {r : List (List C)} (h : s.row = t :: r) (hk : (nxK s t).k ≠ 4) : solF (g + 1) s = solF g (nxS s t r) := by
  conv => lhs; unfold solF
  rw [h]; simp [hk]
/-- The record's cells. -/
theorem Sq.cells {w : World} {B sb hb M n0 : Nat} {s : Sta} (h : Sq w B sb hb M n0 s) : ∃ bv ra rc, (w.cell? ⟨sb, 0, none⟩ = some (.int .u8 0) ∧ w.cell? ⟨sb, 1, none⟩ = some bv ∧ w.cell? ⟨sb, 2, none⟩ = some (.slice none 0 0) ∧ w.cell? ⟨sb, 3, none⟩ = some (.int .i64 (s.d : Int)) ∧ w.cell? ⟨sb, 4, none⟩ = some (.pointer (some ⟨hb, 0, none⟩)) ∧ w.cell? ⟨sb, 5, none⟩ = some (.slice ra s.row.length rc)) := by
  obtain ⟨bv, rv, n, D, V, ts, us, hn, hsc⟩ := h
  obtain ⟨ra, rc, hrf⟩ := rowv_form' hsc.ro
  subst hrf
  have hs := hsc.rc
  refine ⟨bv, ra, rc, ?_, ?_, ?_, ?_, ?_, ?_⟩ <;> (rw [cell_of_row w sb _ _ 104 (0, 0) hs]; rfl)
set_option maxRecDepth 100000 in
set_option maxHeartbeats 8000000 in
theorem y20 (m : Hp) (p : Value) (n0 : Nat) (N : Int) (ls : List (List C)) (v : Value) (w : World) (hp : HpQ w p m n0) (hW : HpW m) (h : RowAt w v ls) (hwf : ∀ l ∈ ls, WfT l) (hby : ∀ l ∈ ls, l.length * 48 ≤ 140737488355328) (hln : ls.length ≤ n0) (hn0 : n0 ≤ 100000000) (hS : Signs w) (hN : N ≤ 100000) :
    Calls Tryz.prog 20 #[p, .int .i64 N, v] w fun e w' => SoR w.heap.size (slvF m ls N).out (slvF m ls N).bd (slvF m ls N).left (slvF m ls N).st e w w' := by
  have hpf : ∃ q, p = .pointer q := by
    rcases hp with ⟨h, _⟩ | ⟨_, _, _, _, _, h, _⟩ <;> exact ⟨_, h⟩
  obtain ⟨pq, rfl⟩ := hpf
  obtain ⟨a, c, hf⟩ := h.form
  subst hf
  obtain ⟨SOL, hSOL⟩ : ∃ x, slvF m ls N = x := ⟨_, rfl⟩
  have HX : Hid (slvF m ls N = SOL) := hSOL
  rw [hSOL]
  clear hSOL
  have HB0 : Hid (Below w.heap.size w (w.alloc (.cells #[.int .u8 0, .slice none 0 0, .slice none 0 0, .int .i64 0] 62)) ∧ (w.alloc (.cells #[.int .u8 0, .slice none 0 0, .slice none 0 0, .int .i64 0] 62)).heap[w.heap.size]? = some (.cells #[.int .u8 0, .slice none 0 0, .slice none 0 0, .int .i64 0] 62 (0, 0)) ∧ (w.alloc (.cells #[.int .u8 0, .slice none 0 0, .slice none 0 0, .int .i64 0] 62)).heap.size = w.heap.size + 1) := ⟨below_alloc _ _, heap_alloc_new w _, by simp⟩
  have HV : Hid (HpQ w (.pointer pq) m n0 ∧ HpW m ∧ RowAt w (.slice a ls.length c) ls ∧ (∀ l ∈ ls, WfT l) ∧ (∀ l ∈ ls, l.length * 48 ≤ 140737488355328) ∧ ls.length ≤ n0 ∧ Signs w) := ⟨hp, hW, h, hwf, hby, hln, hS⟩
  have H57 : Calls Tryz.prog 57 #[.slice a ls.length c, .func (.func 58) #[] #[]] (w.alloc (.cells #[.int .u8 0, .slice none 0 0, .slice none 0 0, .int .i64 0] 62)) fun e w' => e = .returned (.bool (ls.any noneB)) ∧ Below (w.alloc (.cells #[.int .u8 0, .slice none 0 0, .slice none 0 0, .int .i64 0] 62)).heap.size (w.alloc (.cells #[.int .u8 0, .slice none 0 0, .slice none 0 0, .int .i64 0] 62)) w' := u46 ls _ _ (h.below HB0.out.1) (hS.below HB0.out.1)
  obtain ⟨q, hq⟩ : ∃ q, ls.length = q := ⟨_, rfl⟩
  have HQ : Hid (ls.length = q) := hq
  rw [hq] at H57
  rw [hq]
  clear hp hW h hwf hby hln hS hq
  go_enter Tryz.func20, Tryz.ntmps20
  go_wp2_with fail
  obtain ⟨W0, hW0⟩ : ∃ W0, w.alloc (.cells #[.int .u8 0, .slice none 0 0, .slice none 0 0, .int .i64 0] 62) = W0 := ⟨_, rfl⟩
  obtain ⟨rz, hrz⟩ : ∃ rz, w.heap.size = rz := ⟨_, rfl⟩
  rw [hW0] at H57 HB0 ⊢
  rw [hrz]
  have HBX : Hid (Bx w rz W0 ∧ W0.heap.size = rz + 1) := ⟨⟨by rw [← hrz]; exact HB0.out.2.1, HB0.out.1, hrz⟩, by rw [← hrz]; exact HB0.out.2.2⟩
  clear hW0 HB0 hrz
  refine H57.mono ?_
  rintro e w1 ⟨rfl, hb1⟩
  clear H57
  have HB1 : Hid (Bx w rz w1 ∧ rz < w1.heap.size) := ⟨HBX.out.1.next hb1 (by have := HBX.out.2; omega), by have := hb1.size; have := HBX.out.2; omega⟩
  clear hb1 HBX
  cases hany : ls.any noneB
  · have HSN : Hid (solF N.toNat (Sta0 m ls) = SOL) := by
      have h := HX.out
      unfold slvF at h
      rw [hany] at h
      exact h
    have HOk : Hid (StaOk (Sta0 m ls) n0) := by
      refine ⟨HV.out.2.1, fun t ht => ⟨?_, HV.out.2.2.2.1 t ht⟩, fun b hb => (by cases hb), (by have := HV.out.2.2.2.2.2.1; show ls.length ≤ n0 + 8 * 0; omega), Nat.le_refl _⟩
      have h1 : noneB t = false := by
        cases h2 : noneB t
        · rfl
        · have h3 : ls.any noneB = true := List.any_eq_true.2 ⟨t, ht, h2⟩
          rw [h3] at hany
          cases hany
      unfold noneB at h1
      simp only [Bool.or_eq_false_iff, Bool.not_eq_false'] at h1
      exact sht_right (global_right h1.1)
    have H59 : Calls Tryz.prog 59 #[.pointer pq, .slice a q c] w1 fun e w' => ∃ sb hb M, e = .returned (.pointer (some ⟨sb, 0, none⟩)) ∧ Hid (Sq w' w1.heap.size sb hb M n0 (Sta0 m ls) ∧ Below w1.heap.size w1 w') := by
      have hl := HV.out.2.2.2.2.2.1
      have h := z59all m (.pointer pq) n0 ls _ w1 (HV.out.1.below HB1.out.1.bel) (HV.out.2.2.1.below HB1.out.1.bel) HV.out.2.2.2.2.1 (by omega)
      rw [HQ.out] at h
      exact h
    have HSg : Hid (Signs w1) := HV.out.2.2.2.2.2.2.below HB1.out.1.bel
    clear HX HV hany HQ
    go_wp2_with fail
    refine H59.mono ?_
    rintro e w2 ⟨sb, hb, M, rfl, H2⟩
    clear H59
    obtain ⟨B, hB⟩ : ∃ B, w1.heap.size = B := ⟨_, rfl⟩
    have HB2 : Hid (Sq w2 B sb hb M n0 (Sta0 m ls) ∧ Bx w rz w2 ∧ rz < B ∧ Signs w2 ∧ B ≤ w2.heap.size) := by
      rw [← hB]
      exact ⟨H2.out.1, HB1.out.1.next H2.out.2 HB1.out.2, HB1.out.2, HSg.out.below H2.out.2, H2.out.2.size⟩
    clear H2 HB1 HSg hB
    go_wp2_with fail
    go_loopg [] (N.toNat) (fun gg wr => ∃ s : Sta, s.d + gg = N.toNat ∧ Hid (Sq wr B sb hb M n0 s ∧ StaOk s n0 ∧ solF gg s = SOL ∧ Below B w2 wr))
    case atStart => exact ⟨Sta0 m ls, Nat.zero_add _, HB2.out.1, HOk.out, HSN.out, Below.refl _ _⟩
    case round =>
      obtain ⟨s, hsg, HI⟩ := hrel
      obtain ⟨bv, ra, rc, x0, x1, x2, x3, x4, x5⟩ := HI.out.1.cells
      cases hrow : s.row with
      | nil =>
        have H61 := y61_no B sb hb M n0 s wr hrow HI.out.1
        rw [hrow] at x5
        simp only [List.length_nil] at x5
        have HSO : Hid (SOL = ⟨1, s.bd, [], s.d⟩) := HI.out.2.2.1.symm.trans (solF_none hrow)
        clear hrow
        go_wp2_with fail
        refine H61.mono ?_
        rintro e w5 ⟨ba, bn, bc, la, ln, lc, rfl, H5⟩
        have HB5 : Hid (Bx w rz w5) := (HB2.out.2.1.next (HI.out.2.2.2.trans H5.out.2) HB2.out.2.2.1)
        obtain ⟨⟨y0, y1, y2, y3⟩, g0, g1, g2, g3⟩ := HB5.out.cells
        clear H61 x0 x1 x2 x3 x4 x5
        go_wp2_with fail
        refine bodyPost_ret (v := .agg #[.int .u8 1, .slice ba bn bc, .slice la ln lc, .int .i64 (s.d : Int)]) (by simp [results, Tryz.results20, go_sem, y0, y1, y2, y3]) rfl ?_
        rw [HSO.out]
        have hlow := HB5.out.low
        have hrB := HB2.out.2.2.1
        exact ⟨ba, bn, bc, la, ln, lc, rfl, svR_base (svR_keep H5.out.1 fun k hk => (HB5.out.fill _ _ _ _).2 k (by omega)) (by omega), (HB5.out.fill _ _ _ _).1⟩
      | cons t r =>
        obtain ⟨q1, hq1⟩ : ∃ q1, s.row.length = q1 := ⟨_, rfl⟩
        have hq1p : (0 : Int) < (q1 : Int) := by rw [hrow] at hq1; simp at hq1; omega
        have hOk := HI.out.2.1
        have hq1l : q1 ≤ 1000000000 := by have := hOk.len; omega
        rw [hq1] at x5
        cases gk with
        | zero =>
          have H61 := y61_some B sb hb M n0 s wr (by rw [hrow]; simp) (by omega) HI.out.1
          have hnl : ¬ (s.d : Int) < N := by omega
          have HSO : Hid (SOL = ⟨3, s.bd, s.row, s.d⟩) := by
            have h := HI.out.2.2.1.symm.trans (solF_zero hrow)
            rw [hrow]
            exact h
          clear hrow hq1 hOk
          go_wp2_with fail
          refine H61.mono ?_
          rintro e w5 ⟨ba, bn, bc, la, ln, lc, rfl, H5⟩
          have HB5 : Hid (Bx w rz w5) := (HB2.out.2.1.next (HI.out.2.2.2.trans H5.out.2) HB2.out.2.2.1)
          obtain ⟨⟨y0, y1, y2, y3⟩, g0, g1, g2, g3⟩ := HB5.out.cells
          clear H61 x0 x1 x2 x3 x4 x5
          go_wp2_with fail
          refine bodyPost_ret (v := .agg #[.int .u8 3, .slice ba bn bc, .slice la ln lc, .int .i64 (s.d : Int)]) (by simp [results, Tryz.results20, go_sem, y0, y1, y2, y3]) rfl ?_
          rw [HSO.out]
          have hlow := HB5.out.low
          have hrB := HB2.out.2.2.1
          exact ⟨ba, bn, bc, la, ln, lc, rfl, svR_base (svR_keep H5.out.1 fun k hk => (HB5.out.fill _ _ _ _).2 k (by omega)) (by omega), (HB5.out.fill _ _ _ _).1⟩
        | succ gg =>
          have hnl : (s.d : Int) < N := by omega
          have H60 := y60 B sb hb M n0 s t r wr hrow hOk HI.out.1 (signs_low HB2.out.2.2.2.1 HI.out.2.2.2 (by have := HB2.out.2.2.1; omega) HB2.out.2.2.2.2) (by have := HB2.out.2.2.1; omega) (by omega) hn0
          have HN : Hid (s.row = t :: r) := hrow
          clear hrow hq1 hOk
          cases hk4 : ((nxK s t).k == 4)
          · have hne : (nxK s t).k ≠ 4 := by simpa using hk4
            rw [hk4] at H60
            have HNX : Hid (solF gg (nxS s t r) = SOL ∧ StaOk (nxS s t r) n0 ∧ (nxS s t r).d = s.d + 1 ∧ (nxK s t).k ≠ 4) := ⟨(solF_next HN.out hne).symm.trans HI.out.2.2.1, HI.out.2.1.next HN.out, rfl, hne⟩
            clear hk4 hne
            go_wp2_with fail
            refine H60.mono ?_
            rintro e w5 ⟨rfl, hb5, hq5, _⟩
            have HQ5 : Hid (Sq w5 B sb hb M n0 (nxS s t r) ∧ Below B w2 w5) := ⟨hq5 HNX.out.2.2.2, HI.out.2.2.2.trans hb5⟩
            clear H60 hb5 hq5 x0 x1 x2 x3 x4 x5
            go_wp2_with fail
            go_roundg gg
            case rel => exact ⟨nxS s t r, by have := HNX.out.2.2.1; omega, HQ5.out.1, HNX.out.2.1, HNX.out.1, HQ5.out.2⟩
            case measure => omega
          · have hne : (nxK s t).k = 4 := by simpa using hk4
            rw [hk4] at H60
            have HSO : Hid (SOL = ⟨2, [], [], s.d + 1⟩ ∧ (nxK s t).k = 4) := ⟨HI.out.2.2.1.symm.trans (solF_clash HN.out hne), hne⟩
            clear hk4 hne
            go_wp2_with fail
            refine H60.mono ?_
            rintro e w5 ⟨rfl, hb5, _, hq5⟩
            obtain ⟨bv5, rv5, hs5⟩ := hq5 HSO.out.2
            have HB5 : Hid (Bx w rz w5) := (HB2.out.2.1.next (HI.out.2.2.2.trans hb5) HB2.out.2.2.1)
            obtain ⟨⟨y0, y1, y2, y3⟩, g0, g1, g2, g3⟩ := HB5.out.cells
            have z3 : w5.cell? ⟨sb, 3, none⟩ = some (.int .i64 ((s.d + 1 : Nat) : Int)) := by rw [cell_of_row w5 sb _ _ 104 (0, 0) hs5]; rfl
            clear H60 hb5 hq5 hs5 x0 x1 x2 x3 x4 x5
            go_wp2_with fail
            refine bodyPost_ret (v := .agg #[.int .u8 2, .slice none 0 0, .slice none 0 0, .int .i64 ((s.d + 1 : Nat) : Int)]) (by simp [results, Tryz.results20, go_sem, y0, y1, y2, y3]) rfl ?_
            rw [HSO.out.1]
            exact ⟨none, 0, 0, none, 0, 0, rfl, svR_nil _ _, (HB5.out.fill _ _ _ _).1⟩
  · have HF : Hid (SOL = ⟨2, [], [], 0⟩) := by
      have h := HX.out
      unfold slvF at h
      rw [hany] at h
      exact h.symm
    obtain ⟨⟨y0, y1, y2, y3⟩, g0, g1, g2, g3⟩ := HB1.out.1.cells
    clear HX HV hany
    go_wp2_with fail
    refine bodyPost_ret (v := .agg #[.int .u8 2, .slice none 0 0, .slice none 0 0, .int .i64 0]) (by simp [results, Tryz.results20, go_sem, y0, y1, y2, y3]) rfl ?_
    rw [HF.out]
    exact ⟨none, 0, 0, none, 0, 0, rfl, svR_nil _ _, (HB1.out.1.fill _ _ _ _).1⟩
end Go.Proofs.YtljggjllijacjaaGreatDoor
