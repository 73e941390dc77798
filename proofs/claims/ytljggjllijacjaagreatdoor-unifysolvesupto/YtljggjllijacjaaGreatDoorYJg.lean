/- Contract of the document's Solve. -/
import Derived.Test.YtljggjllijacjaaGreatDoorYHxg
namespace Go.Proofs.YtljggjllijacjaaGreatDoor
open Go.RowKit
attribute [local go_sem ↓] Go.wp_at_zero Go.wp_at_succ
/-- A term stays where a block of less than five cells is written. -/
theorem TermAt.pastS {w w' : World} {g : Nat} {v : Value} {l : List C} (h : TermAt w v l) (hg : w.grownBy w' (some g)) {cur : Array Value} {e : TypeId} {fr : Nat × Nat} (hc : w.heap[g]? = some (.cells cur e fr)) (hs : cur.size < 5) : TermAt w' v l := by
 obtain ⟨h0, h⟩ := h
 refine ⟨h0, ?_⟩
 rcases h with h | ⟨b, o, cap, h1, h2, h5, h3, h4⟩
 ·exact Or.inl h
 ·refine Or.inr ⟨b, o, cap, h1, h2, h5, ?_, Nat.lt_of_lt_of_le h4 hg.size⟩
  cases l with
  | nil => intro j u hu; simp [flat] at hu
  | cons x r =>
   have hne : some b ≠ some g := fun e2 => by
    have h6 := h3 4 (.int .i64 x.vk) (by simp [flat, C.vals])
    cases e2
    rw [cell_of_row w g (o + 4) cur e fr hc] at h6
    have := (Array.getElem?_eq_some_iff.1 h6).1
    omega
   intro j u hu
   exact (World.cell?_of_block (a := ⟨b, o + j, none⟩) (hg.block b h4 hne)).trans (h3 j u hu)
section
variable {w w' : World} {B rt n : Nat} {m : Hp} {row : List (List C)} {bd : List (Nm × List C)} {lv bv : Value} {us : List Value} {bb : List Bn} {G : Nat → Prop} {bs : List Bn}
/-- What is told of it where the answer's box is written. -/
theorem Dl.tell (h : Dl w B rt m row bd n lv bv us bb G bs) (hl : row.length ≤ maxLen) {g : Nat} (hg : w.grownBy w' (some g)) (hgB : g < B) {cur : Array Value} {e : TypeId} {fr : Nat × Nat} (hc : w.heap[g]? = some (.cells cur e fr)) (hs : cur.size < 5) : (∀ ba bn bc, bv = .slice ba bn bc → ∃ bb : List Bn, hpOf bb = bd ∧ Bs w' ba bn bb ∧ ∀ b ∈ bb, TermAt w' b.v b.l) ∧ RowAt w' lv row := by
 have hk : ∀ {e s n : Nat} {v : Value} {xs : List Value}, w.ownsRow B e s v n xs → w'.ownsRow B e s v n xs := fun {e s n v xs} ho => owns_eq2 ho fun k hk => hg.block k (ho.lt k hk).2 fun e2 => by
  have h1 := (ho.lt k hk).1
  simp only [Option.some.injEq] at e2
  omega
 refine ⟨fun ba bn bc hbv => ?_, hl, ?_⟩
 ·subst hbv
  obtain ⟨a, c, e1, _, e3⟩ := own_sl (hk h.bo)
  simp only [Value.slice.injEq] at e1
  obtain ⟨rfl, rfl, rfl⟩ := e1
  refine ⟨bb, h.bh, ⟨?_, e3⟩, fun b hb => (h.bt b hb).pastS hg hc hs⟩
  have := congrArg List.length h.bh
  simpa [hpOf] using this
 ·rcases (hk h.ro).2 with ⟨e, h0⟩ | ⟨g', cap, cur', e, g1, g2, g3, g4, g5, g6⟩
  ·have : row = [] := List.eq_nil_of_length_eq_zero h0
   exact .inl ⟨this, none, e⟩
  ·exact .inr ⟨g', 0, cap, us, e, g3, g4, (Array.getElem?_eq_some_iff.1 g2).1, by have := h.ro.1; omega, range_of_owns' g2 g6, fun j u l h1 h2 => (h.ut j u l h1 h2).pastS hg hc hs⟩
end
/-- A row's values. -/
theorem row_news {w : World} {a : Option Addr} {n c : Nat} {ls : List (List C)} (h : RowAt w (.slice a n c) ls) : ∃ vs : List Value, vs.length = n ∧ (n = 0 ∨ ∃ ad, a = some ad ∧ ∀ j u, vs[j]? = some u → w.cell? (ad.add j) = some u) ∧ (∀ u ∈ vs, u.oneCell' = true) ∧ ∀ (j : Nat) (u : Value) (l : List C), vs[j]? = some u → ls[j]? = some l → TermAt w u l := by
 rcases h.2 with ⟨_, ad, e⟩ | ⟨b, o, cap, vs, e, _, _, h4, h5, h6, h7⟩
 ·simp only [Value.slice.injEq] at e
  obtain ⟨rfl, rfl, rfl⟩ := e
  exact ⟨[], rfl, .inl rfl, fun u hu => (by cases hu), fun j u l hu => by simp at hu⟩
 ·simp only [Value.slice.injEq] at e
  obtain ⟨rfl, rfl, rfl⟩ := e
  refine ⟨vs, h5, .inr ⟨_, rfl, fun j u hu => ?_⟩, fun u hu => ?_, h7⟩
  ·rw [Addr.add_mid]
   exact h6 j u hu
  ·obtain ⟨j, hj, rfl⟩ := List.getElem_of_mem hu
   obtain ⟨x, y, e⟩ := (h7 j _ _ (List.getElem?_eq_getElem hj) (List.getElem?_eq_getElem (by omega))).form
   rw [e]
   rfl
theorem rowAt_empty {w w' : World} {v : Value} (h : RowAt w v []) (hs : w.heap.size ≤ w'.heap.size) : RowAt w' v [] := by
 refine ⟨by simp, ?_⟩
 rcases h.2 with e | ⟨b, o, cap, vs, h1, h2, h3, h4, h5, h6, h7⟩
 ·exact .inl e
 ·have : vs = [] := List.eq_nil_of_length_eq_zero h5
  subst this
  exact .inr ⟨b, o, cap, [], h1, h2, h3, Nat.lt_of_lt_of_le h4 hs, rfl, fun j u hu => by simp at hu, fun i u l hu => by simp at hu⟩
/-- A record of five cells stays where blocks of another type are written. -/
theorem Fi.grown {w w' : World} {g t : Nat} {a b c d e : Value} {row : Option Nat} (h : Fi w g t a b c d e) (hg : w.grownBy w' row) (hr : ∀ k, row = some k → ∃ cu t' fr, t' ≠ t ∧ w.heap[k]? = some (.cells cu t' fr)) : Fi w' g t a b c d e := by
 have h' : w.heap[g]? = some (.cells #[a, b, c, d, e] t (0, 0)) := h
 refine (hg.block g h.cells.2 fun e2 => ?_).trans h'
 obtain ⟨cu, t', fr, h1, h2⟩ := hr g e2.symm
 rw [h'] at h2
 simp only [Option.some.injEq, Obj.cells.injEq] at h2
 exact h1 h2.2.1.symm
theorem noB_int (k : Int) : NoB (.int .i64 k) := fun _ e => by cases e
theorem noB_slice (a : Option Addr) (n c : Nat) : NoB (.slice a n c) := fun _ e => by cases e
theorem noB_bn (q : Bn) : ∀ u ∈ encB q, NoB u := fun u hu => by
 simp [encB] at hu
 rcases hu with rfl | rfl | rfl
 ·exact noB_int _
 ·exact noB_int _
 ·exact noB_slice _ _ _
theorem noB_zero : ∀ u ∈ (Value.agg #[.int .i64 0, .int .i64 0, .slice none 0 0]).cells.toList, NoB u := fun u hu => by
 have hu : u ∈ [Value.int .i64 0, .int .i64 0, .slice none 0 0] := hu
 simp at hu
 rcases hu with rfl | rfl
 ·exact noB_int _
 ·exact noB_slice _ _ _
section
variable {w wX w11 w12 : World} {B rt n q1 lc pn g : Nat} {m : Hp} {t : List C} {r P : List (List C)} {bd : List (Nm × List C)} {bv u0 : Value} {us ur vs : List Value} {bb : List Bn} {G : Nat → Prop} {bs : List Bn}
/-- The first of what is left. -/
theorem Dl.head {la : Option Addr} (h : Dl w B rt m (t :: r) bd n (.slice la q1 lc) bv us bb G bs) : ∃ g u0 ur, la = some ⟨g, 0, none⟩ ∧ g < w.heap.size ∧ w.cell? ⟨g, 0, none⟩ = some u0 ∧ us = u0 :: ur ∧ TermAt w u0 t ∧ q1 ≤ lc := by
 have hl := h.ro.1
 match us, hl, h with
 | [], hl, _ => simp at hl
 | u0 :: ur, hl, h =>
  rcases h.ro.2 with ⟨_, h0⟩ | ⟨g', cap, cur, e, g1, g2, g3, g4, g5, g6⟩
  ·simp at h0
  ·simp only [Value.slice.injEq] at e
   obtain ⟨rfl, rfl, rfl⟩ := e
   exact ⟨g', u0, ur, rfl, (Array.getElem?_eq_some_iff.1 g2).1, range_of_owns' g2 g6 0 u0 rfl, rfl, h.ut 0 u0 t rfl rfl, g3⟩
theorem left1 {pa : Option Addr} {pc : Nat} (h : RowAt wX (.slice pa pn pc) P) : ∃ vs : List Value, vs.length = pn ∧ P.length = pn ∧ (pn = 0 ∨ ∃ ad, pa = some ad ∧ ∀ j u, vs[j]? = some u → (wX.alloc (.cells #[] 24)).cell? (ad.add j) = some u) ∧ (∀ u ∈ vs, u.oneCell' = true) ∧ (wX.alloc (.cells #[] 24)).ownsRow wX.heap.size 24 1 (.slice (some ⟨wX.heap.size, 0, none⟩) 0 0) 0 [] ∧ ∀ (j : Nat) (u : Value) (l : List C), vs[j]? = some u → P[j]? = some l → TermAt wX u l := by
 obtain ⟨vs, h1, h2, h3, h4⟩ := row_news h
 obtain ⟨x, y, e⟩ := h.form
 simp only [Value.slice.injEq] at e
 refine ⟨vs, h1, e.2.1.symm, ?_, h3, World.ownsRow_made wX #[] 0 (Nat.le_refl _) (by unfold maxLen; omega) rfl, h4⟩
 rcases h2 with h2 | ⟨ad, h2, h5⟩
 ·exact .inl h2
 ·exact .inr ⟨ad, h2, fun j u hu => (World.grownBy_alloc wX _ none).cell (h5 j u hu) (by simp)⟩
theorem left2 {ra : Option Addr} (h : Dl wX B rt m (t :: r) bd n (.slice (some ⟨g, 0, none⟩) q1 lc) bv (u0 :: ur) bb G bs) (hq : (t :: r).length = q1) (hra : lc = 1 ∨ ra = some ⟨g, 1, none⟩) (hlc : q1 ≤ lc) (h1 : (wX.alloc (.cells #[] 24)).grownBy w11 (some wX.heap.size)) : ur.length = (q1 - 1) * 1 ∧ (q1 - 1 = 0 ∨ ∃ ad, ra = some ad ∧ ∀ j u, ur[j]? = some u → w11.cell? (ad.add j) = some u) ∧ ∀ u ∈ ur, u.oneCell' = true := by
 have hl := h.ro.1
 simp only [List.length_cons] at hl hq
 refine ⟨by omega, ?_, fun u hu => ?_⟩
 ·rcases hra with e | e
  ·exact .inl (by omega)
  ·refine .inr ⟨_, e, fun j u hu => ?_⟩
   rcases h.ro.2 with ⟨e2, _⟩ | ⟨g', cap, cur, e2, g1, g2, g3, g4, g5, g6⟩
   ·cases e2
   ·simp only [Value.slice.injEq, Option.some.injEq, Addr.mk.injEq] at e2
    obtain ⟨⟨rfl, _⟩, _⟩ := e2
    have hg := (Array.getElem?_eq_some_iff.1 g2).1
    have h3 := range_of_owns' g2 g6 (1 + j) u (by rw [Nat.add_comm]; simpa using hu)
    rw [Nat.zero_add] at h3
    rw [Addr.add_mid]
    refine (World.cell?_of_block (a := ⟨g, 1 + j, none⟩) ?_).trans h3
    exact (h1.block g (by simp; omega) (by simp; omega)).trans (heap_alloc_old wX _ hg)
 ·obtain ⟨j, hj, rfl⟩ := List.getElem_of_mem hu
  obtain ⟨x, y, e⟩ := (h.ut (j + 1) ur[j] (r[j]'(by omega)) (by simp [hj]) (by simp)).form
  rw [e]
  rfl
theorem left3 {a9 a12 : Option Addr} {c9 c12 : Nat} {lv : Value} (h : Dl wX B rt m (t :: r) bd n lv bv (u0 :: ur) bb G bs) (hq : (t :: r).length = q1) (hv : vs.length = pn) (hP : P.length = pn) (hT : ∀ (j : Nat) (u : Value) (l : List C), vs[j]? = some u → P[j]? = some l → TermAt wX u l)
  (h1 : (wX.alloc (.cells #[] 24)).grownBy w11 (some wX.heap.size)) (o1 : w11.ownsRow wX.heap.size 24 1 (.slice a9 pn c9) pn vs) (h2 : w11.grownBy w12 (Value.slice a9 pn c9).ownBlock) (o2 : w12.ownsRow wX.heap.size 24 1 (.slice a12 (pn + (q1 - 1)) c12) (pn + (q1 - 1)) (vs ++ ur)) :
  Dl w12 B rt m (P ++ r) bd n (.slice a12 (pn + (q1 - 1)) c12) bv (vs ++ ur) bb G bs ∧ Below wX.heap.size wX w12 := by
 have hb1 : Below wX.heap.size wX w11 := (below_alloc _ _).grown h1 (by simp) (fun z hz => by simp at hz; omega)
 have hb2 : Below wX.heap.size wX w12 := hb1.grown h2 hb1.size (fun z hz => (o1.lt z hz).1)
 simp only [List.length_cons] at hq
 refine ⟨h.left hb2 ?_ fun j u l hu hl => ?_, hb2⟩
 ·have e : (P ++ r).length = pn + (q1 - 1) := by rw [List.length_append, hP]; omega
  rw [e]
  exact rows_base o2 h.low.2
 ·by_cases hj : j < pn
  ·rw [List.getElem?_append_left (by omega)] at hu hl
   exact (hT j u l hu hl).below hb2
  ·rw [List.getElem?_append_right (by omega), hv] at hu
   rw [List.getElem?_append_right (by omega), hP] at hl
   exact (h.ut (j - pn + 1) u l (by simpa using hu) (by simpa using hl)).below hb2
end
theorem RfH.noB {w : World} {G : Nat → Prop} {rt : Nat} {bs : List Bn} (h : RfH w G rt bs) : ∀ g, some rt = some g → ∀ cur e fr, w.heap[g]? = some (.cells cur e fr) → ∀ u ∈ cur.toList, NoB u := by
 obtain ⟨ra, rc, r1, _, _⟩ := h.ex
 intro g hg cur e fr hc u hu
 simp only [Option.some.injEq] at hg
 rw [← hg, r1] at hc
 simp only [Option.some.injEq, Obj.cells.injEq] at hc
 rw [← hc.1] at hu
 simp at hu
 subst hu
 exact noB_slice _ _ _
theorem rowAt_nil (w : World) : RowAt w (.slice none 0 0) [] := ⟨by simp, .inl ⟨rfl, none, rfl⟩⟩
theorem bs_nil (w : World) : ∃ bb : List Bn, hpOf bb = [] ∧ Bs w none 0 bb ∧ ∀ b ∈ bb, TermAt w b.v b.l := ⟨[], rfl, ⟨rfl, .inl rfl⟩, fun b hb => by cases hb⟩
set_option maxRecDepth 100000 in
set_option maxHeartbeats 8000000 in
theorem r24 (m : Hp) (q : Option Addr) (n0 : Nat) (N : Int) (ls : List (List C)) (v : Value) (w : World) (hp : HqR w q m n0) (hW : HpW m) (h : RowAt w v ls) (hwf : ∀ l ∈ ls, WfT l) (hln : ls.length ≤ n0) (hn0 : n0 ≤ 100000000) (hN : N ≤ 100000) :
  Calls Tryz.prog 24 #[.pointer q, .int .i64 N, v] w fun e w' => SoD (slvF m ls N).out (slvF m ls N).bd (slvF m ls N).left (slvF m ls N).st e w w' := by
 obtain ⟨a, c, hf⟩ := h.form
 subst hf
 obtain ⟨SOL, hSOL⟩ : ∃ x, slvF m ls N = x := ⟨_, rfl⟩
 have HX : Hid (slvF m ls N = SOL) := hSOL
 rw [hSOL]
 clear hSOL
 have HB0 : Hid (By w w.heap.size (w.alloc (.cells #[.int .u8 0, .slice none 0 0, .slice none 0 0, .int .i64 0] 66)) ∧ (w.alloc (.cells #[.int .u8 0, .slice none 0 0, .slice none 0 0, .int .i64 0] 66)).heap.size = w.heap.size + 1) := ⟨⟨heap_alloc_new w _, below_alloc _ _, rfl⟩, by simp⟩
 obtain ⟨n, hnn⟩ : ∃ n, ls.length = n := ⟨_, rfl⟩
 have HV : Hid (HqR w q m n0 ∧ HpW m ∧ RowAt w (.slice a n c) ls ∧ (∀ l ∈ ls, WfT l) ∧ n ≤ n0 ∧ ls.length = n) := ⟨hp, hW, by rw [← hnn]; exact h, hwf, by omega, hnn⟩
 have hnb : n ≤ 100000000 := by omega
 rw [hnn]
 clear hp hW h hwf hln hnn
 go_enter Tryz.func24, Tryz.ntmps24
 go_wp2_with fail
 obtain ⟨W0, hW0⟩ : ∃ W0, w.alloc (.cells #[.int .u8 0, .slice none 0 0, .slice none 0 0, .int .i64 0] 66) = W0 := ⟨_, rfl⟩
 obtain ⟨rz, hrz⟩ : ∃ rz, w.heap.size = rz := ⟨_, rfl⟩
 rw [hW0] at HB0 ⊢
 rw [hrz] at HB0 ⊢
 clear hW0 hrz
 go_loopw [7] (fun iv wr => ∃ k : Nat, k ≤ n ∧ iv = .int .i64 k ∧ Hid (By w rz wr ∧ rz < wr.heap.size ∧ ∀ j (_ : j < ls.length), j < k → noneB ls[j] = false)) (fun iv _ => n - (intOf iv).toNat)
 case atStart => exact ⟨0, Nat.zero_le _, rfl, HB0.out.1, by have := HB0.out.2; omega, fun j _ h => by omega⟩
 case round =>
  obtain ⟨k, hk, rfl, HK⟩ := hrel
  by_cases hlt : k < n
  ·have hltI : (k : Int) < (n : Int) := by omega
   have hk0 : (0 : Int) ≤ (k : Int) := by omega
   have hkL : k < ls.length := by rw [HV.out.2.2.2.2.2]; exact hlt
   obtain ⟨b1, z1, y1, u, ea, hbl1, cu, hTu⟩ := row_at (HV.out.2.2.1.below HK.out.1.bel) k hkL
   simp only [Value.slice.injEq] at ea
   obtain ⟨rfl, hh1, rfl⟩ := ea
   clear hh1
   obtain ⟨uu1, uu2, uu3, huf⟩ : ∃ a b c, u = .slice a b c := by obtain ⟨a, c, h⟩ := hTu.form; exact ⟨_, _, _, h⟩
   subst huf
   have HE : Calls Tryz.prog 63 #[.slice uu1 uu2 uu3] wr fun e w' => ∃ p1 p2 p3 q1 q2 q3, e = .returned (.tuple #[.slice p1 p2 p3, .slice q1 q2 q3, .bool (eqB ls[k])]) ∧ Hid (TermAt w' (.slice p1 p2 p3) (sd1 ls[k]) ∧ TermAt w' (.slice q1 q2 q3) (sd2 ls[k]) ∧ Below wr.heap.size wr w') := by
    refine (u7s ls[k] _ wr hTu).mono ?_
    rintro e w' ⟨xa, xb, rfl, k1, k2, k3⟩
    obtain ⟨p1, p3, e1⟩ := k1.form
    obtain ⟨q1, q3, e2⟩ := k2.form
    subst e1 e2
    exact ⟨_, _, _, _, _, _, rfl, k1, k2, k3⟩
   have HNS : Hid (noneB ls[k] = (!eqB ls[k] || !globalB (sd1 ls[k]) || !globalB (sd2 ls[k]))) := none_same _
   have HFAIL : Hid (noneB ls[k] = true → SOL = ⟨2, [], [], 0⟩) := fun hnt => by
    have h := HX.out
    unfold slvF at h
    rw [if_pos (List.any_eq_true.2 ⟨ls[k], List.getElem_mem hkL, hnt⟩)] at h
    exact h.symm
   clear hTu hbl1
   generalize hEq : eqB ls[k] = EB at *
   go_wp2_with fail
   refine HE.mono ?_
   rintro e w3 ⟨p1, p2, p3, q1, q2, q3, rfl, H3⟩
   have HB3 : Hid (By w rz w3 ∧ rz < w3.heap.size) := ⟨HK.out.1.next H3.out.2.2 HK.out.2.1, by have := H3.out.2.2.size; have := HK.out.2.1; omega⟩
   clear HE
   cases EB
   ·have HF : Hid (SOL = ⟨2, [], [], 0⟩) := HFAIL.out (by rw [HNS.out]; simp)
    obtain ⟨⟨y0, y1, y2, y3⟩, g0, g1, g2, g3⟩ := HB3.out.1.cells
    clear HFAIL HNS
    go_wp2_with fail
    refine bodyPost_ret (v := .agg #[.int .u8 2, .slice none 0 0, .slice none 0 0, .int .i64 0]) (by simp [results, Tryz.results24, go_sem, y0, y1, y2, y3]) rfl ?_
    rw [HF.out]
    exact ⟨none, 0, 0, none, 0, 0, rfl, bs_nil _, rowAt_nil _, (HB3.out.1.fill _ _ _ _).1⟩
   ·have H44a := c37 (sd1 ls[k]) (.slice p1 p2 p3) w3 H3.out.1
    rw [← global_same] at H44a
    generalize hGa : globalB (sd1 ls[k]) = GA at *
    go_wp2_with fail
    refine H44a.mono ?_
    rintro e w4 ⟨rfl, hb4⟩
    have HB4 : Hid (By w rz w4 ∧ rz < w4.heap.size ∧ Below w3.heap.size w3 w4) := ⟨HB3.out.1.next hb4 HB3.out.2, by have := hb4.size; have := HB3.out.2; omega, hb4⟩
    clear H44a hb4
    cases GA
    ·have HF : Hid (SOL = ⟨2, [], [], 0⟩) := HFAIL.out (by rw [HNS.out]; simp)
     obtain ⟨⟨y0, y1, y2, y3⟩, g0, g1, g2, g3⟩ := HB4.out.1.cells
     clear HFAIL HNS
     go_wp2_with fail
     refine bodyPost_ret (v := .agg #[.int .u8 2, .slice none 0 0, .slice none 0 0, .int .i64 0]) (by simp [results, Tryz.results24, go_sem, y0, y1, y2, y3]) rfl ?_
     rw [HF.out]
     exact ⟨none, 0, 0, none, 0, 0, rfl, bs_nil _, rowAt_nil _, (HB4.out.1.fill _ _ _ _).1⟩
    ·have H44b := c37 (sd2 ls[k]) (.slice q1 q2 q3) w4 (H3.out.2.1.below HB4.out.2.2)
     rw [← global_same] at H44b
     generalize hGb : globalB (sd2 ls[k]) = GB at *
     go_wp2_with fail
     refine H44b.mono ?_
     rintro e w5 ⟨rfl, hb5⟩
     have HB5 : Hid (By w rz w5 ∧ rz < w5.heap.size) := ⟨HB4.out.1.next hb5 HB4.out.2.1, by have := hb5.size; have := HB4.out.2.1; omega⟩
     clear H44b hb5
     cases GB
     ·have HF : Hid (SOL = ⟨2, [], [], 0⟩) := HFAIL.out (by rw [HNS.out]; simp)
      obtain ⟨⟨y0, y1, y2, y3⟩, g0, g1, g2, g3⟩ := HB5.out.1.cells
      clear HFAIL HNS
      go_wp2_with fail
      refine bodyPost_ret (v := .agg #[.int .u8 2, .slice none 0 0, .slice none 0 0, .int .i64 0]) (by simp [results, Tryz.results24, go_sem, y0, y1, y2, y3]) rfl ?_
      rw [HF.out]
      exact ⟨none, 0, 0, none, 0, 0, rfl, bs_nil _, rowAt_nil _, (HB5.out.1.fill _ _ _ _).1⟩
     ·have HF : Hid (∀ j (_ : j < ls.length), j < k + 1 → noneB ls[j] = false) := fun j h1 h2 => by
       by_cases e : j = k
       ·subst e
        rw [HNS.out]; simp
       ·exact HK.out.2.2 j h1 (by omega)
      clear HFAIL HNS
      go_wp2_with fail
      go_roundw
      case rel => exact ⟨k + 1, by omega, by go_num, HB5.out.1, HB5.out.2, HF.out⟩
      case measure => simp [intOf]; omega
  ·have hltI : ¬ (k : Int) < (n : Int) := by omega
   have hkn : k = n := by omega
   have HALL : Hid (ls.any noneB = false ∧ solF N.toNat (Sta0 m ls) = SOL) := by
    have h1 : ls.any noneB = false := by
     cases h2 : ls.any noneB
     ·rfl
     ·obtain ⟨l, hl, h3⟩ := List.any_eq_true.1 h2
      obtain ⟨j, hj, rfl⟩ := List.getElem_of_mem hl
      have := HK.out.2.2 j hj (by have := HV.out.2.2.2.2.2; omega)
      rw [this] at h3
      cases h3
    refine ⟨h1, ?_⟩
    have h := HX.out
    unfold slvF at h
    rw [h1] at h
    exact h
   obtain ⟨B, hBB⟩ : ∃ B, wr.heap.size = B := ⟨_, rfl⟩
   have HBB : Hid (wr.heap.size = B ∧ rz < B ∧ By w rz wr) := ⟨hBB, by rw [← hBB]; exact HK.out.2.1, HK.out.1⟩
   have H34 := i23 wr
   rw [hBB] at H34
   have HQ : Hid (HqR wr q m n0) := HV.out.1.below HK.out.1.bel
   clear hBB HX HB0
   rcases HQ.out with ⟨rfl, rfl⟩ | ⟨rt, G, bs, rfl, hq1, hq2, hq3, hq4, hq5⟩
   ·clear HQ
    go_wp2_with fail
    refine H34.mono ?_
    rintro e w5 ⟨rfl, hf5, hb5⟩
    have HM : Hid ((∃ G bs, RfH w5 G B bs ∧ hpOf bs = ([] : Hp) ∧ RisesH ([] : Hp) ∧ DescH ([] : Hp) ∧ bs.length ≤ n0) ∧ Below B wr w5 ∧ B ≤ B) := ⟨⟨_, [], hf5, rfl, List.Pairwise.nil, fun x l h => by (cases h), Nat.zero_le _⟩, hb5, Nat.le_refl _⟩
    clear hf5 hb5 H34
    obtain ⟨m, hm0⟩ : ∃ m : Hp, m = [] := ⟨_, rfl⟩
    rw [← hm0] at HM HALL HV
    clear hm0
    have HRW : Hid (RowAt (w5.alloc (.cells #[] 24)) (.slice a n c) ls ∧ Below B wr (w5.alloc (.cells #[] 24))) := by
     have h1 : Below B wr (w5.alloc (.cells #[] 24)) := HM.out.2.1.alloc (by have := HM.out.2.1.size; have := HBB.out.1; omega) _
     exact ⟨HV.out.2.2.1.below (HK.out.1.bel.trans (h1.mono (by rw [HBB.out.2.2.low]; exact Nat.le_of_lt HBB.out.2.1))), h1⟩
    obtain ⟨vs, hv1, hv2, hv3, hv4⟩ := row_news HRW.out.1
    have HVS : Hid (vs.length = n * 1 ∧ (n = 0 ∨ ∃ ad, a = some ad ∧ ∀ j u, vs[j]? = some u → (w5.alloc (.cells #[] 24)).cell? (ad.add j) = some u) ∧ (∀ u ∈ vs, u.oneCell' = true) ∧ (w5.alloc (.cells #[] 24)).ownsRow B 24 1 (.slice (some ⟨w5.heap.size, 0, none⟩) 0 0) 0 [] ∧ B ≤ (w5.alloc (.cells #[] 24)).heap.size) := by
     have h1 : B ≤ w5.heap.size := by have := HM.out.2.1.size; have := HBB.out.1; omega
     exact ⟨by rw [hv1, Nat.mul_one], hv2, hv3, World.ownsRow_made w5 #[] 0 h1 (by unfold maxLen; omega) rfl, by simp; omega⟩
    have HTS : Hid (∀ (j : Nat) (u : Value) (l : List C), vs[j]? = some u → ls[j]? = some l → TermAt (w5.alloc (.cells #[] 24)) u l) := hv4
    have HST : Hid (StaOk (Sta0 m ls) n0) := by
     refine ⟨HV.out.2.1, fun t ht => ⟨?_, HV.out.2.2.2.1 t ht⟩, fun b hb => (by cases hb), (by have := HV.out.2.2.2.2; show ls.length ≤ n0 + 8 * 0; omega), Nat.le_refl _⟩
     have h1 : noneB t = false := by
      cases h2 : noneB t
      ·rfl
      ·have h3 : ls.any noneB = true := List.any_eq_true.2 ⟨t, ht, h2⟩
       rw [HALL.out.1] at h3
       cases h3
     unfold noneB at h1
     simp only [Bool.or_eq_false_iff, Bool.not_eq_false'] at h1
     exact sht_right (global_right h1.1)
    obtain ⟨i0, hi, hz, hs1, hby1⟩ := infoT
    obtain ⟨j0, hj, hjz, hjs, hjb⟩ := info66
    clear hv1 hv2 hv3 hv4
    go_wp2_with (at_builtin; refine wpList_append_any _ rfl _ _ 33 rfl B 24 i0 (.slice none 0 0) 1 24 Tryz.underlying33 hi hz hs1 hby1 rfl (by decide) _ _ _ rfl HVS.out.2.2.2.1 a n c vs rfl HVS.out.1 HVS.out.2.1 HVS.out.2.2.1 (by unfold maxLen; omega) (by omega) HVS.out.2.2.2.2 ?_)
    intro la0 lc0 w6 hown6 hgr6
    have HD6 : Hid ((∃ us bb G bs, Dl w6 B B m ls [] n0 (.slice la0 n lc0) (.slice none 0 0) us bb G bs) ∧ By w rz w6) := by
     obtain ⟨G, bs, k1, k2, k3, k4, k5⟩ := HM.out.1
     have hB5 : B ≤ w5.heap.size := by have := HM.out.2.1.size; have := HBB.out.1; omega
     have hb6 : Below w5.heap.size w5 w6 := (below_alloc _ _).grown hgr6 (by simp) (fun z hz => by simp [Value.ownBlock] at hz; omega)
     have hb8 : Below B wr w6 := HM.out.2.1.trans (hb6.mono hB5)
     refine ⟨⟨vs, [], G, bs, k1.below hb6, k2, k3, k4, k5, ?_, fun j u l h1 h2 => ?_, World.ownsRow_nil _ _ _ _, rfl, fun b hb => (by cases hb), nu_nil _, fun g hg => (by simp [Value.ownBlock] at hg), HM.out.2.2, Nat.le_trans hB5 hb6.size⟩, HBB.out.2.2.next hb8 HBB.out.2.1⟩
     ·rw [HV.out.2.2.2.2.2]
      exact hown6
     ·exact (HTS.out j u l h1 h2).pastS hgr6 (heap_alloc_new w5 _) (by decide)
    clear hown6 hgr6
    go_wp2_with fail
    go_loopg [12, 13, 14] (N.toNat) (fun gg lv bv dv W => ∃ (s : Sta) (q1 q2 : Nat) (la : Option Addr) (lc : Nat) (ba : Option Addr) (bc : Nat) (us : List Value) (bb : List Bn) (G : Nat → Prop) (bs : List Bn), lv = .slice la q1 lc ∧ bv = .slice ba q2 bc ∧ dv = .int .i64 (s.d : Int) ∧ s.d + gg = N.toNat ∧ Hid (s.row.length = q1 ∧ s.bd.length = q2 ∧ Dl W B B s.m s.row s.bd (n0 + s.d) (.slice la q1 lc) (.slice ba q2 bc) us bb G bs ∧ StaOk s n0 ∧ solF gg s = SOL ∧ By w rz W))
    case atStart =>
     obtain ⟨us, bb, G, bs, hD⟩ := HD6.out.1
     exact ⟨Sta0 m ls, n, 0, la0, lc0, none, 0, us, bb, G, bs, rfl, rfl, rfl, Nat.zero_add _, HV.out.2.2.2.2.2, rfl, hD, HST.out, HALL.out.2, HD6.out.2⟩
    case round =>
     obtain ⟨s, q1, q2, la, lc, ba, bc, us, bb, G, bs, rfl, rfl, rfl, hsg, HI⟩ := hrel
     cases hrow : s.row with
     | nil =>
      obtain rfl : q1 = 0 := by rw [← HI.out.1, hrow]; rfl
      have HSO : Hid (SOL = ⟨1, s.bd, [], s.d⟩) := HI.out.2.2.2.2.1.symm.trans (solF_none hrow)
      obtain ⟨⟨y0, y1, y2, y3⟩, g0, g1, g2, g3⟩ := HI.out.2.2.2.2.2.cells
      clear hrow
      go_wp2_with fail
      refine bodyPost_ret (v := .agg #[.int .u8 1, .slice ba q2 bc, .slice none 0 0, .int .i64 (s.d : Int)]) (by simp [results, Tryz.results24, go_sem, y0, y1, y2, y3]) rfl ?_
      rw [HSO.out]
      have hf := HI.out.2.2.2.2.2.fill (.int .u8 1) (.slice ba q2 bc) (.slice none 0 0) (.int .i64 (s.d : Int))
      have ht := HI.out.2.2.1.tell (by rw [HI.out.1]; omega) hf.2.2 HBB.out.2.1 HI.out.2.2.2.2.2.blk (by decide)
      exact ⟨ba, q2, bc, none, 0, 0, rfl, ht.1 _ _ _ rfl, rowAt_nil _, hf.1⟩
     | cons t r =>
      have hq1p : (0 : Int) < (q1 : Int) := by have := HI.out.1; rw [hrow] at this; simp at this; omega
      have hOk := HI.out.2.2.2.1
      have hq1l : q1 ≤ 1000000000 := by have := hOk.len; have := HI.out.1; omega
      cases gk with
      | zero =>
       have hnl : ¬ (s.d : Int) < N := by omega
       have hge : N ≤ (s.d : Int) := by omega
       have HSO : Hid (SOL = ⟨3, s.bd, s.row, s.d⟩) := by
        have h := HI.out.2.2.2.2.1.symm.trans (solF_zero hrow)
        rw [hrow]
        exact h
       obtain ⟨⟨y0, y1, y2, y3⟩, g0, g1, g2, g3⟩ := HI.out.2.2.2.2.2.cells
       clear hrow hOk
       go_wp2_with fail
       refine bodyPost_ret (v := .agg #[.int .u8 3, .slice ba q2 bc, .slice la q1 lc, .int .i64 (s.d : Int)]) (by simp [results, Tryz.results24, go_sem, y0, y1, y2, y3]) rfl ?_
       rw [HSO.out]
       have hf := HI.out.2.2.2.2.2.fill (.int .u8 3) (.slice ba q2 bc) (.slice la q1 lc) (.int .i64 (s.d : Int))
       have ht := HI.out.2.2.1.tell (by rw [HI.out.1]; unfold maxLen; omega) hf.2.2 HBB.out.2.1 HI.out.2.2.2.2.2.blk (by decide)
       exact ⟨ba, q2, bc, la, q1, lc, rfl, ht.1 _ _ _ rfl, ht.2, hf.1⟩
      | succ gg =>
       have hnl : (s.d : Int) < N := by omega
       have hnge : ¬ N ≤ (s.d : Int) := by omega
       obtain ⟨kk, V1, V2, T, P, hnx⟩ : ∃ kk V1 V2 T P, nxK s t = ⟨kk, (V1, V2), T, P⟩ := ⟨_, _, _, _, _, rfl⟩
       have hstp := hOk.step hrow
       rw [hnx] at hstp
       have HSP : Hid (StepR s.m (sd1 t) (sd2 t) kk (V1, V2) T P ∧ nxK s t = ⟨kk, (V1, V2), T, P⟩ ∧ s.row = t :: r) := ⟨hstp, hnx, hrow⟩
       obtain ⟨g, u0, ur, hla, hg0, hgc, hus, hTu, hqc⟩ := (hrow ▸ HI.out.2.2.1 : Dl wr B B s.m (t :: r) s.bd (n0 + s.d) (.slice la q1 lc) (.slice ba q2 bc) us bb G bs).head
       subst hla
       obtain ⟨uu1, uu2, uu3, huf⟩ : ∃ a b c, u0 = .slice a b c := by obtain ⟨a, c, h⟩ := hTu.form; exact ⟨_, _, _, h⟩
       subst huf
       have HUS : Hid (us = .slice uu1 uu2 uu3 :: ur ∧ q1 ≤ lc) := ⟨hus, hqc⟩
       have HE : Calls Tryz.prog 63 #[.slice uu1 uu2 uu3] wr fun e w' => ∃ p1 p2 p3 q1 q2 q3, e = .returned (.tuple #[.slice p1 p2 p3, .slice q1 q2 q3, .bool (eqB t)]) ∧ Hid (TermAt w' (.slice p1 p2 p3) (sd1 t) ∧ TermAt w' (.slice q1 q2 q3) (sd2 t) ∧ Below wr.heap.size wr w') := by
        refine (u7s t _ wr hTu).mono ?_
        rintro e w' ⟨xa, xb, rfl, k1, k2, k3⟩
        obtain ⟨p1, p3, e1⟩ := k1.form
        obtain ⟨q1, q3, e2⟩ := k2.form
        subst e1 e2
        exact ⟨_, _, _, _, _, _, rfl, k1, k2, k3⟩
       clear hrow hOk hnx hstp hus hTu hqc
       generalize hEq : eqB t = EB at *
       clear hEq
       go_wp2_with fail
       refine HE.mono ?_
       rintro e w7 ⟨p1, p2, p3, p4, p5, p6, rfl, H7⟩
       have HD7 : Hid (Dl w7 B B s.m s.row s.bd (n0 + s.d) (.slice (some ⟨g, 0, none⟩) q1 lc) (.slice ba q2 bc) us bb G bs) := HI.out.2.2.1.below H7.out.2.2
       have H12 := HSP.out.1.rf w7 _ _ _ (HD7.out.der HI.out.2.2.2.1.hp (by omega)) H7.out.1 H7.out.2.1
       clear HE
       go_wp2_with fail
       refine H12.mono ?_
       rintro e w8 ⟨ta, tn, tc, pa, pn, pc, rfl, hT8, hR8, hb8⟩
       obtain ⟨W8, hW8⟩ : ∃ W8, w8.alloc (.cells #[.int .i64 kk, .int .i64 V1, .int .i64 V2, .slice ta tn tc, .slice pa pn pc] 40) = W8 := ⟨_, rfl⟩
       obtain ⟨r8, hr8⟩ : ∃ r8, w8.heap.size = r8 := ⟨_, rfl⟩
       have HF8 : Hid (Fi W8 r8 40 (.int .i64 kk) (.int .i64 V1) (.int .i64 V2) (.slice ta tn tc) (.slice pa pn pc) ∧ Dl W8 B B s.m (t :: r) s.bd (n0 + s.d) (.slice (some ⟨g, 0, none⟩) q1 lc) (.slice ba q2 bc) (.slice uu1 uu2 uu3 :: ur) bb G bs ∧ TermAt W8 (.slice ta tn tc) T ∧ RowAt W8 (.slice pa pn pc) P ∧ By w rz W8) := by
        have hb7 := H7.out.2.2.trans (hb8.mono H7.out.2.2.size)
        have hb9 : Below w8.heap.size w8 W8 := by rw [← hW8]; exact below_alloc _ _
        have hD8 := (HD7.out.below hb8).below hb9
        rw [HSP.out.2.2, HUS.out.1] at hD8
        refine ⟨by rw [← hW8, ← hr8]; exact Fi.new _ _ _ _ _ _ _, hD8, hT8.below hb9, hR8.below hb9, ?_⟩
        have h1 := HI.out.2.2.1.low.2
        refine (HI.out.2.2.2.2.2.next hb7 (by have := HBB.out.2.1; omega)).next hb9 ?_
        have := hb7.size
        have := HBB.out.2.1
        omega
       obtain ⟨⟨x0, x1, x2, x3, x4⟩, hx⟩ := HF8.out.1.cells
       obtain ⟨ra, hra⟩ : ∃ ra : Option Addr, (if lc = 1 then some (⟨g, 0, none⟩ : Addr) else some ⟨g, 1, none⟩) = ra := ⟨_, rfl⟩
       have HRA : Hid (lc = 1 ∨ ra = some ⟨g, 1, none⟩) := by
        by_cases h : lc = 1
        ·exact .inl h
        ·rw [if_neg h] at hra
         exact .inr hra.symm
       clear H12 hT8 hR8 hb8 H7 HD7
       by_cases h4 : kk = 4
       ·subst h4
        have HSO : Hid (SOL = ⟨2, [], [], s.d + 1⟩) := HI.out.2.2.2.2.1.symm.trans (solF_clash HSP.out.2.2 (by rw [HSP.out.2.1]))
        obtain ⟨⟨y0, y1, y2, y3⟩, g0, g1, g2, g3⟩ := HF8.out.2.2.2.2.cells
        go_wp2_with fail
        refine bodyPost_ret (v := .agg #[.int .u8 2, .slice none 0 0, .slice none 0 0, .int .i64 ((s.d + 1 : Nat) : Int)]) (by simp [results, Tryz.results24, go_sem, y0, y1, y2, y3]) rfl ?_
        rw [HSO.out]
        exact ⟨none, 0, 0, none, 0, 0, rfl, bs_nil _, rowAt_nil _, (HF8.out.2.2.2.2.fill _ _ _ _).1⟩
       ·have HNX : Hid (solF gg (nxS s t r) = SOL ∧ StaOk (nxS s t r) n0 ∧ (nxS s t r).d = s.d + 1) := ⟨(solF_next HSP.out.2.2 (by rw [HSP.out.2.1]; exact h4)).symm.trans HI.out.2.2.2.2.1, HI.out.2.2.2.1.next HSP.out.2.2, rfl⟩
        by_cases h2 : kk = 2
        ·subst h2
         have H35 := i24 G B bs (V1, V2) T (.slice ta tn tc) W8 HF8.out.2.1.rf HF8.out.2.2.1 (by have := HSP.out.1.st.1; omega) (by have := HF8.out.2.1.ln; omega)
         go_wp2_with fail
         refine H35.mono ?_
         rintro e w9 ⟨rfl, hBR⟩
         have hgr9 := hBR.choose_spec.2.2.2
         obtain ⟨bs9, hD9⟩ := HF8.out.2.1.bind hBR
         have HF9 : Hid (Fi w9 r8 40 (.int .i64 2) (.int .i64 V1) (.int .i64 V2) (.slice ta tn tc) (.slice pa pn pc) ∧ Dl w9 B B (bindH s.m (V1, V2) T) (t :: r) s.bd (n0 + s.d + 1) (.slice (some ⟨g, 0, none⟩) q1 lc) (.slice ba q2 bc) (.slice uu1 uu2 uu3 :: ur) bb (Gn W8 G w9) bs9 ∧ TermAt w9 (.slice ta tn tc) T ∧ RowAt w9 (.slice pa pn pc) P ∧ By w rz w9) := by
          have hrf := HF8.out.2.1.rf
          refine ⟨HF8.out.1.grown hgr9 fun z hz => ?_, hD9, HF8.out.2.2.1.past hgr9 hrf.noB, ?_, HF8.out.2.2.2.2.next ((Below.refl B W8).grown hgr9 HF8.out.2.1.low.2 fun z hz => ?_) HBB.out.2.1⟩
          ·obtain ⟨x, y, r1, _, _⟩ := hrf.ex
           simp only [Option.some.injEq] at hz
           subst hz
           exact ⟨_, 57, _, by decide, r1⟩
          ·have hP := HF8.out.2.2.2.1
           rw [HSP.out.1.kp (by decide)] at hP ⊢
           exact rowAt_empty hP hgr9.size
          ·simp only [Option.some.injEq] at hz
           subst hz
           exact HF8.out.2.1.low.1
         obtain ⟨⟨x0, x1, x2, x3, x4⟩, hx⟩ := HF9.out.1.cells
         have HOW : Hid ((w9.alloc (.cells #[.int .i64 V1, .int .i64 V2, .slice ta tn tc] 73)).ownsRow B 73 3 (.slice ba q2 bc) q2 (bb.flatMap encB) ∧ Nu (w9.alloc (.cells #[.int .i64 V1, .int .i64 V2, .slice ta tn tc] 73)) (.slice ba q2 bc) ∧ B ≤ (w9.alloc (.cells #[.int .i64 V1, .int .i64 V2, .slice ta tn tc] 73)).heap.size) := by
          have h1 := HF9.out.2.1.below (below_alloc w9 (.cells #[.int .i64 V1, .int .i64 V2, .slice ta tn tc] 73))
          have h2 := h1.bo
          rw [HI.out.2.1] at h2
          exact ⟨h2, h1.nu, h1.low.2⟩
         have hq2 : q2 ≤ 100000 := by have := HI.out.2.2.2.1.bl; have := HI.out.2.1; omega
         clear hBR hgr9 hD9 H35
         go_wp2_with (at_builtin; refine wpList_append_nu _ rfl _ _ 22 rfl B 73 j0 _ 3 40 Tryz.underlying22 hj hjz hjs hjb rfl (by decide) _ _ _ rfl HOW.out.1 ⟨w9.heap.size, 0, none⟩ 1 1 (encB (⟨(V1, V2), ta, tn, tc, T⟩ : Bn)) rfl rfl (new_bn w9 (⟨(V1, V2), ta, tn, tc, T⟩ : Bn)) (one_bn _) (by unfold maxLen; omega) (by omega) HOW.out.2.2 HOW.out.2.1 (noB_bn _) noB_zero ?_)
         intro ba9 bc9 w10 hown hgr hat hnu
         have HL0 : Hid (Fi w10 r8 40 (.int .i64 2) (.int .i64 V1) (.int .i64 V2) (.slice ta tn tc) (.slice pa pn pc) ∧ Dl w10 B B (bindH s.m (V1, V2) T) (t :: r) (s.bd ++ [((V1, V2), T)]) (n0 + (s.d + 1)) (.slice (some ⟨g, 0, none⟩) q1 lc) (.slice ba9 (q2 + 1) bc9) (.slice uu1 uu2 uu3 :: ur) (bb ++ [⟨(V1, V2), ta, tn, tc, T⟩]) (Gn W8 G w9) bs9 ∧ RowAt w10 (.slice pa pn pc) P ∧ By w rz w10) := by
          have hbA := below_alloc w9 (.cells #[.int .i64 V1, .int .i64 V2, .slice ta tn tc] 73)
          have hDA := HF9.out.2.1.below hbA
          have hbB := (Below.refl B (w9.alloc (.cells #[.int .i64 V1, .int .i64 V2, .slice ta tn tc] 73))).grown hgr HOW.out.2.2 fun z hz => (HOW.out.1.lt z hz).1
          refine ⟨(HF9.out.1.below hbA).grown hgr fun z hz => ?_, hDA.put (q := ⟨(V1, V2), ta, tn, tc, T⟩) (HF9.out.2.2.1.below hbA) (by rw [HI.out.2.1]; exact hown) hgr (by rw [World.size_alloc]; exact hat) hnu, ?_, (HF9.out.2.2.2.2.next (hbA.mono HF9.out.2.1.low.2) HBB.out.2.1).next hbB HBB.out.2.1⟩
          ·obtain ⟨cu, h1⟩ := own_typed HOW.out.1 z hz
           exact ⟨_, 73, _, by decide, h1⟩
          ·have hP := HF9.out.2.2.2.1
           rw [HSP.out.1.kp (by decide)] at hP ⊢
           exact rowAt_empty hP (Nat.le_trans hbA.size hgr.size)
         clear hown hgr hat hnu x0 x1 x2 x3 x4 hx
         have HS : Hid ((nxS s t r).m = bindH s.m (V1, V2) T ∧ (nxS s t r).row = P ++ r ∧ (nxS s t r).bd = s.bd ++ [((V1, V2), T)]) := by
          unfold nxS
          rw [HSP.out.2.1]
          exact ⟨rfl, rfl, rfl⟩
         obtain ⟨vs9, k1, k2, k3, k4, k5, k6⟩ := left1 HL0.out.2.2.1
         have HL1 : Hid (_ ∧ _ ∧ _ ∧ _ ∧ _ ∧ _) := ⟨k1, k2, k3, k4, k5, k6⟩
         have hpn : pn ≤ 8 := by rw [← k2]; exact HSP.out.1.sp.1
         obtain ⟨⟨x0, x1, x2, x3, x4⟩, hx⟩ := HL0.out.1.cells
         clear k1 k2 k3 k4 k5 k6
         go_wp2_with (at_builtin; refine wpList_append_any _ rfl _ _ 33 rfl w10.heap.size 24 i0 (.slice none 0 0) 1 24 Tryz.underlying33 hi hz hs1 hby1 rfl (by decide) _ _ _ rfl HL1.out.2.2.2.2.1 pa pn pc vs9 rfl (by rw [HL1.out.1, Nat.mul_one]) HL1.out.2.2.1 HL1.out.2.2.2.1 (by unfold maxLen; omega) (by omega) (by simp) ?_)
         intro a9 c9 w11 hown hgr
         have HO1 : Hid (w11.ownsRow w10.heap.size 24 1 (.slice a9 pn c9) pn vs9 ∧ (w10.alloc (.cells #[] 24)).grownBy w11 (some w10.heap.size) ∧ w10.heap.size ≤ w11.heap.size) := ⟨by simpa using hown, hgr, by have := hgr.size; simp at this; omega⟩
         have HQ1 : Hid ((t :: r).length = q1) := by have := HI.out.1; rw [HSP.out.2.2] at this; exact this
         have HL2 : Hid (_ ∧ _ ∧ _) := left2 HL0.out.2.1 HQ1.out HRA.out HUS.out.2 HO1.out.2.1
         clear hown hgr
         go_wp2_with (at_builtin; refine wpList_append_any _ rfl _ _ 33 rfl w10.heap.size 24 i0 (.slice none 0 0) 1 24 Tryz.underlying33 hi hz hs1 hby1 rfl (by decide) _ _ _ rfl HO1.out.1 ra (q1 - 1) (lc - 1) ur rfl HL2.out.1 HL2.out.2.1 HL2.out.2.2 (by unfold maxLen; omega) (by omega) HO1.out.2.2 ?_)
         intro a12 c12 w12 hown2 hgr2
         have HL3 : Hid (Dl w12 B B (nxS s t r).m (nxS s t r).row (nxS s t r).bd (n0 + (nxS s t r).d) (.slice a12 (pn + (q1 - 1)) c12) (.slice ba9 (q2 + 1) bc9) (vs9 ++ ur) (bb ++ [⟨(V1, V2), ta, tn, tc, T⟩]) (Gn W8 G w9) bs9 ∧ (nxS s t r).row.length = pn + (q1 - 1) ∧ (nxS s t r).bd.length = (q2 + 1) ∧ By w rz w12) := by
          obtain ⟨l1, l2⟩ := left3 HL0.out.2.1 HQ1.out HL1.out.1 HL1.out.2.1 HL1.out.2.2.2.2.2 HO1.out.2.1 HO1.out.1 hgr2 hown2
          have hsz := HL0.out.2.1.low.2
          rw [HS.out.1, HS.out.2.1, HS.out.2.2]
          refine ⟨l1, ?_, by rw [List.length_append, HI.out.2.1]; rfl, HL0.out.2.2.2.next l2 (by have := HBB.out.2.1; omega)⟩
          have h1 := l1.ro.1
          have h2 := HL1.out.1
          have h3 := HL1.out.2.1
          have h4 := HQ1.out
          simp only [List.length_append, List.length_cons] at h1 h4 ⊢
          omega
         clear hown2 hgr2
         go_wp2_with fail
         go_roundg gg
         case rel => exact ⟨nxS s t r, pn + (q1 - 1), (q2 + 1), a12, c12, ba9, bc9, vs9 ++ ur, (bb ++ [⟨(V1, V2), ta, tn, tc, T⟩]), (Gn W8 G w9), bs9, rfl, rfl, by show _ = Value.int .i64 ((s.d + 1 : Nat) : Int); go_num, by show s.d + 1 + gg = _; omega, HL3.out.2.1, HL3.out.2.2.1, HL3.out.1, HNX.out.2.1, HNX.out.1, HL3.out.2.2.2⟩
         case measure => omega
        ·have HL0 : Hid (Fi W8 r8 40 (.int .i64 kk) (.int .i64 V1) (.int .i64 V2) (.slice ta tn tc) (.slice pa pn pc) ∧ Dl W8 B B s.m (t :: r) s.bd (n0 + (s.d + 1)) (.slice (some ⟨g, 0, none⟩) q1 lc) (.slice ba q2 bc) (.slice uu1 uu2 uu3 :: ur) bb G bs ∧ RowAt W8 (.slice pa pn pc) P ∧ By w rz W8) := ⟨HF8.out.1, HF8.out.2.1.more (by omega), HF8.out.2.2.2.1, HF8.out.2.2.2.2⟩
         clear x0 x1 x2 x3 x4 hx
         have HS : Hid ((nxS s t r).m = s.m ∧ (nxS s t r).row = P ++ r ∧ (nxS s t r).bd = s.bd) := by
          unfold nxS
          rw [HSP.out.2.1]
          exact ⟨if_neg h2, rfl, if_neg h2⟩
         obtain ⟨vs9, k1, k2, k3, k4, k5, k6⟩ := left1 HL0.out.2.2.1
         have HL1 : Hid (_ ∧ _ ∧ _ ∧ _ ∧ _ ∧ _) := ⟨k1, k2, k3, k4, k5, k6⟩
         have hpn : pn ≤ 8 := by rw [← k2]; exact HSP.out.1.sp.1
         obtain ⟨⟨x0, x1, x2, x3, x4⟩, hx⟩ := HL0.out.1.cells
         clear k1 k2 k3 k4 k5 k6
         go_wp2_with (at_builtin; refine wpList_append_any _ rfl _ _ 33 rfl W8.heap.size 24 i0 (.slice none 0 0) 1 24 Tryz.underlying33 hi hz hs1 hby1 rfl (by decide) _ _ _ rfl HL1.out.2.2.2.2.1 pa pn pc vs9 rfl (by rw [HL1.out.1, Nat.mul_one]) HL1.out.2.2.1 HL1.out.2.2.2.1 (by unfold maxLen; omega) (by omega) (by simp) ?_)
         intro a9 c9 w11 hown hgr
         have HO1 : Hid (w11.ownsRow W8.heap.size 24 1 (.slice a9 pn c9) pn vs9 ∧ (W8.alloc (.cells #[] 24)).grownBy w11 (some W8.heap.size) ∧ W8.heap.size ≤ w11.heap.size) := ⟨by simpa using hown, hgr, by have := hgr.size; simp at this; omega⟩
         have HQ1 : Hid ((t :: r).length = q1) := by have := HI.out.1; rw [HSP.out.2.2] at this; exact this
         have HL2 : Hid (_ ∧ _ ∧ _) := left2 HL0.out.2.1 HQ1.out HRA.out HUS.out.2 HO1.out.2.1
         clear hown hgr
         go_wp2_with (at_builtin; refine wpList_append_any _ rfl _ _ 33 rfl W8.heap.size 24 i0 (.slice none 0 0) 1 24 Tryz.underlying33 hi hz hs1 hby1 rfl (by decide) _ _ _ rfl HO1.out.1 ra (q1 - 1) (lc - 1) ur rfl HL2.out.1 HL2.out.2.1 HL2.out.2.2 (by unfold maxLen; omega) (by omega) HO1.out.2.2 ?_)
         intro a12 c12 w12 hown2 hgr2
         have HL3 : Hid (Dl w12 B B (nxS s t r).m (nxS s t r).row (nxS s t r).bd (n0 + (nxS s t r).d) (.slice a12 (pn + (q1 - 1)) c12) (.slice ba q2 bc) (vs9 ++ ur) bb G bs ∧ (nxS s t r).row.length = pn + (q1 - 1) ∧ (nxS s t r).bd.length = q2 ∧ By w rz w12) := by
          obtain ⟨l1, l2⟩ := left3 HL0.out.2.1 HQ1.out HL1.out.1 HL1.out.2.1 HL1.out.2.2.2.2.2 HO1.out.2.1 HO1.out.1 hgr2 hown2
          have hsz := HL0.out.2.1.low.2
          rw [HS.out.1, HS.out.2.1, HS.out.2.2]
          refine ⟨l1, ?_, HI.out.2.1, HL0.out.2.2.2.next l2 (by have := HBB.out.2.1; omega)⟩
          have h1 := l1.ro.1
          have h2 := HL1.out.1
          have h3 := HL1.out.2.1
          have h4 := HQ1.out
          simp only [List.length_append, List.length_cons] at h1 h4 ⊢
          omega
         clear hown2 hgr2
         go_wp2_with fail
         go_roundg gg
         case rel => exact ⟨nxS s t r, pn + (q1 - 1), q2, a12, c12, ba, bc, vs9 ++ ur, bb, G, bs, rfl, rfl, by show _ = Value.int .i64 ((s.d + 1 : Nat) : Int); go_num, by show s.d + 1 + gg = _; omega, HL3.out.2.1, HL3.out.2.2.1, HL3.out.1, HNX.out.2.1, HNX.out.1, HL3.out.2.2.2⟩
         case measure => omega
   ·have HRF : Hid (RfH wr G rt bs ∧ hpOf bs = m ∧ RisesH m ∧ DescH m ∧ bs.length ≤ n0) := ⟨hq1, hq2, hq3, hq4, hq5⟩
    clear HQ hq1 hq2 hq3 hq4 hq5
    go_wp2_with fail
    refine H34.mono ?_
    rintro e w4 ⟨rfl, hf4, hb4⟩
    have H64 := z64 G rt bs w4 (HRF.out.1.below (by rw [HBB.out.1]; exact hb4)) (by have := HRF.out.2.2.2.2; omega)
    have HB4 : Hid (Below B wr w4 ∧ B ≤ w4.heap.size) := ⟨hb4, by have := hb4.size; have := HBB.out.1; omega⟩
    clear hf4 hb4 H34
    go_wp2_with fail
    refine H64.mono ?_
    rintro e w5 ⟨rfl, H5⟩
    obtain ⟨r5, hr5⟩ : ∃ r5, w4.heap.size = r5 := ⟨_, rfl⟩
    have HM : Hid ((∃ G bs, RfH w5 G r5 bs ∧ hpOf bs = m ∧ RisesH m ∧ DescH m ∧ bs.length ≤ n0) ∧ Below B wr w5 ∧ B ≤ r5) := by
     rw [← hr5]
     exact ⟨⟨_, bs, H5.out.1, HRF.out.2.1, HRF.out.2.2.1, HRF.out.2.2.2.1, HRF.out.2.2.2.2⟩, HB4.out.1.trans (H5.out.2.mono HB4.out.2), HB4.out.2⟩
    clear H5 HRF H64
    have HRW : Hid (RowAt (w5.alloc (.cells #[] 24)) (.slice a n c) ls ∧ Below B wr (w5.alloc (.cells #[] 24))) := by
     have h1 : Below B wr (w5.alloc (.cells #[] 24)) := HM.out.2.1.alloc (by have := HM.out.2.1.size; have := HBB.out.1; omega) _
     exact ⟨HV.out.2.2.1.below (HK.out.1.bel.trans (h1.mono (by rw [HBB.out.2.2.low]; exact Nat.le_of_lt HBB.out.2.1))), h1⟩
    obtain ⟨vs, hv1, hv2, hv3, hv4⟩ := row_news HRW.out.1
    have HVS : Hid (vs.length = n * 1 ∧ (n = 0 ∨ ∃ ad, a = some ad ∧ ∀ j u, vs[j]? = some u → (w5.alloc (.cells #[] 24)).cell? (ad.add j) = some u) ∧ (∀ u ∈ vs, u.oneCell' = true) ∧ (w5.alloc (.cells #[] 24)).ownsRow B 24 1 (.slice (some ⟨w5.heap.size, 0, none⟩) 0 0) 0 [] ∧ B ≤ (w5.alloc (.cells #[] 24)).heap.size) := by
     have h1 : B ≤ w5.heap.size := by have := HM.out.2.1.size; have := HBB.out.1; omega
     exact ⟨by rw [hv1, Nat.mul_one], hv2, hv3, World.ownsRow_made w5 #[] 0 h1 (by unfold maxLen; omega) rfl, by simp; omega⟩
    have HTS : Hid (∀ (j : Nat) (u : Value) (l : List C), vs[j]? = some u → ls[j]? = some l → TermAt (w5.alloc (.cells #[] 24)) u l) := hv4
    have HST : Hid (StaOk (Sta0 m ls) n0) := by
     refine ⟨HV.out.2.1, fun t ht => ⟨?_, HV.out.2.2.2.1 t ht⟩, fun b hb => (by cases hb), (by have := HV.out.2.2.2.2; show ls.length ≤ n0 + 8 * 0; omega), Nat.le_refl _⟩
     have h1 : noneB t = false := by
      cases h2 : noneB t
      ·rfl
      ·have h3 : ls.any noneB = true := List.any_eq_true.2 ⟨t, ht, h2⟩
       rw [HALL.out.1] at h3
       cases h3
     unfold noneB at h1
     simp only [Bool.or_eq_false_iff, Bool.not_eq_false'] at h1
     exact sht_right (global_right h1.1)
    obtain ⟨i0, hi, hz, hs1, hby1⟩ := infoT
    obtain ⟨j0, hj, hjz, hjs, hjb⟩ := info66
    clear hv1 hv2 hv3 hv4
    go_wp2_with (at_builtin; refine wpList_append_any _ rfl _ _ 33 rfl B 24 i0 (.slice none 0 0) 1 24 Tryz.underlying33 hi hz hs1 hby1 rfl (by decide) _ _ _ rfl HVS.out.2.2.2.1 a n c vs rfl HVS.out.1 HVS.out.2.1 HVS.out.2.2.1 (by unfold maxLen; omega) (by omega) HVS.out.2.2.2.2 ?_)
    intro la0 lc0 w6 hown6 hgr6
    have HD6 : Hid ((∃ us bb G bs, Dl w6 B r5 m ls [] n0 (.slice la0 n lc0) (.slice none 0 0) us bb G bs) ∧ By w rz w6) := by
     obtain ⟨G, bs, k1, k2, k3, k4, k5⟩ := HM.out.1
     have hB5 : B ≤ w5.heap.size := by have := HM.out.2.1.size; have := HBB.out.1; omega
     have hb6 : Below w5.heap.size w5 w6 := (below_alloc _ _).grown hgr6 (by simp) (fun z hz => by simp [Value.ownBlock] at hz; omega)
     have hb8 : Below B wr w6 := HM.out.2.1.trans (hb6.mono hB5)
     refine ⟨⟨vs, [], G, bs, k1.below hb6, k2, k3, k4, k5, ?_, fun j u l h1 h2 => ?_, World.ownsRow_nil _ _ _ _, rfl, fun b hb => (by cases hb), nu_nil _, fun g hg => (by simp [Value.ownBlock] at hg), HM.out.2.2, Nat.le_trans hB5 hb6.size⟩, HBB.out.2.2.next hb8 HBB.out.2.1⟩
     ·rw [HV.out.2.2.2.2.2]
      exact hown6
     ·exact (HTS.out j u l h1 h2).pastS hgr6 (heap_alloc_new w5 _) (by decide)
    clear hown6 hgr6
    go_wp2_with fail
    go_loopg [12, 13, 14] (N.toNat) (fun gg lv bv dv W => ∃ (s : Sta) (q1 q2 : Nat) (la : Option Addr) (lc : Nat) (ba : Option Addr) (bc : Nat) (us : List Value) (bb : List Bn) (G : Nat → Prop) (bs : List Bn), lv = .slice la q1 lc ∧ bv = .slice ba q2 bc ∧ dv = .int .i64 (s.d : Int) ∧ s.d + gg = N.toNat ∧ Hid (s.row.length = q1 ∧ s.bd.length = q2 ∧ Dl W B r5 s.m s.row s.bd (n0 + s.d) (.slice la q1 lc) (.slice ba q2 bc) us bb G bs ∧ StaOk s n0 ∧ solF gg s = SOL ∧ By w rz W))
    case atStart =>
     obtain ⟨us, bb, G, bs, hD⟩ := HD6.out.1
     exact ⟨Sta0 m ls, n, 0, la0, lc0, none, 0, us, bb, G, bs, rfl, rfl, rfl, Nat.zero_add _, HV.out.2.2.2.2.2, rfl, hD, HST.out, HALL.out.2, HD6.out.2⟩
    case round =>
     obtain ⟨s, q1, q2, la, lc, ba, bc, us, bb, G, bs, rfl, rfl, rfl, hsg, HI⟩ := hrel
     cases hrow : s.row with
     | nil =>
      obtain rfl : q1 = 0 := by rw [← HI.out.1, hrow]; rfl
      have HSO : Hid (SOL = ⟨1, s.bd, [], s.d⟩) := HI.out.2.2.2.2.1.symm.trans (solF_none hrow)
      obtain ⟨⟨y0, y1, y2, y3⟩, g0, g1, g2, g3⟩ := HI.out.2.2.2.2.2.cells
      clear hrow
      go_wp2_with fail
      refine bodyPost_ret (v := .agg #[.int .u8 1, .slice ba q2 bc, .slice none 0 0, .int .i64 (s.d : Int)]) (by simp [results, Tryz.results24, go_sem, y0, y1, y2, y3]) rfl ?_
      rw [HSO.out]
      have hf := HI.out.2.2.2.2.2.fill (.int .u8 1) (.slice ba q2 bc) (.slice none 0 0) (.int .i64 (s.d : Int))
      have ht := HI.out.2.2.1.tell (by rw [HI.out.1]; omega) hf.2.2 HBB.out.2.1 HI.out.2.2.2.2.2.blk (by decide)
      exact ⟨ba, q2, bc, none, 0, 0, rfl, ht.1 _ _ _ rfl, rowAt_nil _, hf.1⟩
     | cons t r =>
      have hq1p : (0 : Int) < (q1 : Int) := by have := HI.out.1; rw [hrow] at this; simp at this; omega
      have hOk := HI.out.2.2.2.1
      have hq1l : q1 ≤ 1000000000 := by have := hOk.len; have := HI.out.1; omega
      cases gk with
      | zero =>
       have hnl : ¬ (s.d : Int) < N := by omega
       have hge : N ≤ (s.d : Int) := by omega
       have HSO : Hid (SOL = ⟨3, s.bd, s.row, s.d⟩) := by
        have h := HI.out.2.2.2.2.1.symm.trans (solF_zero hrow)
        rw [hrow]
        exact h
       obtain ⟨⟨y0, y1, y2, y3⟩, g0, g1, g2, g3⟩ := HI.out.2.2.2.2.2.cells
       clear hrow hOk
       go_wp2_with fail
       refine bodyPost_ret (v := .agg #[.int .u8 3, .slice ba q2 bc, .slice la q1 lc, .int .i64 (s.d : Int)]) (by simp [results, Tryz.results24, go_sem, y0, y1, y2, y3]) rfl ?_
       rw [HSO.out]
       have hf := HI.out.2.2.2.2.2.fill (.int .u8 3) (.slice ba q2 bc) (.slice la q1 lc) (.int .i64 (s.d : Int))
       have ht := HI.out.2.2.1.tell (by rw [HI.out.1]; unfold maxLen; omega) hf.2.2 HBB.out.2.1 HI.out.2.2.2.2.2.blk (by decide)
       exact ⟨ba, q2, bc, la, q1, lc, rfl, ht.1 _ _ _ rfl, ht.2, hf.1⟩
      | succ gg =>
       have hnl : (s.d : Int) < N := by omega
       have hnge : ¬ N ≤ (s.d : Int) := by omega
       obtain ⟨kk, V1, V2, T, P, hnx⟩ : ∃ kk V1 V2 T P, nxK s t = ⟨kk, (V1, V2), T, P⟩ := ⟨_, _, _, _, _, rfl⟩
       have hstp := hOk.step hrow
       rw [hnx] at hstp
       have HSP : Hid (StepR s.m (sd1 t) (sd2 t) kk (V1, V2) T P ∧ nxK s t = ⟨kk, (V1, V2), T, P⟩ ∧ s.row = t :: r) := ⟨hstp, hnx, hrow⟩
       obtain ⟨g, u0, ur, hla, hg0, hgc, hus, hTu, hqc⟩ := (hrow ▸ HI.out.2.2.1 : Dl wr B r5 s.m (t :: r) s.bd (n0 + s.d) (.slice la q1 lc) (.slice ba q2 bc) us bb G bs).head
       subst hla
       obtain ⟨uu1, uu2, uu3, huf⟩ : ∃ a b c, u0 = .slice a b c := by obtain ⟨a, c, h⟩ := hTu.form; exact ⟨_, _, _, h⟩
       subst huf
       have HUS : Hid (us = .slice uu1 uu2 uu3 :: ur ∧ q1 ≤ lc) := ⟨hus, hqc⟩
       have HE : Calls Tryz.prog 63 #[.slice uu1 uu2 uu3] wr fun e w' => ∃ p1 p2 p3 q1 q2 q3, e = .returned (.tuple #[.slice p1 p2 p3, .slice q1 q2 q3, .bool (eqB t)]) ∧ Hid (TermAt w' (.slice p1 p2 p3) (sd1 t) ∧ TermAt w' (.slice q1 q2 q3) (sd2 t) ∧ Below wr.heap.size wr w') := by
        refine (u7s t _ wr hTu).mono ?_
        rintro e w' ⟨xa, xb, rfl, k1, k2, k3⟩
        obtain ⟨p1, p3, e1⟩ := k1.form
        obtain ⟨q1, q3, e2⟩ := k2.form
        subst e1 e2
        exact ⟨_, _, _, _, _, _, rfl, k1, k2, k3⟩
       clear hrow hOk hnx hstp hus hTu hqc
       generalize hEq : eqB t = EB at *
       clear hEq
       go_wp2_with fail
       refine HE.mono ?_
       rintro e w7 ⟨p1, p2, p3, p4, p5, p6, rfl, H7⟩
       have HD7 : Hid (Dl w7 B r5 s.m s.row s.bd (n0 + s.d) (.slice (some ⟨g, 0, none⟩) q1 lc) (.slice ba q2 bc) us bb G bs) := HI.out.2.2.1.below H7.out.2.2
       have H12 := HSP.out.1.rf w7 _ _ _ (HD7.out.der HI.out.2.2.2.1.hp (by omega)) H7.out.1 H7.out.2.1
       clear HE
       go_wp2_with fail
       refine H12.mono ?_
       rintro e w8 ⟨ta, tn, tc, pa, pn, pc, rfl, hT8, hR8, hb8⟩
       obtain ⟨W8, hW8⟩ : ∃ W8, w8.alloc (.cells #[.int .i64 kk, .int .i64 V1, .int .i64 V2, .slice ta tn tc, .slice pa pn pc] 40) = W8 := ⟨_, rfl⟩
       obtain ⟨r8, hr8⟩ : ∃ r8, w8.heap.size = r8 := ⟨_, rfl⟩
       have HF8 : Hid (Fi W8 r8 40 (.int .i64 kk) (.int .i64 V1) (.int .i64 V2) (.slice ta tn tc) (.slice pa pn pc) ∧ Dl W8 B r5 s.m (t :: r) s.bd (n0 + s.d) (.slice (some ⟨g, 0, none⟩) q1 lc) (.slice ba q2 bc) (.slice uu1 uu2 uu3 :: ur) bb G bs ∧ TermAt W8 (.slice ta tn tc) T ∧ RowAt W8 (.slice pa pn pc) P ∧ By w rz W8) := by
        have hb7 := H7.out.2.2.trans (hb8.mono H7.out.2.2.size)
        have hb9 : Below w8.heap.size w8 W8 := by rw [← hW8]; exact below_alloc _ _
        have hD8 := (HD7.out.below hb8).below hb9
        rw [HSP.out.2.2, HUS.out.1] at hD8
        refine ⟨by rw [← hW8, ← hr8]; exact Fi.new _ _ _ _ _ _ _, hD8, hT8.below hb9, hR8.below hb9, ?_⟩
        have h1 := HI.out.2.2.1.low.2
        refine (HI.out.2.2.2.2.2.next hb7 (by have := HBB.out.2.1; omega)).next hb9 ?_
        have := hb7.size
        have := HBB.out.2.1
        omega
       obtain ⟨⟨x0, x1, x2, x3, x4⟩, hx⟩ := HF8.out.1.cells
       obtain ⟨ra, hra⟩ : ∃ ra : Option Addr, (if lc = 1 then some (⟨g, 0, none⟩ : Addr) else some ⟨g, 1, none⟩) = ra := ⟨_, rfl⟩
       have HRA : Hid (lc = 1 ∨ ra = some ⟨g, 1, none⟩) := by
        by_cases h : lc = 1
        ·exact .inl h
        ·rw [if_neg h] at hra
         exact .inr hra.symm
       clear H12 hT8 hR8 hb8 H7 HD7
       by_cases h4 : kk = 4
       ·subst h4
        have HSO : Hid (SOL = ⟨2, [], [], s.d + 1⟩) := HI.out.2.2.2.2.1.symm.trans (solF_clash HSP.out.2.2 (by rw [HSP.out.2.1]))
        obtain ⟨⟨y0, y1, y2, y3⟩, g0, g1, g2, g3⟩ := HF8.out.2.2.2.2.cells
        go_wp2_with fail
        refine bodyPost_ret (v := .agg #[.int .u8 2, .slice none 0 0, .slice none 0 0, .int .i64 ((s.d + 1 : Nat) : Int)]) (by simp [results, Tryz.results24, go_sem, y0, y1, y2, y3]) rfl ?_
        rw [HSO.out]
        exact ⟨none, 0, 0, none, 0, 0, rfl, bs_nil _, rowAt_nil _, (HF8.out.2.2.2.2.fill _ _ _ _).1⟩
       ·have HNX : Hid (solF gg (nxS s t r) = SOL ∧ StaOk (nxS s t r) n0 ∧ (nxS s t r).d = s.d + 1) := ⟨(solF_next HSP.out.2.2 (by rw [HSP.out.2.1]; exact h4)).symm.trans HI.out.2.2.2.2.1, HI.out.2.2.2.1.next HSP.out.2.2, rfl⟩
        by_cases h2 : kk = 2
        ·subst h2
         have H35 := i24 G r5 bs (V1, V2) T (.slice ta tn tc) W8 HF8.out.2.1.rf HF8.out.2.2.1 (by have := HSP.out.1.st.1; omega) (by have := HF8.out.2.1.ln; omega)
         go_wp2_with fail
         refine H35.mono ?_
         rintro e w9 ⟨rfl, hBR⟩
         have hgr9 := hBR.choose_spec.2.2.2
         obtain ⟨bs9, hD9⟩ := HF8.out.2.1.bind hBR
         have HF9 : Hid (Fi w9 r8 40 (.int .i64 2) (.int .i64 V1) (.int .i64 V2) (.slice ta tn tc) (.slice pa pn pc) ∧ Dl w9 B r5 (bindH s.m (V1, V2) T) (t :: r) s.bd (n0 + s.d + 1) (.slice (some ⟨g, 0, none⟩) q1 lc) (.slice ba q2 bc) (.slice uu1 uu2 uu3 :: ur) bb (Gn W8 G w9) bs9 ∧ TermAt w9 (.slice ta tn tc) T ∧ RowAt w9 (.slice pa pn pc) P ∧ By w rz w9) := by
          have hrf := HF8.out.2.1.rf
          refine ⟨HF8.out.1.grown hgr9 fun z hz => ?_, hD9, HF8.out.2.2.1.past hgr9 hrf.noB, ?_, HF8.out.2.2.2.2.next ((Below.refl B W8).grown hgr9 HF8.out.2.1.low.2 fun z hz => ?_) HBB.out.2.1⟩
          ·obtain ⟨x, y, r1, _, _⟩ := hrf.ex
           simp only [Option.some.injEq] at hz
           subst hz
           exact ⟨_, 57, _, by decide, r1⟩
          ·have hP := HF8.out.2.2.2.1
           rw [HSP.out.1.kp (by decide)] at hP ⊢
           exact rowAt_empty hP hgr9.size
          ·simp only [Option.some.injEq] at hz
           subst hz
           exact HF8.out.2.1.low.1
         obtain ⟨⟨x0, x1, x2, x3, x4⟩, hx⟩ := HF9.out.1.cells
         have HOW : Hid ((w9.alloc (.cells #[.int .i64 V1, .int .i64 V2, .slice ta tn tc] 73)).ownsRow B 73 3 (.slice ba q2 bc) q2 (bb.flatMap encB) ∧ Nu (w9.alloc (.cells #[.int .i64 V1, .int .i64 V2, .slice ta tn tc] 73)) (.slice ba q2 bc) ∧ B ≤ (w9.alloc (.cells #[.int .i64 V1, .int .i64 V2, .slice ta tn tc] 73)).heap.size) := by
          have h1 := HF9.out.2.1.below (below_alloc w9 (.cells #[.int .i64 V1, .int .i64 V2, .slice ta tn tc] 73))
          have h2 := h1.bo
          rw [HI.out.2.1] at h2
          exact ⟨h2, h1.nu, h1.low.2⟩
         have hq2 : q2 ≤ 100000 := by have := HI.out.2.2.2.1.bl; have := HI.out.2.1; omega
         clear hBR hgr9 hD9 H35
         go_wp2_with (at_builtin; refine wpList_append_nu _ rfl _ _ 22 rfl B 73 j0 _ 3 40 Tryz.underlying22 hj hjz hjs hjb rfl (by decide) _ _ _ rfl HOW.out.1 ⟨w9.heap.size, 0, none⟩ 1 1 (encB (⟨(V1, V2), ta, tn, tc, T⟩ : Bn)) rfl rfl (new_bn w9 (⟨(V1, V2), ta, tn, tc, T⟩ : Bn)) (one_bn _) (by unfold maxLen; omega) (by omega) HOW.out.2.2 HOW.out.2.1 (noB_bn _) noB_zero ?_)
         intro ba9 bc9 w10 hown hgr hat hnu
         have HL0 : Hid (Fi w10 r8 40 (.int .i64 2) (.int .i64 V1) (.int .i64 V2) (.slice ta tn tc) (.slice pa pn pc) ∧ Dl w10 B r5 (bindH s.m (V1, V2) T) (t :: r) (s.bd ++ [((V1, V2), T)]) (n0 + (s.d + 1)) (.slice (some ⟨g, 0, none⟩) q1 lc) (.slice ba9 (q2 + 1) bc9) (.slice uu1 uu2 uu3 :: ur) (bb ++ [⟨(V1, V2), ta, tn, tc, T⟩]) (Gn W8 G w9) bs9 ∧ RowAt w10 (.slice pa pn pc) P ∧ By w rz w10) := by
          have hbA := below_alloc w9 (.cells #[.int .i64 V1, .int .i64 V2, .slice ta tn tc] 73)
          have hDA := HF9.out.2.1.below hbA
          have hbB := (Below.refl B (w9.alloc (.cells #[.int .i64 V1, .int .i64 V2, .slice ta tn tc] 73))).grown hgr HOW.out.2.2 fun z hz => (HOW.out.1.lt z hz).1
          refine ⟨(HF9.out.1.below hbA).grown hgr fun z hz => ?_, hDA.put (q := ⟨(V1, V2), ta, tn, tc, T⟩) (HF9.out.2.2.1.below hbA) (by rw [HI.out.2.1]; exact hown) hgr (by rw [World.size_alloc]; exact hat) hnu, ?_, (HF9.out.2.2.2.2.next (hbA.mono HF9.out.2.1.low.2) HBB.out.2.1).next hbB HBB.out.2.1⟩
          ·obtain ⟨cu, h1⟩ := own_typed HOW.out.1 z hz
           exact ⟨_, 73, _, by decide, h1⟩
          ·have hP := HF9.out.2.2.2.1
           rw [HSP.out.1.kp (by decide)] at hP ⊢
           exact rowAt_empty hP (Nat.le_trans hbA.size hgr.size)
         clear hown hgr hat hnu x0 x1 x2 x3 x4 hx
         have HS : Hid ((nxS s t r).m = bindH s.m (V1, V2) T ∧ (nxS s t r).row = P ++ r ∧ (nxS s t r).bd = s.bd ++ [((V1, V2), T)]) := by
          unfold nxS
          rw [HSP.out.2.1]
          exact ⟨rfl, rfl, rfl⟩
         obtain ⟨vs9, k1, k2, k3, k4, k5, k6⟩ := left1 HL0.out.2.2.1
         have HL1 : Hid (_ ∧ _ ∧ _ ∧ _ ∧ _ ∧ _) := ⟨k1, k2, k3, k4, k5, k6⟩
         have hpn : pn ≤ 8 := by rw [← k2]; exact HSP.out.1.sp.1
         obtain ⟨⟨x0, x1, x2, x3, x4⟩, hx⟩ := HL0.out.1.cells
         clear k1 k2 k3 k4 k5 k6
         go_wp2_with (at_builtin; refine wpList_append_any _ rfl _ _ 33 rfl w10.heap.size 24 i0 (.slice none 0 0) 1 24 Tryz.underlying33 hi hz hs1 hby1 rfl (by decide) _ _ _ rfl HL1.out.2.2.2.2.1 pa pn pc vs9 rfl (by rw [HL1.out.1, Nat.mul_one]) HL1.out.2.2.1 HL1.out.2.2.2.1 (by unfold maxLen; omega) (by omega) (by simp) ?_)
         intro a9 c9 w11 hown hgr
         have HO1 : Hid (w11.ownsRow w10.heap.size 24 1 (.slice a9 pn c9) pn vs9 ∧ (w10.alloc (.cells #[] 24)).grownBy w11 (some w10.heap.size) ∧ w10.heap.size ≤ w11.heap.size) := ⟨by simpa using hown, hgr, by have := hgr.size; simp at this; omega⟩
         have HQ1 : Hid ((t :: r).length = q1) := by have := HI.out.1; rw [HSP.out.2.2] at this; exact this
         have HL2 : Hid (_ ∧ _ ∧ _) := left2 HL0.out.2.1 HQ1.out HRA.out HUS.out.2 HO1.out.2.1
         clear hown hgr
         go_wp2_with (at_builtin; refine wpList_append_any _ rfl _ _ 33 rfl w10.heap.size 24 i0 (.slice none 0 0) 1 24 Tryz.underlying33 hi hz hs1 hby1 rfl (by decide) _ _ _ rfl HO1.out.1 ra (q1 - 1) (lc - 1) ur rfl HL2.out.1 HL2.out.2.1 HL2.out.2.2 (by unfold maxLen; omega) (by omega) HO1.out.2.2 ?_)
         intro a12 c12 w12 hown2 hgr2
         have HL3 : Hid (Dl w12 B r5 (nxS s t r).m (nxS s t r).row (nxS s t r).bd (n0 + (nxS s t r).d) (.slice a12 (pn + (q1 - 1)) c12) (.slice ba9 (q2 + 1) bc9) (vs9 ++ ur) (bb ++ [⟨(V1, V2), ta, tn, tc, T⟩]) (Gn W8 G w9) bs9 ∧ (nxS s t r).row.length = pn + (q1 - 1) ∧ (nxS s t r).bd.length = (q2 + 1) ∧ By w rz w12) := by
          obtain ⟨l1, l2⟩ := left3 HL0.out.2.1 HQ1.out HL1.out.1 HL1.out.2.1 HL1.out.2.2.2.2.2 HO1.out.2.1 HO1.out.1 hgr2 hown2
          have hsz := HL0.out.2.1.low.2
          rw [HS.out.1, HS.out.2.1, HS.out.2.2]
          refine ⟨l1, ?_, by rw [List.length_append, HI.out.2.1]; rfl, HL0.out.2.2.2.next l2 (by have := HBB.out.2.1; omega)⟩
          have h1 := l1.ro.1
          have h2 := HL1.out.1
          have h3 := HL1.out.2.1
          have h4 := HQ1.out
          simp only [List.length_append, List.length_cons] at h1 h4 ⊢
          omega
         clear hown2 hgr2
         go_wp2_with fail
         go_roundg gg
         case rel => exact ⟨nxS s t r, pn + (q1 - 1), (q2 + 1), a12, c12, ba9, bc9, vs9 ++ ur, (bb ++ [⟨(V1, V2), ta, tn, tc, T⟩]), (Gn W8 G w9), bs9, rfl, rfl, by show _ = Value.int .i64 ((s.d + 1 : Nat) : Int); go_num, by show s.d + 1 + gg = _; omega, HL3.out.2.1, HL3.out.2.2.1, HL3.out.1, HNX.out.2.1, HNX.out.1, HL3.out.2.2.2⟩
         case measure => omega
        ·have HL0 : Hid (Fi W8 r8 40 (.int .i64 kk) (.int .i64 V1) (.int .i64 V2) (.slice ta tn tc) (.slice pa pn pc) ∧ Dl W8 B r5 s.m (t :: r) s.bd (n0 + (s.d + 1)) (.slice (some ⟨g, 0, none⟩) q1 lc) (.slice ba q2 bc) (.slice uu1 uu2 uu3 :: ur) bb G bs ∧ RowAt W8 (.slice pa pn pc) P ∧ By w rz W8) := ⟨HF8.out.1, HF8.out.2.1.more (by omega), HF8.out.2.2.2.1, HF8.out.2.2.2.2⟩
         clear x0 x1 x2 x3 x4 hx
         have HS : Hid ((nxS s t r).m = s.m ∧ (nxS s t r).row = P ++ r ∧ (nxS s t r).bd = s.bd) := by
          unfold nxS
          rw [HSP.out.2.1]
          exact ⟨if_neg h2, rfl, if_neg h2⟩
         obtain ⟨vs9, k1, k2, k3, k4, k5, k6⟩ := left1 HL0.out.2.2.1
         have HL1 : Hid (_ ∧ _ ∧ _ ∧ _ ∧ _ ∧ _) := ⟨k1, k2, k3, k4, k5, k6⟩
         have hpn : pn ≤ 8 := by rw [← k2]; exact HSP.out.1.sp.1
         obtain ⟨⟨x0, x1, x2, x3, x4⟩, hx⟩ := HL0.out.1.cells
         clear k1 k2 k3 k4 k5 k6
         go_wp2_with (at_builtin; refine wpList_append_any _ rfl _ _ 33 rfl W8.heap.size 24 i0 (.slice none 0 0) 1 24 Tryz.underlying33 hi hz hs1 hby1 rfl (by decide) _ _ _ rfl HL1.out.2.2.2.2.1 pa pn pc vs9 rfl (by rw [HL1.out.1, Nat.mul_one]) HL1.out.2.2.1 HL1.out.2.2.2.1 (by unfold maxLen; omega) (by omega) (by simp) ?_)
         intro a9 c9 w11 hown hgr
         have HO1 : Hid (w11.ownsRow W8.heap.size 24 1 (.slice a9 pn c9) pn vs9 ∧ (W8.alloc (.cells #[] 24)).grownBy w11 (some W8.heap.size) ∧ W8.heap.size ≤ w11.heap.size) := ⟨by simpa using hown, hgr, by have := hgr.size; simp at this; omega⟩
         have HQ1 : Hid ((t :: r).length = q1) := by have := HI.out.1; rw [HSP.out.2.2] at this; exact this
         have HL2 : Hid (_ ∧ _ ∧ _) := left2 HL0.out.2.1 HQ1.out HRA.out HUS.out.2 HO1.out.2.1
         clear hown hgr
         go_wp2_with (at_builtin; refine wpList_append_any _ rfl _ _ 33 rfl W8.heap.size 24 i0 (.slice none 0 0) 1 24 Tryz.underlying33 hi hz hs1 hby1 rfl (by decide) _ _ _ rfl HO1.out.1 ra (q1 - 1) (lc - 1) ur rfl HL2.out.1 HL2.out.2.1 HL2.out.2.2 (by unfold maxLen; omega) (by omega) HO1.out.2.2 ?_)
         intro a12 c12 w12 hown2 hgr2
         have HL3 : Hid (Dl w12 B r5 (nxS s t r).m (nxS s t r).row (nxS s t r).bd (n0 + (nxS s t r).d) (.slice a12 (pn + (q1 - 1)) c12) (.slice ba q2 bc) (vs9 ++ ur) bb G bs ∧ (nxS s t r).row.length = pn + (q1 - 1) ∧ (nxS s t r).bd.length = q2 ∧ By w rz w12) := by
          obtain ⟨l1, l2⟩ := left3 HL0.out.2.1 HQ1.out HL1.out.1 HL1.out.2.1 HL1.out.2.2.2.2.2 HO1.out.2.1 HO1.out.1 hgr2 hown2
          have hsz := HL0.out.2.1.low.2
          rw [HS.out.1, HS.out.2.1, HS.out.2.2]
          refine ⟨l1, ?_, HI.out.2.1, HL0.out.2.2.2.next l2 (by have := HBB.out.2.1; omega)⟩
          have h1 := l1.ro.1
          have h2 := HL1.out.1
          have h3 := HL1.out.2.1
          have h4 := HQ1.out
          simp only [List.length_append, List.length_cons] at h1 h4 ⊢
          omega
         clear hown2 hgr2
         go_wp2_with fail
         go_roundg gg
         case rel => exact ⟨nxS s t r, pn + (q1 - 1), q2, a12, c12, ba, bc, vs9 ++ ur, bb, G, bs, rfl, rfl, by show _ = Value.int .i64 ((s.d + 1 : Nat) : Int); go_num, by show s.d + 1 + gg = _; omega, HL3.out.2.1, HL3.out.2.2.1, HL3.out.1, HNX.out.2.1, HNX.out.1, HL3.out.2.2.2⟩
         case measure => omega
end Go.Proofs.YtljggjllijacjaaGreatDoor
