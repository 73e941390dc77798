/- The statement on messages that are taken once, each in its order: it returns true. -/
import Derived.Test.YtnhomejenjinaaaLM
namespace Go.Proofs.Ytnhomejenjinaaa
open Go.RowKit
attribute [local go_sem ↓] Go.wp_at_zero Go.wp_at_succ
/-- A row of payloads. -/
def PlIn (w : World) (pa : Option Addr) (q : Nat) (ls : List (List Int)) : Prop := ls.length = q ∧ ∀ k, k < q → ∃ b o ua un uc xs, pa = some ⟨b, o, none⟩ ∧ b < w.heap.size ∧ w.cell? ⟨b, o + k, none⟩ = some (.slice ua un uc) ∧ By w ua un uc xs ∧ ls[k]? = some xs
/-- A row of numbers. -/
def InIn (w : World) (ca : Option Addr) (m : Nat) : Prop := ∀ k, k < m → ∃ b o x, ca = some ⟨b, o, none⟩ ∧ b < w.heap.size ∧ w.cell? ⟨b, o + k, none⟩ = some (.int .i64 x)
theorem row_app {w : World} {B : Nat} {e : TypeId} {a : Option Addr} {n c : Nat} {xs : List Value} (h : Row w B e a n c xs) {k : Nat} {u : Value} (hu : xs[k]? = some u) : ∃ g, a = some ⟨g, 0, none⟩ ∧ w.cell? ⟨g, k, none⟩ = some u := by
  have hk := (List.getElem?_eq_some_iff.1 hu).1
  rcases h.mem with ⟨_, e1⟩ | ⟨g, cu, e1, _⟩
  · have := h.cap
    have := h.len
    omega
  · rcases h.reads.2 with e2 | ⟨ad, e2, e3⟩
    · have := h.len
      omega
    · rw [e1] at e2
      cases e2
      have := e3 k u hu
      rw [Addr.add_mid, Nat.zero_add] at this
      exact ⟨g, e1, this⟩
theorem dg_at {w : World} {B n : Nat} {av : Value} {ds : List Sl} (h : w.ownsRow B 36 5 av n (encAll ds 0)) {k : Nat} {d : Sl} (hd : ds[k]? = some d) : ∃ g c, av = .slice (some ⟨g, 0, none⟩) n c ∧ w.cell? ⟨g, k * 5, none⟩ = some (.int .i64 0) ∧ w.cell? ⟨g, k * 5 + 1, none⟩ = some (.int .i64 1) ∧ w.cell? ⟨g, k * 5 + 2, none⟩ = some (.bool false) ∧ w.cell? ⟨g, k * 5 + 3, none⟩ = some (.int .i64 (k : Int)) ∧ w.cell? ⟨g, k * 5 + 4, none⟩ = some d.v := by
  have hk := (List.getElem?_eq_some_iff.1 hd).1
  have hl := h.1
  rw [encAll_len] at hl
  rcases h.2 with ⟨_, e1⟩ | ⟨g, cap, cur, e1, _⟩
  · omega
  · have hc := h.cells (g := g) (by rw [e1]; rfl)
    have hg : ∀ i u, (encD (0 + k) d)[i]? = some u → w.cell? ⟨g, k * 5 + i, none⟩ = some u := fun i u hu => by
      have := hc _ u (encAll_get ds 0 k d hd i u hu)
      rw [Addr.add_mid, Nat.zero_add] at this
      exact this
    rw [Nat.zero_add] at hg
    exact ⟨g, cap, e1, hg 0 _ rfl, hg 1 _ rfl, hg 2 _ rfl, hg 3 _ rfl, hg 4 _ rfl⟩
theorem ans_start (w : World) (a0 a1 a2 a3 a4 : Value) : ∃ W0 W6 r, w.alloc (.cells dz 36) = W0 ∧ w.heap.size = r ∧ (((((W0.setCell ⟨r, 0, none⟩ a0).setCell ⟨r, 1, none⟩ a1).setCell ⟨r, 2, none⟩ a2).setCell ⟨r, 3, none⟩ a3).setCell ⟨r, 4, none⟩ a4) = W6 ∧ DgC W0 r 0 0 0 false (.slice none 0 0) ∧ Below w.heap.size w W6 ∧ W6.heap[r]? = some (.cells #[a0, a1, a2, a3, a4] 36 (0, 0)) := by
  refine ⟨_, _, _, rfl, rfl, rfl, dg_cells (heap_alloc_new w _), ?_, ?_⟩
  · have h0 := Nat.le_refl w.heap.size
    exact ((((((Below.refl _ w).alloc h0 (.cells dz 36)).setCell h0 _).setCell h0 _).setCell h0 _).setCell h0 _).setCell h0 _
  · have e0 := heap_alloc_new w (.cells dz 36)
    have e1 := heap_setCell_same _ w.heap.size 0 _ 36 a0 e0
    have e2 := heap_setCell_same _ w.heap.size 1 _ 36 a1 e1
    have e3 := heap_setCell_same _ w.heap.size 2 _ 36 a2 e2
    have e4 := heap_setCell_same _ w.heap.size 3 _ 36 a3 e3
    have e5 := heap_setCell_same _ w.heap.size 4 _ 36 a4 e4
    rw [e5]
    rfl
theorem Lo.c22 {W : World} {B la lb : Nat} {ls : List (List Int)} {fi : Nat} {s : Sl} {l : List Sl} {t : Nat} {av : Value} {ds : List Sl} {ta : Option Addr} {tc : Nat} {ts : List Sl} (h : Lo W B la lb ls fi s l t av ds ta tc ts) (hs : s.a ≠ none) (sq sn : Nat) (hsn : sn = fi + l.length) (hq : sq < sn) (hf : sn ≤ 1000000) (hfi : fi ≤ t) (hqt : sq + 1 ≤ t) :
    Calls Try.prog 22 #[.pointer (some ⟨la, 0, none⟩), .int .i64 1, .int .i64 (sq : Int)] W fun e w' => e = .returned (.int .i64 0) ∧ Hid (∃ fi' s' l', Lo w' B la lb ls fi' s' l' t av ds ta tc ts ∧ sn = fi' + l'.length ∧ fi' ≤ t ∧ s'.a ≠ none ∧ Below B W w') := by
  have hlen : l.length = s.n := by have := h.lk.row.len; rw [List.length_map] at this; exact this
  obtain ⟨sa, n0, c⟩ := s
  dsimp only at hlen
  subst hlen
  rcases h.lk.row.mem with ⟨e, _⟩ | ⟨g, o, e, _⟩
  · exact absurd e hs
  · dsimp only at e
    subst e
    refine (l22g B la g o c (sq + 1 - fi) fi sq l W h.lk rfl (by omega) (by omega)).mono ?_
    rintro e w' ⟨rfl, k1, k2, k3⟩
    have hsz := k2.size
    have hB := h.ne.2.2
    refine ⟨rfl, fi + (sq + 1 - fi), _, _, h.sender hsz (fun k hk h1 h2 => k3 k hk h1 fun e => h2 (by rw [e]; rfl)) k1 (.inl rfl), ?_, by omega, by simp, k2⟩
    rw [List.length_drop]
    omega
set_option maxRecDepth 100000 in
set_option maxHeartbeats 8000000 in
theorem l4 (pa : Option Addr) (q pc : Nat) (ls : List (List Int)) (ca : Option Addr) (m cc : Nat) (w : World) (hP : PlIn w pa q ls) (hC : InIn w ca m) :
    Calls Try.prog 4 #[.slice pa q pc, .slice ca m cc] w fun e w' => e = .returned (.bool true) ∧ Below w.heap.size w w' := by
  obtain ⟨i36, hi36, hz36, hs36, hb36⟩ := info36
  obtain ⟨i34, hi34, hz34, hs34, hb34⟩ := infoSl
  have HP : Hid (PlIn w pa q ls ∧ InIn w ca m) := ⟨hP, hC⟩
  clear hP hC
  go_enter Try.func4, Try.ntmps4
  go_wp2_with fail
  refine (l7 w).mono ?_
  rintro e w1 ⟨rfl, hw1⟩
  obtain ⟨la, hla⟩ : ∃ la, w.heap.size = la := ⟨_, rfl⟩
  have HA : Hid (LkG w1 w.heap.size la ((0 : Nat) : Int) ⟨none, 0, 0⟩ [] ∧ Below w.heap.size w w1 ∧ w1.heap.size = la + 1 ∧ w.heap.size = la) := by
    rw [← hla]
    refine ⟨⟨?_, Nat.le_refl _, rowO_nil _ _ _, fun t ht => by cases ht⟩, ?_, by rw [hw1]; simp, rfl⟩
    · rw [hw1]
      exact heap_alloc_new w _
    · rw [hw1]
      exact (Below.refl _ w).alloc (Nat.le_refl _) _
  rw [hla]
  clear hw1 hla
  go_wp2_with fail
  refine (l7w w1).mono ?_
  rintro e w2 ⟨rfl, hw2⟩
  obtain ⟨lb, hlb⟩ : ∃ lb, w1.heap.size = lb := ⟨_, rfl⟩
  have HB : Hid (Lo w2 w.heap.size la lb ls 0 ⟨none, 0, 0⟩ [] 0 (.slice none 0 0) [] none 0 [] ∧ Below w.heap.size w w2) := by
    obtain ⟨k1, k2, k3, k4⟩ := HA.out
    have hb : Below w1.heap.size w1 w2 := by rw [hw2]; exact (Below.refl _ w1).alloc (Nat.le_refl _) _
    have h0 := k2.size
    refine ⟨⟨k1.below hb, ?_, ⟨by omega, by omega, Nat.le_trans h0 hb.size⟩, World.ownsRow_nil _ _ _ _, fun k d xs h => by simp at h, row_nil _ _ _, fun k d xs h => by simp at h, fun g h => by cases h⟩, k2.trans (hb.mono h0)⟩
    rw [hw2, ← hlb]
    exact heap_alloc_new w1 _
  rw [hlb]
  have HPl : Hid (∀ W, Below w.heap.size w W → ∀ k, k < q → ∃ b o ua un uc xs, pa = some ⟨b, o, none⟩ ∧ W.cell? ⟨b, o + k, none⟩ = some (.slice ua un uc) ∧ Hid (By W ua un uc xs ∧ ls[k]? = some xs ∧ (un = 0 ∨ ∀ g, blk ua = some g → g < w.heap.size))) := fun W hW k hk => by
    obtain ⟨b, o, ua, un, uc, xs, e1, e2, e3, e4, e5⟩ := HP.out.1.2 k hk
    have e6 : un = 0 ∨ ∀ g, blk ua = some g → g < w.heap.size := by
      rcases e4.mem with h | ⟨b', o', h1, h2, _⟩
      · exact .inl h
      · refine .inr fun g hg => ?_
        rw [h1] at hg
        simp only [blk_some, Option.some.injEq] at hg
        omega
    exact ⟨b, o, ua, un, uc, xs, e1, (hW.cell (p := ⟨b, o + k, none⟩) e2).trans e3, e4.below hW, e5, e6⟩
  have HIn : Hid (∀ k, k < m → ∃ b o x, ca = some ⟨b, o, none⟩ ∧ Hid (∀ W, Below w.heap.size w W → W.cell? ⟨b, o + k, none⟩ = some (.int .i64 x))) := fun k hk => by
    obtain ⟨b, o, x, e1, e2, e3⟩ := HP.out.2 k hk
    exact ⟨b, o, x, e1, fun W hW => (hW.cell (p := ⟨b, o + k, none⟩) e2).trans e3⟩
  obtain ⟨B, hB⟩ : ∃ B, w.heap.size = B := ⟨_, rfl⟩
  have HBw : Hid (w.heap.size = B ∧ B ≤ la ∧ la ≠ lb ∧ B ≤ lb) := by
    have h1 := HB.out.1.ne
    have h2 := HB.out.1.lk.hb
    exact ⟨hB, by rw [← hB]; exact h2, h1.1, by rw [← hB]; exact h1.2.1⟩
  rw [hB] at HB HPl HIn
  clear HA HP hw2 hlb
  go_wp2_with fail
  go_loopw [9, 10, 11, 12] (fun allv tkv sv iv wr => ∃ (i sn t : Nat) (aa : Option Addr) (ac : Nat) (ta : Option Addr) (tc : Nat), allv = .slice aa sn ac ∧ tkv = .slice ta t tc ∧ sv = .int .i64 sn ∧ iv = .int .i64 i ∧ sn ≤ i ∧ i ≤ 200 ∧ i ≤ m ∧ t ≤ sn ∧ sn ≤ q ∧ Hid (∃ fi s l ds ts, Lo wr B la lb ls fi s l t (.slice aa sn ac) ds ta tc ts ∧ ds.length = sn ∧ sn = fi + l.length ∧ fi ≤ t ∧ (0 < sn → s.a ≠ none) ∧ Below B w wr)) (fun _ _ _ iv _ => 200 - (intOf iv).toNat)
  case atStart => exact ⟨0, 0, 0, none, 0, none, 0, rfl, rfl, rfl, rfl, Nat.le_refl _, by omega, Nat.zero_le _, Nat.le_refl _, Nat.zero_le _, 0, _, _, _, _, HB.out.1, rfl, rfl, Nat.le_refl _, fun h => by omega, HB.out.2⟩
  case round =>
    clear HB
    obtain ⟨i, sn, t, aa, ac, ta, tc, rfl, rfl, rfl, rfl, hsi, hi2, him, hts, hsq, HI'⟩ := hrel
    obtain ⟨fi, s, l, ds, ts, HI⟩ : ∃ fi s l ds ts, Hid (Lo wr B la lb ls fi s l t (.slice aa sn ac) ds ta tc ts ∧ ds.length = sn ∧ sn = fi + l.length ∧ fi ≤ t ∧ (0 < sn → s.a ≠ none) ∧ Below B w wr) := HI'.out
    clear HI'
    by_cases hgo : i < m ∧ i < 200
    · obtain ⟨hm1, hm2⟩ := hgo
      have hm1I : (i : Int) < (m : Int) := by omega
      have hm2I : (i : Int) < 200 := by omega
      have hi0 : (0 : Int) ≤ (i : Int) := by omega
      obtain ⟨cb, co, x, rfl, HX1⟩ := HIn.out i hm1
      have px := HX1.out wr HI.out.2.2.2.2.2
      by_cases hx : x < 0
      · by_cases hs : sn < q
        · have hsI : (sn : Int) < (q : Int) := by omega
          have hs0 : (0 : Int) ≤ (sn : Int) := by omega
          obtain ⟨b, o, ua, un, uc, ys, rfl, py, hy⟩ := HPl.out wr HI.out.2.2.2.2.2 sn hs
          by_cases hln : un ≤ 65536
          · have hlnI : (un : Int) ≤ 65536 := by omega
            have H14 : Calls Try.prog 14 #[.pointer (some ⟨la, 0, none⟩), .int .i64 1, .slice ua un uc] wr fun e w' => ∃ a' c', e = .returned (.tuple #[.agg #[.int .i64 0, .int .i64 1, .bool false, .int .i64 (sn : Int), .slice a' un c'], .int .i64 0]) ∧ Hid ((∃ s' l', Lo w' B la lb ls fi s' l' t (.slice aa sn ac) ds ta tc ts ∧ l'.length = l.length + 1 ∧ s'.a ≠ none) ∧ Row w' B 5 a' un c' (u8s ys) ∧ Below B w w') := by
              obtain ⟨h1, h2, h3, h4, h5, h6⟩ := HI.out
              refine (l14g B la fi sn s l ua un uc ys wr h1.lk h1.ne.2.2 hy.out.1 ?_ hln h3 (by omega)).mono ?_
              · rcases hy.out.2.2 with h7 | h7
                · exact .inl h7
                · refine .inr fun g hg => ?_
                  have h7 := h7 g hg
                  have h8 := HBw.out
                  refine ⟨by have := h1.ne.2.2; omega, by omega, fun e => ?_⟩
                  have := (h1.lk.row.lt e).1
                  omega
              · rintro e w' ⟨a', c', rfl, ⟨s', t', k1, k2, k3, k4, k5, k6, k7⟩, k8⟩
                refine ⟨a', c', rfl, ⟨s', l ++ [t'], h1.sender k5 k6 k1 k7, by simp, fun e => ?_⟩, k8.base h1.ne.2.2, h6.trans k4⟩
                rcases k1.row.mem with ⟨_, e2⟩ | ⟨g, o', e2, _⟩
                · have := k1.row.cap
                  omega
                · rw [e] at e2
                  cases e2
            have HX : Hid (sn = fi + l.length ∧ fi ≤ t ∧ ds.length = sn ∧ ls[sn]? = some ys) := ⟨HI.out.2.2.1, HI.out.2.2.2.1, HI.out.2.1, hy.out.2.1⟩
            clear HI hy
            go_wp2_with fail
            refine H14.mono ?_
            rintro e w3 ⟨a', c', rfl, H3⟩
            clear H14 px py
            obtain ⟨W3, hW3⟩ : ∃ W3, w3.alloc (.cells #[.int .i64 0, .int .i64 1, .bool false, .int .i64 (sn : Int), .slice a' un c'] 36) = W3 := ⟨_, rfl⟩
            obtain ⟨r3, hr3⟩ : ∃ r3, w3.heap.size = r3 := ⟨_, rfl⟩
            have hb3 : Below w3.heap.size w3 W3 := by rw [← hW3]; exact (Below.refl _ w3).alloc (Nat.le_refl _) _
            have hc3 : W3.heap[r3]? = some (.cells #[.int .i64 0, .int .i64 1, .bool false, .int .i64 (sn : Int), .slice a' un c'] 36 (0, 0)) := by rw [← hW3, ← hr3]; exact heap_alloc_new w3 _
            obtain ⟨b0, b1, b2, b3, b4, _, _, _, _, _⟩ := dg_cells hc3
            obtain ⟨s', l', hLo⟩ : ∃ s' l', Lo w3 B la lb ls fi s' l' t (.slice aa sn ac) ds ta tc ts ∧ l'.length = l.length + 1 ∧ s'.a ≠ none := H3.out.1
            have HL3 : Hid (Lo W3 B la lb ls fi s' l' t (.slice aa sn ac) ds ta tc ts ∧ l'.length = l.length + 1 ∧ s'.a ≠ none ∧ Row W3 B 5 a' un c' (u8s ys) ∧ Below B w W3) := ⟨hLo.1.below hb3, hLo.2.1, hLo.2.2, H3.out.2.1.below hb3, H3.out.2.2.trans (hb3.mono hLo.1.ne.2.2)⟩
            have HO : Hid (W3.ownsRow B 36 5 (.slice aa sn ac) sn (encAll ds 0) ∧ B ≤ W3.heap.size) := by
              have h1 := HL3.out.1.all
              rw [HX.out.2.2.1] at h1
              exact ⟨h1, HL3.out.1.ne.2.2⟩
            clear hb3 hc3 hLo H3
            go_wp2_with (at_builtin; refine wpList_append_own _ rfl _ _ 51 rfl B 36 i36 (.agg dz) 5 56 Try.underlying51 hi36 hz36 hs36 hb36 rfl (by decide) (.slice aa sn ac) sn (encAll ds 0) rfl (HO.out.1.alloc _) ⟨W3.heap.size, 0, none⟩ 1 1 [.int .i64 0, .int .i64 1, .bool false, .int .i64 (sn : Int), .slice a' un c'] rfl rfl (World.news_of_block (cs := #[.int .i64 0, .int .i64 1, .bool false, .int .i64 (sn : Int), .slice a' un c']) (t := 36) (fr := (0, 0)) (heap_alloc_new W3 _)) (by simp [Value.oneCell']) (by unfold maxLen; omega) (by omega) (by have := HO.out.2; simp; omega) ?_)
            intro v' w5 hown5 hgr5 _
            obtain ⟨aa', ac', rfl⟩ := owns_slice hown5
            have HE : Hid (Lo w5 B la lb ls fi s' l' t (.slice aa' (sn + 1) ac') (ds ++ [⟨a', un, c'⟩]) ta tc ts ∧ l'.length = l.length + 1 ∧ s'.a ≠ none ∧ Below B w w5) := by
              obtain ⟨k1, k2, k3, k4, k5⟩ := HL3.out
              obtain ⟨x1, x2, x3, x4⟩ := HX.out
              have hb4 : Below W3.heap.size W3 (W3.alloc (.cells #[.int .i64 0, .int .i64 1, .bool false, .int .i64 (sn : Int), .slice a' un c'] 36)) := (Below.refl _ W3).alloc (Nat.le_refl _) _
              have hLo4 := k1.below hb4
              refine ⟨hLo4.sent (d := ⟨a', un, c'⟩) hgr5 (by rw [x3]; exact hown5) (fun xs hxs => ?_), k2, k3, (k5.trans (hb4.mono k1.ne.2.2)).grown hgr5 hLo4.ne.2.2 (fun r hr => (hLo4.all.lt r hr).1)⟩
              rw [x3, x4] at hxs
              cases hxs
              exact k4.below hb4
            clear hown5 hgr5 HO HL3 b0 b1 b2 b3 b4
            go_wp2_with fail
            go_roundw
            case rel => exact ⟨i + 1, sn + 1, t, aa', ac', ta, tc, rfl, rfl, by go_num, by go_num, by omega, by omega, by omega, by omega, by omega, fi, s', l', _, ts, HE.out.1, by have := HX.out.2.2.1; simp; omega, by have := HX.out.1; have := HE.out.2.1; omega, HX.out.2.1, fun _ => HE.out.2.2.1, HE.out.2.2.2⟩
            case measure => simp [intOf]; omega
          · have hlnI : ¬ (un : Int) ≤ 65536 := by omega
            clear hy
            rcases Nat.eq_zero_or_pos sn with h0 | h0
            · subst h0
              simp only [Nat.add_zero] at py
              go_wp2_with fail
              go_roundw
              case rel => exact ⟨i + 1, 0, t, aa, ac, ta, tc, rfl, rfl, rfl, by go_num, by omega, by omega, by omega, hts, hsq, fi, s, l, ds, ts, HI.out⟩
              case measure => simp [intOf]; omega
            · have h0I : ((sn : Int) == 0) = false := by rw [beq_eq_false_iff_ne]; omega
              go_wp2_with fail
              go_roundw
              case rel => exact ⟨i + 1, sn, t, aa, ac, ta, tc, rfl, rfl, rfl, by go_num, by omega, by omega, by omega, hts, hsq, fi, s, l, ds, ts, HI.out⟩
              case measure => simp [intOf]; omega
        · have hsI : ¬ (sn : Int) < (q : Int) := by omega
          rcases Nat.eq_zero_or_pos sn with h0 | h0
          · subst h0
            go_wp2_with fail
            go_roundw
            case rel => exact ⟨i + 1, 0, t, aa, ac, ta, tc, rfl, rfl, rfl, by go_num, by omega, by omega, by omega, hts, hsq, fi, s, l, ds, ts, HI.out⟩
            case measure => simp [intOf]; omega
          · have h0I : ((sn : Int) == 0) = false := by rw [beq_eq_false_iff_ne]; omega
            go_wp2_with fail
            go_roundw
            case rel => exact ⟨i + 1, sn, t, aa, ac, ta, tc, rfl, rfl, rfl, by go_num, by omega, by omega, by omega, hts, hsq, fi, s, l, ds, ts, HI.out⟩
            case measure => simp [intOf]; omega
      · by_cases hs0 : sn = 0
        · subst hs0
          go_wp2_with fail
          go_roundw
          case rel => exact ⟨i + 1, 0, t, aa, ac, ta, tc, rfl, rfl, rfl, by go_num, by omega, by omega, by omega, hts, hsq, fi, s, l, ds, ts, HI.out⟩
          case measure => simp [intOf]; omega
        · have hsp : 0 < sn := by omega
          have hs0I : ((sn : Int) == 0) = false := by rw [beq_eq_false_iff_ne]; omega
          have hx0 : (0 : Int) ≤ x := by omega
          obtain ⟨k, hk⟩ : ∃ k : Nat, x.tmod (sn : Int) = (k : Int) := ⟨(x.tmod (sn : Int)).toNat, by rw [Int.toNat_of_nonneg (Int.tmod_nonneg _ hx0)]⟩
          have hks : k < sn := by
            have := Int.tmod_lt_of_pos x (show (0 : Int) < (sn : Int) by omega)
            omega
          have hkI0 : (0 : Int) ≤ (k : Int) := by omega
          have hkI : (k : Int) < (sn : Int) := by omega
          obtain ⟨d, hd⟩ : ∃ d, ds[k]? = some d := ⟨_, List.getElem?_eq_getElem (by have := HI.out.2.1; omega)⟩
          obtain ⟨g, gc, hge, z0, z1, z2, z3, z4⟩ := dg_at (by have h := HI.out.1.all; rw [HI.out.2.1] at h; exact h) hd
          simp only [Value.slice.injEq, true_and] at hge
          obtain ⟨rfl, rfl⟩ := hge
          obtain ⟨da, dn, dc⟩ := d
          simp only [Sl.v] at z4
          have HD : Hid (ds[k]? = some ⟨da, dn, dc⟩) := hd
          obtain ⟨W5, hW5⟩ : ∃ W5, wr.alloc (.cells #[.int .i64 0, .int .i64 1, .bool false, .int .i64 (k : Int), .slice da dn dc] 36) = W5 := ⟨_, rfl⟩
          obtain ⟨r5, hr5⟩ : ∃ r5, wr.heap.size = r5 := ⟨_, rfl⟩
          have hb5 : Below wr.heap.size wr W5 := by rw [← hW5]; exact (Below.refl _ wr).alloc (Nat.le_refl _) _
          have HL5 : Hid (Lo W5 B la lb ls fi s l t (.slice (some ⟨g, 0, none⟩) sn ac) ds ta tc ts ∧ Below B w W5 ∧ W5.heap[r5]? = some (.cells #[.int .i64 0, .int .i64 1, .bool false, .int .i64 (k : Int), .slice da dn dc] 36 (0, 0))) := ⟨HI.out.1.below hb5, HI.out.2.2.2.2.2.trans (hb5.mono HI.out.1.ne.2.2), by rw [← hW5, ← hr5]; exact heap_alloc_new wr _⟩
          have HN : Hid (ds.length = sn ∧ sn = fi + l.length ∧ fi ≤ t ∧ s.a ≠ none) := ⟨HI.out.2.1, HI.out.2.2.1, HI.out.2.2.2.1, HI.out.2.2.2.2.1 hsp⟩
          obtain ⟨b0, b1, b2, b3, b4, _, _, _, _, _⟩ := dg_cells HL5.out.2.2
          clear hb5 hd HI
          go_wp2_with fail
          clear hW5 hr5 z0 z1 z2 z3 z4 px hk
          by_cases hkt : k = t
          · subst hkt
            refine (l18_fresh lb k da dn dc W5 HL5.out.1.lw (by omega)).mono ?_
            rintro e w6 ⟨rfl, hb6⟩
            obtain ⟨W0, W6, r6, hW0, hr6, hst, ⟨e0, e1, e2, e3, e4, g0, g1, g2, g3, g4⟩, hb8, hc6⟩ := ans_start w6 (.int .i64 1) (.int .i64 0) (.bool true) (.int .i64 (k : Int)) (.slice none 0 0)
            have hb7 : Below W5.heap.size W5 W6 := hb6.trans (hb8.mono hb6.size)
            have HL6 : Hid (Lo W6 B la lb ls fi s l k (.slice (some ⟨g, 0, none⟩) sn ac) ds ta tc ts ∧ Below B w W6 ∧ W6.heap[r6]? = some (.cells #[.int .i64 1, .int .i64 0, .bool true, .int .i64 (k : Int), .slice none 0 0] 36 (0, 0)) ∧ W6.heap[r5]? = some (.cells #[.int .i64 0, .int .i64 1, .bool false, .int .i64 (k : Int), .slice da dn dc] 36 (0, 0))) := ⟨HL5.out.1.below hb7, HL5.out.2.1.trans (hb7.mono HL5.out.1.ne.2.2), hc6, (hb7.block r5 (Array.getElem?_eq_some_iff.1 HL5.out.2.2).1).trans HL5.out.2.2⟩
            have q4 := (dg_cells HL6.out.2.2.2).c4
            have HRow : Hid (Row W6 B 34 ta k tc (ts.map Sl.v) ∧ B ≤ W6.heap.size) := ⟨HL6.out.1.tk, HL6.out.1.ne.2.2⟩
            clear hb6 hb7 hb8 hc6 b0 b1 b2 b3 b4
            go_wp2_with (at_builtin; refine wpList_append_row _ rfl _ _ 49 rfl B 34 i34 (.slice none 0 0) 24 Try.underlying49 hi34 hz34 hs34 hb34 rfl ta k tc (ts.map Sl.v) rfl (HRow.out.1.alloc _) (some ⟨W6.heap.size, 0, none⟩) 1 1 [.slice da dn dc] rfl (reads_block (cs := #[.slice da dn dc]) (heap_alloc_new W6 _)) (by simp [Value.oneCell']) (fun e => by cases e) (by unfold maxLen; omega) (by omega) (by have := HRow.out.2; simp; omega) ?_)
            intro ta' tc' w7 hr7 hg7 ho7 _ _
            have HT7 : Hid ((LkG w7 B la (fi : Int) s l ∧ LwB w7 lb (k : Int) ∧ B ≤ w7.heap.size ∧ w7.ownsRow B 36 5 (.slice (some ⟨g, 0, none⟩) sn ac) ds.length (encAll ds 0) ∧ (∀ (k : Nat) (d : Sl) (xs : List Int), ds[k]? = some d → ls[k]? = some xs → Row w7 B 5 d.a d.n d.c (u8s xs)) ∧ Row w7 B 34 ta' (k + 1) tc' ((ts ++ [(⟨da, dn, dc⟩ : Sl)]).map Sl.v) ∧ (∀ (k : Nat) (x : Sl) (xs : List Int), (ts ++ [(⟨da, dn, dc⟩ : Sl)])[k]? = some x → ls[k]? = some xs → Row w7 B 5 x.a x.n x.c (u8s xs)) ∧ ∀ g, blk ta' = some g → blk s.a ≠ some g) ∧ Below B w w7 ∧ w7.heap[r6]? = W6.heap[r6]? ∧ w7.heap[r5]? = W6.heap[r5]? ∧ r6 < w7.heap.size ∧ r5 < w7.heap.size) := by
              obtain ⟨k1, k2, k3, k4⟩ := HL6.out
              have hb4 : Below W6.heap.size W6 (W6.alloc (.cells #[.slice da dn dc] 34)) := (Below.refl _ W6).alloc (Nat.le_refl _) _
              have hLo4 := k1.below hb4
              have hlen : ts.length = k := by have := k1.tk.len; rw [List.length_map] at this; exact this
              have hl6 := (Array.getElem?_eq_some_iff.1 k3).1
              have hl5 := (Array.getElem?_eq_some_iff.1 k4).1
              have hno : ∀ (r : Nat) (cu : Array Value), W6.heap[r]? = some (.cells cu 36 (0, 0)) → w7.heap[r]? = W6.heap[r]? := fun r cu hc => by
                have hl := (Array.getElem?_eq_some_iff.1 hc).1
                refine (hg7.block r (Nat.lt_of_lt_of_le hl hb4.size) fun e => ?_).trans (hb4.block r hl)
                obtain ⟨cu2, h4⟩ := hLo4.tk.kind e.symm
                rw [hb4.block r hl, hc] at h4
                simp only [Option.some.injEq, Obj.cells.injEq] at h4
                exact absurd h4.2.1 (by decide)
              have hsz := Nat.le_trans hb4.size hg7.size
              refine ⟨hLo4.taken (d := ⟨da, dn, dc⟩) hg7 hr7 ?_ (fun xs hxs => ?_) hLo4.lw, (k2.trans (hb4.mono k1.ne.2.2)).grown hg7 hLo4.ne.2.2 (fun r hr => (hLo4.tk.lt hr).1), hno r6 _ k3, hno r5 _ k4, Nat.lt_of_lt_of_le hl6 hsz, Nat.lt_of_lt_of_le hl5 hsz⟩
              · rcases ho7 with e | ⟨g', e, h6, _⟩
                · exact .inl e
                · exact .inr ⟨g', e, by simpa using h6⟩
              · rw [hlen] at hxs
                exact (k1.dby k _ xs HD.out hxs).below hb4
            have H20 : Calls Try.prog 20 #[.pointer (some ⟨lb, 0, none⟩), .int .i64 0] w7 fun e w' => e = .returned (.int .i64 0) ∧ Hid (Lo w' B la lb ls fi s l (k + 1) (.slice (some ⟨g, 0, none⟩) sn ac) ds ta' tc' (ts ++ [⟨da, dn, dc⟩]) ∧ Below B w w' ∧ w'.heap[r6]? = W6.heap[r6]? ∧ w'.heap[r5]? = W6.heap[r5]?) := by
              obtain ⟨k1, k2, k3, k4, k5, k6⟩ := HT7.out
              refine (l20w lb k w7 k1.2.1 (by omega)).mono ?_
              rintro e w' ⟨rfl, j1, j2, j3, j4⟩
              have hne : ∀ (r : Nat) (cu : Array Value), W6.heap[r]? = some (.cells cu 36 (0, 0)) → w7.heap[r]? = W6.heap[r]? → r ≠ lb := fun r cu h1 h2 e => by
                have h3 := k1.2.1
                unfold LwB at h3
                rw [← e, h2, h1] at h3
                simp only [Option.some.injEq, Obj.cells.injEq] at h3
                exact absurd h3.2.1 (by decide)
              exact ⟨rfl, Lo.note k1 ⟨HBw.out.2.2.1, HBw.out.2.2.2⟩ j1 j3 j4, k2.trans (j2 B HBw.out.2.2.2), (j4 r6 (hne r6 _ HL6.out.2.2.1 k3)).trans k3, (j4 r5 (hne r5 _ HL6.out.2.2.2 k4)).trans k4⟩
            clear hr7 hg7 ho7 HRow q4 e0 e1 e2 e3 e4 g0 g1 g2 g3 g4 hst hW0 hr6
            go_wp2_with fail
            refine H20.mono ?_
            rintro e w8 ⟨rfl, H8⟩
            clear H20
            obtain ⟨b0, b1, b2, b3, b4, _, _, _, _, _⟩ := dg_cells (H8.out.2.2.2.trans HL6.out.2.2.2)
            have H18 : Calls Try.prog 18 #[.pointer (some ⟨lb, 0, none⟩), .agg #[.int .i64 0, .int .i64 1, .bool false, .int .i64 (k : Int), .slice da dn dc]] w8 fun e w' => e = .returned (.tuple #[.bool false, .agg #[.int .i64 1, .int .i64 0, .bool true, .int .i64 (k : Int), .slice none 0 0], .bool true, .int .i64 0]) ∧ Below w8.heap.size w8 w' := by
              have h := l18_old lb (k + 1) (k : Int) da dn dc w8 H8.out.1.lw (by omega) (by omega) (by omega) (by omega)
              rw [show (((k + 1 : Nat) : Int) - 1) = (k : Int) by omega] at h
              exact h
            go_wp2_with fail
            refine H18.mono ?_
            rintro e w9 ⟨rfl, hb9⟩
            obtain ⟨W0', W9, r9, hW9, hr9, hst, ⟨e0, e1, e2, e3, e4, g0, g1, g2, g3, g4⟩, hb10, hc9⟩ := ans_start w9 (.int .i64 1) (.int .i64 0) (.bool true) (.int .i64 (k : Int)) (.slice none 0 0)
            have hb7 : Below w8.heap.size w8 W9 := hb9.trans (hb10.mono hb9.size)
            have HL9 : Hid (Lo W9 B la lb ls fi s l (k + 1) (.slice (some ⟨g, 0, none⟩) sn ac) ds ta' tc' (ts ++ [⟨da, dn, dc⟩]) ∧ Below B w W9 ∧ W9.heap[r6]? = some (.cells #[.int .i64 1, .int .i64 0, .bool true, .int .i64 (k : Int), .slice none 0 0] 36 (0, 0))) := by
              obtain ⟨k1, k2, k3, k4⟩ := H8.out
              have k5 := k3.trans HL6.out.2.2.1
              exact ⟨k1.below hb7, k2.trans (hb7.mono k1.ne.2.2), (hb7.block r6 (Array.getElem?_eq_some_iff.1 k5).1).trans k5⟩
            have ans3 := (dg_cells HL9.out.2.2).c3
            clear hb7 hb9 hb10 hc9 b0 b1 b2 b3 b4 H18 HT7
            have px3 := HX1.out W9 HL9.out.2.1
            by_cases h3 : x.tmod 3 = 0
            · have H22 : Calls Try.prog 22 #[.pointer (some ⟨la, 0, none⟩), .int .i64 1, .int .i64 (k : Int)] W9 fun e w' => e = .returned (.int .i64 0) ∧ Hid (∃ fi' s' l', Lo w' B la lb ls fi' s' l' (k + 1) (.slice (some ⟨g, 0, none⟩) sn ac) ds ta' tc' (ts ++ [⟨da, dn, dc⟩]) ∧ sn = fi' + l'.length ∧ fi' ≤ (k + 1) ∧ s'.a ≠ none ∧ Below B W9 w') := HL9.out.1.c22 HN.out.2.2.2 k sn HN.out.2.1 (by omega) (by omega) (by have := HN.out.2.2.1; omega) (by omega)
              go_wp2_with fail
              refine H22.mono ?_
              rintro e w11 ⟨rfl, H11⟩
              have HF : Hid (∃ fi' s' l', Lo w11 B la lb ls fi' s' l' (k + 1) (.slice (some ⟨g, 0, none⟩) sn ac) ds ta' tc' (ts ++ [⟨da, dn, dc⟩]) ∧ ds.length = sn ∧ sn = fi' + l'.length ∧ fi' ≤ (k + 1) ∧ (0 < sn → s'.a ≠ none) ∧ Below B w w11) := by
                obtain ⟨fi', s', l', k1, k2, k3, k4, k5⟩ := H11.out
                exact ⟨fi', s', l', k1, HN.out.1, k2, k3, fun _ => k4, HL9.out.2.1.trans k5⟩
              clear H22 px3 ans3 H11
              go_wp2_with fail
              go_roundw
              case rel =>
                obtain ⟨fi', s', l', k1⟩ := HF.out
                exact ⟨i + 1, sn, (k + 1), _, ac, ta', tc', rfl, rfl, rfl, by go_num, by omega, by omega, by omega, by omega, by omega, fi', s', l', ds, _, k1⟩
              case measure => simp [intOf]; omega
            · obtain ⟨z, hz⟩ : ∃ z, x.tmod 3 = z := ⟨_, rfl⟩
              have h3I : (z == 0) = false := by rw [beq_eq_false_iff_ne, ← hz]; exact h3
              clear h3
              have HF : Hid (∃ fi' s' l', Lo W9 B la lb ls fi' s' l' (k + 1) (.slice (some ⟨g, 0, none⟩) sn ac) ds ta' tc' (ts ++ [⟨da, dn, dc⟩]) ∧ ds.length = sn ∧ sn = fi' + l'.length ∧ fi' ≤ (k + 1) ∧ (0 < sn → s'.a ≠ none) ∧ Below B w W9) := ⟨fi, s, l, HL9.out.1, HN.out.1, HN.out.2.1, (by have := HN.out.2.2.1; omega), fun _ => HN.out.2.2.2, HL9.out.2.1⟩
              go_wp2_with fail
              go_roundw
              case rel =>
                obtain ⟨fi', s', l', k1⟩ := HF.out
                exact ⟨i + 1, sn, (k + 1), _, ac, ta', tc', rfl, rfl, rfl, by go_num, by omega, by omega, by omega, by omega, by omega, fi', s', l', ds, _, k1⟩
              case measure => simp [intOf]; omega
          · rcases Nat.eq_zero_or_pos t with ht0 | ht0
            · subst ht0
              refine (l18_early lb (k : Int) da dn dc W5 HL5.out.1.lw (by omega)).mono ?_
              rintro e w6 ⟨rfl, hb6⟩
              obtain ⟨W0, W6, r6, hW0, hr6, hst, ⟨e0, e1, e2, e3, e4, g0, g1, g2, g3, g4⟩, hb8, hc6⟩ := ans_start w6 (.int .i64 0) (.int .i64 0) (.bool false) (.int .i64 0) (.slice none 0 0)
              have hb7 : Below W5.heap.size W5 W6 := hb6.trans (hb8.mono hb6.size)
              have HF : Hid (∃ fi' s' l', Lo W6 B la lb ls fi' s' l' 0 (.slice (some ⟨g, 0, none⟩) sn ac) ds ta tc ts ∧ ds.length = sn ∧ sn = fi' + l'.length ∧ fi' ≤ 0 ∧ (0 < sn → s'.a ≠ none) ∧ Below B w W6) := ⟨fi, s, l, HL5.out.1.below hb7, HN.out.1, HN.out.2.1, HN.out.2.2.1, fun _ => HN.out.2.2.2, HL5.out.2.1.trans (hb7.mono HL5.out.1.ne.2.2)⟩
              clear hb6 hb7 hb8 hc6 b0 b1 b2 b3 b4
              go_wp2_with fail
              go_roundw
              case rel =>
                obtain ⟨fi', s', l', k1⟩ := HF.out
                exact ⟨i + 1, sn, 0, _, ac, ta, tc, rfl, rfl, rfl, by go_num, by omega, by omega, by omega, by omega, by omega, fi', s', l', ds, _, k1⟩
              case measure => simp [intOf]; omega
            · obtain ⟨u, rfl⟩ : ∃ u, t = u + 1 := ⟨t - 1, by omega⟩
              have H18 : Calls Try.prog 18 #[.pointer (some ⟨lb, 0, none⟩), .agg #[.int .i64 0, .int .i64 1, .bool false, .int .i64 (k : Int), .slice da dn dc]] W5 fun e w' => e = .returned (.tuple #[.bool false, .agg #[.int .i64 1, .int .i64 0, .bool true, .int .i64 (u : Int), .slice none 0 0], .bool true, .int .i64 0]) ∧ Below W5.heap.size W5 w' := by
                have h := l18_old lb (u + 1) (k : Int) da dn dc W5 HL5.out.1.lw (by omega) (by omega) (by omega) (by omega)
                rw [show (((u + 1 : Nat) : Int) - 1) = (u : Int) by omega] at h
                exact h
              refine H18.mono ?_
              rintro e w6 ⟨rfl, hb6⟩
              obtain ⟨W0, W6, r6, hW0, hr6, hst, ⟨e0, e1, e2, e3, e4, g0, g1, g2, g3, g4⟩, hb8, hc6⟩ := ans_start w6 (.int .i64 1) (.int .i64 0) (.bool true) (.int .i64 (u : Int)) (.slice none 0 0)
              have hb7 : Below W5.heap.size W5 W6 := hb6.trans (hb8.mono hb6.size)
              have HL6 : Hid (Lo W6 B la lb ls fi s l (u + 1) (.slice (some ⟨g, 0, none⟩) sn ac) ds ta tc ts ∧ Below B w W6 ∧ W6.heap[r6]? = some (.cells #[.int .i64 1, .int .i64 0, .bool true, .int .i64 (u : Int), .slice none 0 0] 36 (0, 0))) := ⟨HL5.out.1.below hb7, HL5.out.2.1.trans (hb7.mono HL5.out.1.ne.2.2), hc6⟩
              have ans3 := (dg_cells HL6.out.2.2).c3
              clear hb6 hb7 hb8 hc6 b0 b1 b2 b3 b4 H18
              have px3 := HX1.out W6 HL6.out.2.1
              by_cases h3 : x.tmod 3 = 0
              · have H22 : Calls Try.prog 22 #[.pointer (some ⟨la, 0, none⟩), .int .i64 1, .int .i64 (u : Int)] W6 fun e w' => e = .returned (.int .i64 0) ∧ Hid (∃ fi' s' l', Lo w' B la lb ls fi' s' l' (u + 1) (.slice (some ⟨g, 0, none⟩) sn ac) ds ta tc ts ∧ sn = fi' + l'.length ∧ fi' ≤ (u + 1) ∧ s'.a ≠ none ∧ Below B W6 w') := HL6.out.1.c22 HN.out.2.2.2 u sn HN.out.2.1 (by omega) (by omega) (by have := HN.out.2.2.1; omega) (by omega)
                go_wp2_with fail
                refine H22.mono ?_
                rintro e w11 ⟨rfl, H11⟩
                have HF : Hid (∃ fi' s' l', Lo w11 B la lb ls fi' s' l' (u + 1) (.slice (some ⟨g, 0, none⟩) sn ac) ds ta tc ts ∧ ds.length = sn ∧ sn = fi' + l'.length ∧ fi' ≤ (u + 1) ∧ (0 < sn → s'.a ≠ none) ∧ Below B w w11) := by
                  obtain ⟨fi', s', l', k1, k2, k3, k4, k5⟩ := H11.out
                  exact ⟨fi', s', l', k1, HN.out.1, k2, k3, fun _ => k4, HL6.out.2.1.trans k5⟩
                clear H22 px3 ans3 H11
                go_wp2_with fail
                go_roundw
                case rel =>
                  obtain ⟨fi', s', l', k1⟩ := HF.out
                  exact ⟨i + 1, sn, (u + 1), _, ac, ta, tc, rfl, rfl, rfl, by go_num, by omega, by omega, by omega, by omega, by omega, fi', s', l', ds, _, k1⟩
                case measure => simp [intOf]; omega
              · obtain ⟨z, hz⟩ : ∃ z, x.tmod 3 = z := ⟨_, rfl⟩
                have h3I : (z == 0) = false := by rw [beq_eq_false_iff_ne, ← hz]; exact h3
                clear h3
                have HF : Hid (∃ fi' s' l', Lo W6 B la lb ls fi' s' l' (u + 1) (.slice (some ⟨g, 0, none⟩) sn ac) ds ta tc ts ∧ ds.length = sn ∧ sn = fi' + l'.length ∧ fi' ≤ (u + 1) ∧ (0 < sn → s'.a ≠ none) ∧ Below B w W6) := ⟨fi, s, l, HL6.out.1, HN.out.1, HN.out.2.1, (by have := HN.out.2.2.1; omega), fun _ => HN.out.2.2.2, HL6.out.2.1⟩
                go_wp2_with fail
                go_roundw
                case rel =>
                  obtain ⟨fi', s', l', k1⟩ := HF.out
                  exact ⟨i + 1, sn, (u + 1), _, ac, ta, tc, rfl, rfl, rfl, by go_num, by omega, by omega, by omega, by omega, by omega, fi', s', l', ds, _, k1⟩
                case measure => simp [intOf]; omega
    · by_cases hm1 : i < m
      · have hm1I : (i : Int) < (m : Int) := by omega
        have hm2I : ¬ (i : Int) < 200 := by omega
        obtain ⟨we, rfl⟩ : ∃ we, we = wr := ⟨_, rfl⟩
        have H24 := l24w lb (t : Int) we HI.out.1.lw
        have hts2 : ¬ (sn : Int) < (t : Int) := by omega
        go_wp2_with fail
        refine H24.mono ?_
        rintro e w' ⟨rfl, hw⟩
        obtain rfl := hw.symm
        clear H24
        go_wp2_with fail
        go_loopw [24] (fun iv wz => ∃ j : Nat, j ≤ t ∧ iv = .int .i64 j ∧ Hid (Below we.heap.size we wz)) (fun iv _ => t - (intOf iv).toNat)
        case atStart => exact ⟨0, Nat.zero_le _, rfl, Below.refl _ _⟩
        case round =>
          obtain ⟨j, hj, rfl, HJ⟩ := hrel
          have HLj : Hid (Lo wr B la lb ls fi s l t (.slice aa sn ac) ds ta tc ts ∧ Below B w wr) := ⟨HI.out.1.below HJ.out, HI.out.2.2.2.2.2.trans (HJ.out.mono HI.out.1.ne.2.2)⟩
          by_cases hlt : j < t
          · have hltI : (j : Int) < (t : Int) := by omega
            have hj0 : (0 : Int) ≤ (j : Int) := by omega
            have hjq : (j : Int) < (q : Int) := by omega
            have htl : ts.length = t := by have := HLj.out.1.tk.len; rw [List.length_map] at this; exact this
            obtain ⟨d, hd⟩ : ∃ d, ts[j]? = some d := ⟨_, List.getElem?_eq_getElem (by omega)⟩
            obtain ⟨tg, rfl, z⟩ := row_app HLj.out.1.tk (k := j) (u := d.v) (by rw [List.getElem?_map, hd]; rfl)
            obtain ⟨b, o, ua, un, uc, ys, rfl, py, hy⟩ := HPl.out wr HLj.out.2 j (by omega)
            have H25 : ∀ W, Hid (Below wr.heap.size wr W) → Calls Try.prog 25 #[.slice d.a d.n d.c, .slice ua un uc] W fun e w' => e = .returned (.bool true) ∧ Hid (Below wr.heap.size wr w') := fun W hW => by
              have hr := HLj.out.1.tby j d ys hd hy.out.2.1
              refine (l25 d.a ua d.n un d.c uc ys W ((hr.by hy.out.1.rng).below hW.out) (hy.out.1.below hW.out) ?_).mono ?_
              · exact Nat.le_trans hr.cap hr.max
              · rintro e w' ⟨rfl, hb⟩
                exact ⟨rfl, hW.out.trans (hb.mono hW.out.size)⟩
            obtain ⟨da, dn, dc⟩ := d
            simp only [Sl.v] at z H25
            clear hd hy htl
            go_wp2_with fail
            go_region_with (go_at_call 25; refine (H25 _ (Below.drew (Below.refl _ _))).mono ?_; rintro e w4 ⟨rfl, H4⟩)
            all_goals (
              have HF : Hid (Below we.heap.size we w4) := HJ.out.trans (H4.out.mono HJ.out.size)
              clear H4 H25 z py
              go_wp2_with fail
              go_roundw
              case rel => exact ⟨j + 1, by omega, by go_num, HF⟩
              case measure => simp [intOf]; omega)
          · have hltI : ¬ (j : Int) < (t : Int) := by omega
            have H26 : Calls Try.prog 26 #[.pointer (some ⟨la, 0, none⟩)] wr fun e w' => ∃ a c, e = .returned (.slice a l.length c) ∧ Hid (Below wr.heap.size wr w') := by
              refine (l26 la fi s l wr HLj.out.1.lk.toO (by have := HI.out.2.2.1; omega)).mono ?_
              rintro e w' ⟨a, c, rfl, h⟩
              exact ⟨a, c, rfl, h⟩
            obtain ⟨y, hy⟩ : ∃ y, l.length = y := ⟨_, rfl⟩
            have hy1 : (sn : Int) - (t : Int) ≤ (y : Int) := by have := HI.out.2.2.1; have := HI.out.2.2.2.1; omega
            have hy2 : (y : Int) ≤ (sn : Int) := by have := HI.out.2.2.1; omega
            have hy3 : (0 : Int) ≤ (sn : Int) - (t : Int) := by omega
            have hy4 : (sn : Int) - (t : Int) ≤ 200 := by omega
            rw [hy] at H26
            clear hy
            go_wp2_with fail
            refine H26.mono ?_
            rintro e w10 ⟨oa, oc, rfl, H10⟩
            clear H26
            have H9 := l9 w10
            go_wp2_with fail
            refine H9.mono ?_
            rintro e w11 ⟨rfl, hb11⟩
            have HF : Hid (Below w.heap.size w w11) := by
              rw [HBw.out.1]
              have h1 := HLj.out.2
              have h2 := HLj.out.1.ne.2.2
              exact h1.trans ((H10.out.trans (hb11.mono H10.out.size)).mono h2)
            clear H9 hb11
            go_wp2_with fail
            go_ret
            exact ⟨rfl, HF.out⟩
      · have hm1I : ¬ (i : Int) < (m : Int) := by omega
        obtain ⟨we, rfl⟩ : ∃ we, we = wr := ⟨_, rfl⟩
        have H24 := l24w lb (t : Int) we HI.out.1.lw
        have hts2 : ¬ (sn : Int) < (t : Int) := by omega
        go_wp2_with fail
        refine H24.mono ?_
        rintro e w' ⟨rfl, hw⟩
        obtain rfl := hw.symm
        clear H24
        go_wp2_with fail
        go_loopw [24] (fun iv wz => ∃ j : Nat, j ≤ t ∧ iv = .int .i64 j ∧ Hid (Below we.heap.size we wz)) (fun iv _ => t - (intOf iv).toNat)
        case atStart => exact ⟨0, Nat.zero_le _, rfl, Below.refl _ _⟩
        case round =>
          obtain ⟨j, hj, rfl, HJ⟩ := hrel
          have HLj : Hid (Lo wr B la lb ls fi s l t (.slice aa sn ac) ds ta tc ts ∧ Below B w wr) := ⟨HI.out.1.below HJ.out, HI.out.2.2.2.2.2.trans (HJ.out.mono HI.out.1.ne.2.2)⟩
          by_cases hlt : j < t
          · have hltI : (j : Int) < (t : Int) := by omega
            have hj0 : (0 : Int) ≤ (j : Int) := by omega
            have hjq : (j : Int) < (q : Int) := by omega
            have htl : ts.length = t := by have := HLj.out.1.tk.len; rw [List.length_map] at this; exact this
            obtain ⟨d, hd⟩ : ∃ d, ts[j]? = some d := ⟨_, List.getElem?_eq_getElem (by omega)⟩
            obtain ⟨tg, rfl, z⟩ := row_app HLj.out.1.tk (k := j) (u := d.v) (by rw [List.getElem?_map, hd]; rfl)
            obtain ⟨b, o, ua, un, uc, ys, rfl, py, hy⟩ := HPl.out wr HLj.out.2 j (by omega)
            have H25 : ∀ W, Hid (Below wr.heap.size wr W) → Calls Try.prog 25 #[.slice d.a d.n d.c, .slice ua un uc] W fun e w' => e = .returned (.bool true) ∧ Hid (Below wr.heap.size wr w') := fun W hW => by
              have hr := HLj.out.1.tby j d ys hd hy.out.2.1
              refine (l25 d.a ua d.n un d.c uc ys W ((hr.by hy.out.1.rng).below hW.out) (hy.out.1.below hW.out) ?_).mono ?_
              · exact Nat.le_trans hr.cap hr.max
              · rintro e w' ⟨rfl, hb⟩
                exact ⟨rfl, hW.out.trans (hb.mono hW.out.size)⟩
            obtain ⟨da, dn, dc⟩ := d
            simp only [Sl.v] at z H25
            clear hd hy htl
            go_wp2_with fail
            go_region_with (go_at_call 25; refine (H25 _ (Below.drew (Below.refl _ _))).mono ?_; rintro e w4 ⟨rfl, H4⟩)
            all_goals (
              have HF : Hid (Below we.heap.size we w4) := HJ.out.trans (H4.out.mono HJ.out.size)
              clear H4 H25 z py
              go_wp2_with fail
              go_roundw
              case rel => exact ⟨j + 1, by omega, by go_num, HF⟩
              case measure => simp [intOf]; omega)
          · have hltI : ¬ (j : Int) < (t : Int) := by omega
            have H26 : Calls Try.prog 26 #[.pointer (some ⟨la, 0, none⟩)] wr fun e w' => ∃ a c, e = .returned (.slice a l.length c) ∧ Hid (Below wr.heap.size wr w') := by
              refine (l26 la fi s l wr HLj.out.1.lk.toO (by have := HI.out.2.2.1; omega)).mono ?_
              rintro e w' ⟨a, c, rfl, h⟩
              exact ⟨a, c, rfl, h⟩
            obtain ⟨y, hy⟩ : ∃ y, l.length = y := ⟨_, rfl⟩
            have hy1 : (sn : Int) - (t : Int) ≤ (y : Int) := by have := HI.out.2.2.1; have := HI.out.2.2.2.1; omega
            have hy2 : (y : Int) ≤ (sn : Int) := by have := HI.out.2.2.1; omega
            have hy3 : (0 : Int) ≤ (sn : Int) - (t : Int) := by omega
            have hy4 : (sn : Int) - (t : Int) ≤ 200 := by omega
            rw [hy] at H26
            clear hy
            go_wp2_with fail
            refine H26.mono ?_
            rintro e w10 ⟨oa, oc, rfl, H10⟩
            clear H26
            have H9 := l9 w10
            go_wp2_with fail
            refine H9.mono ?_
            rintro e w11 ⟨rfl, hb11⟩
            have HF : Hid (Below w.heap.size w w11) := by
              rw [HBw.out.1]
              have h1 := HLj.out.2
              have h2 := HLj.out.1.ne.2.2
              exact h1.trans ((H10.out.trans (hb11.mono H10.out.size)).mono h2)
            clear H9 hb11
            go_wp2_with fail
            go_ret
            exact ⟨rfl, HF.out⟩
end Go.Proofs.Ytnhomejenjinaaa
