/- JournalRecords: its contract. -/
import Derived.Test.YthomdgafaffphaaJW
import Derived.Test.YthomdgafaffphaaJO
namespace Go.Proofs.Ythomdgafaffphaa
open Go.RowKit
attribute [local go_sem ↓] Go.wp_at_zero Go.wp_at_succ
/-- What Record answers. -/
def rN (n : Nat) : Nat := if 131072 < n then 0 else 8 + n
def rE (n : Nat) : Int := if 131072 < n then 5 else 0
def rX (n : Nat) (p : List Int) : List Int := if 131072 < n then [] else recI p
theorem rX_byte {n : Nat} {p : List Int} (h : p.length = n) (hb : ∀ x ∈ p, Byte x) : ∀ x ∈ rX n p, Byte x := by
  unfold rX
  split
  · simp
  · exact recI_byte (by omega) hb
theorem rN_le (n : Nat) : rN n ≤ 131080 := by
  unfold rN
  split <;> omega
theorem j10u (a : Option Addr) (n c : Nat) (xs : List Int) (w : World) (h : By w a n c xs) (hn : n ≤ 140737488355328) :
    Calls Try.prog 10 #[.slice a n c] w fun e w' => ∃ a' c', e = .returned (.tuple #[.slice a' (rN n) c', .int .i64 (rE n)]) ∧ Fresh w a' (rN n) c' (rX n xs) w' ∧ Ex w' 5 a' c' := by
  by_cases hl : 131072 < n
  · refine (j10_long a n c w hn hl).mono ?_
    rintro e w' ⟨rfl, rfl⟩
    simp only [rN, rE, rX, if_pos hl]
    exact ⟨none, 0, rfl, ⟨row_nil _ _ _, Below.refl _ _⟩, ex_nil _ _⟩
  · refine (j10x a n c xs w h (by omega)).mono ?_
    rintro e w' ⟨a', c', rfl, h1, h2⟩
    simp only [rN, rE, rX, if_neg hl]
    exact ⟨a', c', rfl, h1, h2⟩
theorem j11u (a : Option Addr) (n c : Nat) (xs : List Int) (w : World) (h : By w a n c xs) (hn : n ≤ 140737488355328) :
    Calls Try.prog 11 #[.slice a n c] w fun e w' => ∃ a' c', e = .returned (.tuple #[.slice a' (rN n) c', .int .i64 (rE n)]) ∧ Fresh w a' (rN n) c' (rX n xs) w' := by
  by_cases hl : 131072 < n
  · refine (j11_long a n c w hn hl).mono ?_
    rintro e w' ⟨rfl, rfl⟩
    simp only [rN, rE, rX, if_pos hl]
    exact ⟨none, 0, rfl, row_nil _ _ _, Below.refl _ _⟩
  · refine (j11 a n c xs w h (by omega)).mono ?_
    rintro e w' ⟨a', c', rfl, h1⟩
    simp only [rN, rE, rX, if_neg hl]
    exact ⟨a', c', rfl, h1⟩
theorem Rws.keeps {w w' : World} {B : Nat} {l : List Sl} (h : Rws w B l) (hk : ∀ (g : Nat) (cu : Array Value), g < w.heap.size → w.heap[g]? = some (.cells cu 5 (0, 0)) → w'.heap[g]? = w.heap[g]?) : Rws w' B l :=
  ⟨fun s hs => by
    obtain ⟨xs, h1, h2, h3⟩ := h.own s hs
    have key : ∀ g, blk s.a = some g → w'.heap[g]? = w.heap[g]? := fun g hg => by
      obtain ⟨cu, hc⟩ := h1.type hg
      exact hk g cu (h1.lt hg).2 hc
    exact ⟨xs, h1.keeps key, h2.keeps key, h3⟩, h.apart⟩
theorem Rws.below {w w' : World} {B : Nat} {l : List Sl} (h : Rws w B l) (hb : Below w.heap.size w w') : Rws w' B l := h.keeps fun g _ hg _ => hb.block g hg
theorem Rws.app {w : World} {B C : Nat} {l k : List Sl} (h : Rws w B l) (h2 : Rws w C k) (hB : B ≤ C) (hl : ∀ s ∈ l, ∀ g, blk s.a = some g → g < C) : Rws w B (l ++ k) := by
  have hk : ∀ s ∈ k, ∀ g, blk s.a = some g → C ≤ g := fun s hs g hg => by
    obtain ⟨xs, h3, _⟩ := h2.own s hs
    exact (h3.lt hg).1
  refine ⟨fun s hs => ?_, fun i j s t g hij e1 e2 e3 => ?_⟩
  · rcases List.mem_append.1 hs with hs | hs
    · exact h.own s hs
    · obtain ⟨xs, h3, h4, h5⟩ := h2.own s hs
      exact ⟨xs, h3.base hB, h4, h5⟩
  · by_cases hi : i < l.length
    · rw [List.getElem?_append_left hi] at e1
      by_cases hj : j < l.length
      · rw [List.getElem?_append_left hj] at e2
        exact h.apart i j s t g hij e1 e2 e3
      · rw [List.getElem?_append_right (by omega)] at e2
        intro e4
        have := hl s (List.mem_of_getElem? e1) g e3
        have := hk t (List.mem_of_getElem? e2) g e4
        omega
    · rw [List.getElem?_append_right (by omega)] at e1
      by_cases hj : j < l.length
      · rw [List.getElem?_append_left hj] at e2
        intro e4
        have := hk s (List.mem_of_getElem? e1) g e3
        have := hl t (List.mem_of_getElem? e2) g e4
        omega
      · rw [List.getElem?_append_right (by omega)] at e2
        exact h2.apart (i - l.length) (j - l.length) s t g (by omega) e1 e2 e3
theorem Rws.one {w : World} {B : Nat} {s : Sl} {xs : List Int} (h : Row w B 5 s.a s.n s.c (u8s xs)) (hx : Ex w 5 s.a s.c) (hn : s.n ≤ 1000000000) : Rws w B [s] :=
  ⟨fun t ht => by
    simp only [List.mem_cons, List.not_mem_nil, or_false] at ht
    subst ht
    exact ⟨xs, h, hx, hn⟩, fun i j t u g hij e1 e2 => by
    have h1 := (List.getElem?_eq_some_iff.1 e1).1
    have h2 := (List.getElem?_eq_some_iff.1 e2).1
    simp at h1 h2
    omega⟩
theorem Pays.rws {w : World} {B : Nat} {l : List Sl} {ps : List (List Int)} (h : Pays w B l ps) (hp : ∀ p ∈ ps, p.length ≤ 131072) : Rws w B l := by
  refine ⟨fun s hs => ?_, fun i j s t g hij e1 e2 e3 => ?_⟩
  · obtain ⟨i, hi, rfl⟩ := List.getElem_of_mem hs
    have hi2 : i < ps.length := by rw [← h.len]; exact hi
    have h1 := h.own i _ _ (List.getElem?_eq_getElem hi) (List.getElem?_eq_getElem hi2)
    have h2 := h1.len
    have h3 := hp ps[i] (List.getElem_mem _)
    rw [u8s, List.length_map] at h2
    exact ⟨ps[i], h1, h.ex _ (List.getElem_mem _), by omega⟩
  · rcases Nat.lt_or_gt_of_ne hij with hlt | hlt
    · exact h.apart i j s t g hlt e1 e2 e3
    · exact fun e4 => h.apart j i t s g hlt e2 e1 e4 e3
/-- A book behind B, the rows that it may ask about, and nothing else changed. -/
structure BkS (w2 w : World) (b : Nat) (s : Sl) (vs : List Value) (l : List Sl) : Prop where
  bk : BkR w w2.heap.size b s vs
  rws : Rws w w2.heap.size l
  bel : Below w2.heap.size w2 w
theorem BkS.below {w2 w w' : World} {b : Nat} {s : Sl} {vs : List Value} {l : List Sl} (h : BkS w2 w b s vs l) (hb : Below w.heap.size w w') : BkS w2 w' b s vs l :=
  ⟨h.bk.keeps hb, h.rws.below hb, h.bel.trans (hb.mono h.bel.size)⟩
theorem BkS.took {w2 w w' : World} {b : Nat} {s : Sl} {vs vs' : List Value} {l : List Sl} (h : BkS w2 w b s vs l) (ht : Took w2.heap.size b s vs' w w') : ∃ s', BkS w2 w' b s' vs' l ∧ (s'.a = s.a ∨ ∃ g, s'.a = some ⟨g, 0, none⟩ ∧ w.heap.size ≤ g) ∧ KeepL b s.a w w' := by
  obtain ⟨s', h1, h2, h3⟩ := ht
  refine ⟨s', ⟨h1, h.rws.keeps fun g cu hg hc => h2.block g hg (fun e => ?_) (fun e => ?_), h.bel.trans (h2.below h.bk.hb (fun g hg => (h.bk.row.lt hg).1) h.bel.size)⟩, h3, h2⟩
  · subst e
    rw [h.bk.book] at hc; cases hc
  · obtain ⟨cu2, hc2⟩ := h.bk.row.type e
    rw [hc2] at hc; cases hc
theorem rtold_pl {w w' : World} {a : Option Addr} {m c : Nat} {xs : List Int} {ra : Option Addr} {n rc : Nat} (h : RTold w a m c xs ra n rc w') (hn : ((recs 0 xs).map (·.2)).length = n) (hb : By w' a m c xs) : ∃ l, Pl w' ra n rc l ((recs 0 xs).map (·.2)) := by
  obtain ⟨l, h1, h2, h3, _⟩ := h
  have key : ∀ (i : Nat) (s : Sl) (p : List Int), l[i]? = some s → ((recs 0 xs).map (·.2))[i]? = some p → By w' s.a s.n s.c p := fun i s p e1 e2 => h3 i s p e1 e2 w' hb
  refine ⟨l, h1, h2.cap, hn, ?_, key, fun s hs => ?_⟩
  · rcases h2.mem with ⟨_, e⟩ | ⟨g, cu, e, _, h5, h6, h7⟩
    · exact .inl (by have := h2.cap; omega)
    · refine .inr ⟨g, 0, e, (Array.getElem?_eq_some_iff.1 h5).1, fun j u hu => ?_⟩
      rcases h2.reads.2 with e2 | ⟨ad, e2, e3⟩
      · have hl : (l.map Sl.v).length = 0 := by rw [h2.len, e2]
        rw [List.eq_nil_of_length_eq_zero hl] at hu; simp at hu
      · rw [e] at e2; cases e2
        have := e3 j u hu
        rw [Addr.add_mid] at this
        exact this
  · obtain ⟨i, hi, rfl⟩ := List.getElem_of_mem hs
    have hi2 : i < ((recs 0 xs).map (·.2)).length := by rw [hn, ← h1]; exact hi
    have h4 := (key i _ _ (List.getElem?_eq_getElem hi) (List.getElem?_eq_getElem hi2)).len
    have h5 := List.getElem_mem hi2
    obtain ⟨x, hx, h6⟩ := List.mem_map.1 h5
    have h7 := (recs_mem _ 0 xs (Nat.le_refl _) x hx).2.1
    rw [← h6] at h4
    omega
set_option maxRecDepth 100000 in
set_option maxHeartbeats 8000000 in
theorem j3 (a pa : Option Addr) (m c pn pc : Nat) (xs p : List Int) (w : World) (h : By w a m c xs) (hp : By w pa pn pc p) (hm : m ≤ 10000000) (hpn : pn ≤ 10000000) :
    Calls Try.prog 3 #[.slice pa pn pc, .slice a m c] w fun e w' => e = .returned (.bool true) ∧ Below w.heap.size w w' := by
  have HH : Hid (By w a m c xs ∧ By w pa pn pc p) := ⟨h, hp⟩
  have HPB : Hid (∀ q ∈ (recs 0 xs).map (·.2), q.length ≤ 131072 ∧ ∀ x ∈ q, Byte x) := fun q hq => by
    obtain ⟨x, hx, rfl⟩ := List.mem_map.1 hq
    have h7 := recs_mem _ 0 xs (Nat.le_refl _) x hx
    exact ⟨h7.2.1, fun y hy => h.rng y (h7.2.2 y hy)⟩
  have hnl : (recs 0 xs).length ≤ 10000000 := by
    have := recs_len _ 0 xs (Nat.le_refl _)
    have := h.len
    omega
  have HPN : Hid (((recs 0 xs).map (·.2)).length = (recs 0 xs).length) := List.length_map _
  have H12 : Hid (∀ (g : Nat) (W : World), By W (some ⟨g, 0, none⟩) m (m + 9) xs → Calls Try.prog 12 #[.slice (some ⟨g, 0, none⟩) m (m + 9)] W fun e w' => ∃ ra rc, e = .returned (.tuple #[.slice ra (recs 0 xs).length rc, .int .i64 (lastE (recs 0 xs)), .int .i64 (tornE xs)]) ∧ Hid (Told W ra (recs 0 xs).length rc ((recs 0 xs).map (·.2)) w')) := fun g W hW => j12 _ m (m + 9) xs W hW (by omega)
  have H13 : Hid (∀ (W : World), By W a m c xs → Calls Try.prog 13 #[.slice a m c] W fun e w' => ∃ ra rc, e = .returned (.tuple #[.slice ra (recs 0 xs).length rc, .int .i64 (lastE (recs 0 xs)), .int .i64 (tornE xs)]) ∧ Hid ((∃ l, Pl w' ra (recs 0 xs).length rc l ((recs 0 xs).map (·.2))) ∧ Below W.heap.size W w')) := fun W hW => by
    refine (j13 _ m c xs W hW (by omega)).mono ?_
    rintro e w' ⟨ra, rc, rfl, ht⟩
    obtain ⟨_, _, _, _, hbl⟩ := id ht
    exact ⟨ra, rc, rfl, rtold_pl ht (List.length_map _) (hW.below hbl), hbl⟩
  have H18 : Hid (∀ (ra qa : Option Addr) (rc qc : Nat) (W : World), (∃ l, Pl W ra (recs 0 xs).length rc l ((recs 0 xs).map (·.2))) → (∃ l, Pl W qa (recs 0 xs).length qc l ((recs 0 xs).map (·.2))) → Calls Try.prog 18 #[.slice ra (recs 0 xs).length rc, .slice qa (recs 0 xs).length qc] W fun e w' => e = .returned (.bool true) ∧ Hid (Below W.heap.size W w')) := fun ra qa rc qc W ⟨l1, k1⟩ ⟨l2, k2⟩ => by
    refine (j18 ra qa _ rc _ qc l1 l2 _ _ W k1 k2 (by omega) (by omega)).mono ?_
    rintro e w' ⟨rfl, d, rfl⟩
    exact ⟨by simp [sameP], below_dN (Below.refl _ _) _⟩
  generalize (recs 0 xs).map (·.2) = ps at HPB HPN H12 H13 H18
  generalize (recs 0 xs).length = n at hnl HPN H12 H13 H18
  generalize lastE (recs 0 xs) = le at H12 H13
  generalize tornE xs = te at H12 H13
  clear h hp
  go_enter Try.func3, Try.ntmps3
  go_wp2_with fail
  refine (j9 pa pn pc p w HH.out.2 (by omega)).mono ?_
  rintro e w1 ⟨g1, rfl, hh1, hb1⟩
  have H1 : Hid (HandOf w1 w.heap.size g1 p ∧ Below w.heap.size w w1) := ⟨hh1, hb1⟩
  clear hh1 hb1
  go_wp2_with fail
  refine (j9 a m c xs w1 (HH.out.1.below H1.out.2) (by omega)).mono ?_
  rintro e w2 ⟨g2, rfl, hh2, hb2⟩
  have H2 : Hid (HandOf w2 w.heap.size g1 p ∧ HandOf w2 w1.heap.size g2 xs ∧ By w2 pa pn pc p ∧ By w2 a m c xs ∧ Below w.heap.size w w2) := by
    have h5 := H1.out.2.trans (hb2.mono H1.out.2.size)
    exact ⟨H1.out.1.below hb2, hh2, HH.out.2.below h5, HH.out.1.below h5, h5⟩
  have HD : Hid (∀ W, Below w2.heap.size w2 W → By W (some ⟨g1, 0, none⟩) pn (pn + 9) p ∧ By W (some ⟨g2, 0, none⟩) m (m + 9) xs ∧ By W pa pn pc p ∧ By W a m c xs) := fun W hW =>
    ⟨(H2.out.1.below hW).by HH.out.2.rng HH.out.2.len, (H2.out.2.1.below hW).by HH.out.1.rng HH.out.1.len, H2.out.2.2.1.below hW, H2.out.2.2.2.1.below hW⟩
  clear hh2 hb2 H1
  go_wp2_with fail
  refine (j10u _ pn _ p w2 (HD.out w2 (Below.refl _ _)).1 (by omega)).mono ?_
  rintro e w3 ⟨ra, rc, rfl, hr3, hx3⟩
  have H3 : Hid (Row w3 w2.heap.size 5 ra (rN pn) rc (u8s (rX pn p)) ∧ Ex w3 5 ra rc ∧ Below w2.heap.size w2 w3) := ⟨hr3.1, hx3, hr3.2⟩
  clear hr3 hx3
  go_wp2_with fail
  refine (j11u _ pn _ p w3 (HD.out w3 H3.out.2.2).2.2.1 (by omega)).mono ?_
  rintro e w4 ⟨sa, sc, rfl, hr4⟩
  have H4 : Hid (Below w3.heap.size w3 w4 ∧ Below w2.heap.size w2 w4 ∧ By w4 sa (rN pn) sc (rX pn p) ∧ By w4 ra (rN pn) rc (rX pn p)) := ⟨hr4.2, H3.out.2.2.trans (hr4.2.mono H3.out.2.2.size), hr4.1.by (rX_byte HH.out.2.len HH.out.2.rng), (H3.out.1.below hr4.2).by (rX_byte HH.out.2.len HH.out.2.rng)⟩
  clear hr4
  go_wp2_with fail
  refine (H12.out g2 w4 (HD.out w4 H4.out.2.1).2.1).mono ?_
  rintro e w5 ⟨la, lc, rfl, ht5⟩
  have H5 : Hid (Below w4.heap.size w4 w5 ∧ Below w2.heap.size w2 w5) := ⟨ht5.out.bel, H4.out.2.1.trans (ht5.out.bel.mono H4.out.2.1.size)⟩
  go_wp2_with fail
  refine (H13.out w5 (HD.out w5 H5.out.2).2.2.2).mono ?_
  rintro e w6 ⟨qa, qc, rfl, ht6⟩
  go_wp2_with fail
  refine (j14 w6).mono ?_
  rintro e w7 ⟨rfl, hb7⟩
  have H7 : Hid (Below w5.heap.size w5 w7 ∧ Below w4.heap.size w4 w7 ∧ Below w6.heap.size w6 w7) := by
    have h1 := ht6.out.2.trans (hb7.mono ht6.out.2.size)
    exact ⟨h1, H5.out.1.trans (h1.mono H5.out.1.size), hb7⟩
  clear hb7
  go_wp2_with fail
  have H15 : Calls Try.prog 15 #[.slice ra (rN pn) rc, .slice sa (rN pn) sc] w7 fun e w' => e = .returned (.bool true) ∧ Hid (Below w7.heap.size w7 w') := by
    have hle := rN_le pn
    refine (j15 ra sa _ rc _ sc _ _ w7 (H4.out.2.2.2.below H7.out.2.1) (H4.out.2.2.1.below H7.out.2.1) (by omega) (by omega)).mono ?_
    rintro e w' ⟨rfl, d, rfl⟩
    exact ⟨by simp [sameB], below_dN (Below.refl _ _) _⟩
  refine H15.mono ?_
  rintro e w8 ⟨rfl, hb8⟩
  clear H15
  have H8 : Hid (Below w2.heap.size w2 w8 ∧ Below w6.heap.size w6 w8 ∧ Below w5.heap.size w5 w8 ∧ Below w4.heap.size w4 w8) := by
    have h4 := H7.out.2.1.trans (hb8.out.mono H7.out.2.1.size)
    exact ⟨H4.out.2.1.trans (h4.mono H4.out.2.1.size), H7.out.2.2.trans (hb8.out.mono H7.out.2.2.size), H7.out.1.trans (hb8.out.mono H7.out.1.size), h4⟩
  clear hb8
  go_wp2_with fail
  refine (j16 _ pn _ p w8 (HD.out w8 H8.out.1).1 (by omega)).mono ?_
  rintro e w9 ⟨rfl, hw9⟩
  obtain rfl := hw9.symm
  go_wp2_with fail
  refine (j17 _ pn _ p w8 (HD.out w8 H8.out.1).2.2.1 (by omega)).mono ?_
  rintro e w9 ⟨rfl, hw9⟩
  obtain rfl := hw9.symm
  go_wp2_with fail
  refine (H18.out la qa lc qc w8 ((ht5.out.row.below H8.out.2.2.1).pl fun q hq => ⟨by have := (HPB.out q hq).1; omega, (HPB.out q hq).2⟩) (by
    obtain ⟨⟨l6, hl6⟩, _⟩ := ht6.out
    exact ⟨l6, hl6.below H8.out.2.1⟩)).mono ?_
  rintro e w9 ⟨rfl, hb9⟩
  have H9 : Hid (Below w2.heap.size w2 w9 ∧ Row w9 w2.heap.size 5 ra (rN pn) rc (u8s (rX pn p)) ∧ Ex w9 5 ra rc ∧ ∃ l, l.length = n ∧ Row w9 w4.heap.size 22 la n lc (l.map Sl.v) ∧ Rws w9 w2.heap.size (⟨ra, rN pn, rc⟩ :: l)) := by
    have b4 := H8.out.2.2.2.trans (hb9.out.mono H8.out.2.2.2.size)
    have b5 := H8.out.2.2.1.trans (hb9.out.mono H8.out.2.2.1.size)
    have b2 := H8.out.1.trans (hb9.out.mono H8.out.1.size)
    have b3 := H4.out.1.trans (b4.mono H4.out.1.size)
    have r9 := H3.out.1.below b3
    have x9 : Ex w9 5 ra rc := H3.out.2.1.keeps fun g hg => b3.block g (H3.out.1.lt hg).2
    obtain ⟨l, k1, k2, k3, _⟩ := ht5.out
    have hle := rN_le pn
    refine ⟨b2, r9, x9, l, k1, k2.below b5, (Rws.one (s := ⟨ra, rN pn, rc⟩) r9 x9 (by show rN pn ≤ _; omega)).app ((k3.below b5).rws fun q hq => (HPB.out q hq).1) H4.out.2.1.size (fun s hs g hg => ?_)⟩
    simp only [List.mem_cons, List.not_mem_nil, or_false] at hs
    subst hs
    exact Nat.lt_of_lt_of_le (H3.out.1.lt hg).2 H4.out.1.size
  have HW4 : Hid (w2.heap.size ≤ w4.heap.size) := H4.out.2.1.size
  clear hb9 H8 H7 H5 H4 H3 ht5 ht6 H13 H18
  go_wp2_with fail
  obtain ⟨W9, hW9⟩ : ∃ W9, w9.alloc (.cells #[.slice none 0 0, .slice none 0 0, .slice none 0 0, .slice none 0 0, .slice none 0 0] 41) = W9 := ⟨_, rfl⟩
  obtain ⟨b, hb⟩ : ∃ b, w9.heap.size = b := ⟨_, rfl⟩
  have HB9 : Hid (∃ l, l.length = n ∧ Row W9 w4.heap.size 22 la n lc (l.map Sl.v) ∧ BkS w2 W9 b ⟨none, 0, 0⟩ [] (⟨ra, rN pn, rc⟩ :: l)) := by
    obtain ⟨b2, r9, x9, l, k1, k2, k3⟩ := H9.out
    have hbl : Below w9.heap.size w9 W9 := by rw [← hW9]; exact (Below.refl _ w9).alloc (Nat.le_refl _) _
    exact ⟨l, k1, k2.below hbl, ⟨by rw [← hW9, ← hb]; exact heap_alloc_new w9 _, by rw [← hb]; exact b2.size, row_nil _ _ _, ex_nil _ _⟩, k3.below hbl, b2.trans (hbl.mono b2.size)⟩
  rw [hW9, hb]
  clear hW9 hb H9
  obtain ⟨l, k1, k2, k3⟩ := HB9.out
  have H10 : Hid (l.length = n ∧ Row W9 w4.heap.size 22 la n lc (l.map Sl.v) ∧ BkS w2 W9 b ⟨none, 0, 0⟩ [] (⟨ra, rN pn, rc⟩ :: l)) := ⟨k1, k2, k3⟩
  clear k1 k2 k3 HB9
  refine (j19 w2.heap.size b ⟨none, 0, 0⟩ [] ra (rN pn) rc W9 H10.out.2.2.bk (by show 0 ≤ _; omega) H10.out.2.2.bel.size).mono ?_
  rintro e w10 ⟨rfl, ht⟩
  obtain ⟨s10, hs10⟩ := H10.out.2.2.took ht
  have H11 : Hid (l.length = n ∧ Row w10 w2.heap.size 22 la n lc (l.map Sl.v) ∧ BkS w2 w10 b s10 [.slice ra (rN pn) rc] (⟨ra, rN pn, rc⟩ :: l) ∧ (∀ g, blk la = some g → blk s10.a ≠ some g)) := by
    obtain ⟨q1, q2, q3⟩ := hs10
    refine ⟨H10.out.1, ?_, q1, fun g hg => ?_⟩
    · have hw4 : w2.heap.size ≤ w4.heap.size := HW4.out
      refine (H10.out.2.1.base hw4).keeps fun g hg => q3.block g (H10.out.2.1.lt hg).2 (fun e => ?_) (fun e => by cases e)
      subst e
      obtain ⟨cu, hc⟩ := H10.out.2.1.type hg
      rw [H10.out.2.2.bk.book] at hc; cases hc
    · have h5 := (H10.out.2.1.lt hg).2
      rcases q2 with e | ⟨g', e, hl⟩
      · rw [e]; simp
      · rw [e]; simp; omega
  clear ht hs10 H10
  go_wp2_with fail
  refine (j20 w2.heap.size b s10 [.slice ra (rN pn) rc] la n lc l w10 H11.out.2.2.1.bk H11.out.2.1 H11.out.2.2.2 (by
    have := H11.out.2.2.1.bk.row.len
    simp at this
    omega) H11.out.2.2.1.bel.size).mono ?_
  rintro e w11 ⟨rfl, ht⟩
  obtain ⟨s11, hs11⟩ := H11.out.2.2.1.took ht
  have H11b : Hid (l.length = n ∧ BkS w2 w11 b s11 ([.slice ra (rN pn) rc] ++ l.map Sl.v) (⟨ra, rN pn, rc⟩ :: l)) := ⟨H11.out.1, hs11.1⟩
  clear ht hs11 H11
  go_wp2_with fail
  refine (H12.out g2 w11 (HD.out w11 H11b.out.2.bel).2.1).mono ?_
  rintro e w12 ⟨ka, kc, rfl, ht12⟩
  obtain ⟨k, hk⟩ := ht12.out
  have H13 : Hid (k.length = n ∧ l.length = n ∧ Row w12 w2.heap.size 22 ka n kc (k.map Sl.v) ∧ BkS w2 w12 b s11 ([.slice ra (rN pn) rc] ++ l.map Sl.v) ((⟨ra, rN pn, rc⟩ :: l) ++ k) ∧ (∀ g, blk ka = some g → blk s11.a ≠ some g)) := by
    obtain ⟨q1, q2, q3, q4⟩ := hk
    have h5 := H11b.out.2.below q4
    have hsz := H11b.out.2.bel.size
    refine ⟨q1, H11b.out.1, q2.base hsz, ⟨h5.bk, h5.rws.app (q3.rws fun q hq => (HPB.out q hq).1) hsz (fun s hs g hg => ?_), h5.bel⟩, fun g hg e => ?_⟩
    · obtain ⟨_, h6, _⟩ := H11b.out.2.rws.own s hs
      exact (h6.lt hg).2
    · have h6 := (q2.lt hg).1
      have h7 := (H11b.out.2.bk.row.lt e).2
      omega
  clear hk ht12 H11b
  go_wp2_with fail
  refine (j20 w2.heap.size b s11 ([.slice ra (rN pn) rc] ++ l.map Sl.v) ka n kc k w12 H13.out.2.2.2.1.bk H13.out.2.2.1 H13.out.2.2.2.2 (by
    have h5 := H13.out.2.2.2.1.bk.row.len
    have h6 := H13.out.2.1
    simp at h5
    omega) H13.out.2.2.2.1.bel.size).mono ?_
  rintro e w13 ⟨rfl, ht⟩
  obtain ⟨s13, hs13⟩ := H13.out.2.2.2.1.took ht
  have H14 : Hid (k.length = n ∧ l.length = n ∧ BkS w2 w13 b s13 (((⟨ra, rN pn, rc⟩ :: l) ++ k).map Sl.v) ((⟨ra, rN pn, rc⟩ :: l) ++ k)) := ⟨H13.out.1, H13.out.2.1, by
    have := hs13.1
    rw [List.map_append, List.map_cons]
    exact this⟩
  clear ht hs13 H13
  go_wp2_with fail
  refine (j21 w2.heap.size b s13 _ w13 H14.out.2.2.bk H14.out.2.2.rws (by
    have h5 := H14.out.1
    have h6 := H14.out.2.1
    rw [List.length_append, List.length_cons]
    omega)).mono ?_
  rintro e w14 ⟨rfl, hb14⟩
  have H15 : Hid (Below w2.heap.size w2 w14) := H14.out.2.2.bel.trans hb14
  clear hb14 H14
  go_wp2_with fail
  refine (j22 pa pn pc g1 w.heap.size p w14 (HD.out w14 H15.out).2.2.1 (H2.out.1.below H15.out) (by omega)).mono ?_
  rintro e w15 ⟨rfl, d, hw15⟩
  have H16 : Hid (Below w2.heap.size w2 w15) := by rw [hw15]; exact below_dN H15.out _
  clear hw15 H15
  go_wp2_with fail
  refine (j22 a m c g2 w1.heap.size xs w15 (HD.out w15 H16.out).2.2.2 (H2.out.2.1.below H16.out) (by omega)).mono ?_
  rintro e w16 ⟨rfl, d2, hw16⟩
  have H17 : Hid (Below w.heap.size w w16) := by rw [hw16]; exact below_dN (H2.out.2.2.2.2.trans (H16.out.mono H2.out.2.2.2.2.size)) _
  clear hw16 H16
  go_wp2_with fail
  go_ret
  exact ⟨rfl, H17.out⟩
end Go.Proofs.Ythomdgafaffphaa
