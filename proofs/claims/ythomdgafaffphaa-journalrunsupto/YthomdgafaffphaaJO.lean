/- JournalBack: its contract. -/
import Derived.Test.YthomdgafaffphaaJN
namespace Go.Proofs.Ythomdgafaffphaa
open Go.RowKit
attribute [local go_sem ↓] Go.wp_at_zero Go.wp_at_succ
/-- Payloads in a row of one's own, at B or behind. -/
def TRow (w : World) (B : Nat) (a : Option Addr) (n c : Nat) (ps : List (List Int)) : Prop := ∃ l, l.length = n ∧ Row w B 22 a n c (l.map Sl.v) ∧ Pays w B l ps
theorem Told.row {w w' : World} {a : Option Addr} {n c : Nat} {ps : List (List Int)} (h : Told w a n c ps w') : TRow w' w.heap.size a n c ps := by
  obtain ⟨l, h1, h2, h3, _⟩ := h
  exact ⟨l, h1, h2, h3⟩
theorem Told.bel {w w' : World} {a : Option Addr} {n c : Nat} {ps : List (List Int)} (h : Told w a n c ps w') : Below w.heap.size w w' := by
  obtain ⟨l, _, _, _, h4⟩ := h
  exact h4
theorem TRow.keeps {w w' : World} {B : Nat} {a : Option Addr} {n c : Nat} {ps : List (List Int)} (h : TRow w B a n c ps) (hk : ∀ g, B ≤ g → g < w.heap.size → w'.heap[g]? = w.heap[g]?) : TRow w' B a n c ps := by
  obtain ⟨l, h1, h2, h3⟩ := h
  exact ⟨l, h1, h2.keeps fun g e => hk g (h2.lt e).1 (h2.lt e).2, h3.keeps fun g s hs e => hk g (h3.lt hs e).1 (h3.lt hs e).2.1⟩
theorem TRow.below {w w' : World} {B : Nat} {a : Option Addr} {n c : Nat} {ps : List (List Int)} (h : TRow w B a n c ps) (hb : Below w.heap.size w w') : TRow w' B a n c ps := h.keeps fun g _ hl => hb.block g hl
theorem TRow.log {w w' : World} {B lb : Nat} {sa a : Option Addr} {n c : Nat} {ps : List (List Int)} (h : TRow w B a n c ps) (hk : KeepL lb sa w w') (h1 : lb < B) (h2 : ∀ g, blk sa = some g → g < B) : TRow w' B a n c ps :=
  h.keeps fun g hg hl => hk.block g hl (by omega) (fun e => by have := h2 g e; omega)
theorem TRow.pl {w : World} {B : Nat} {a : Option Addr} {n c : Nat} {ps : List (List Int)} (h : TRow w B a n c ps) (hb : ∀ p ∈ ps, p.length ≤ 140737488355328 ∧ ∀ x ∈ p, Byte x) : ∃ l, Pl w a n c l ps := by
  obtain ⟨l, h1, h2, h3⟩ := h
  have key : ∀ (i : Nat) (s : Sl) (xs : List Int), l[i]? = some s → ps[i]? = some xs → By w s.a s.n s.c xs := fun i s xs e1 e2 => (h3.own i s xs e1 e2).by (hb xs (List.mem_of_getElem? e2)).2
  refine ⟨l, h1, h2.cap, by rw [← h3.len]; exact h1, ?_, key, fun s hs => ?_⟩
  · rcases h2.mem with ⟨_, e⟩ | ⟨g, cu, e, _, h5, h6, h7⟩
    · exact .inl (by have := h2.cap; omega)
    · refine .inr ⟨g, 0, e, (Array.getElem?_eq_some_iff.1 h5).1, fun j u hu => ?_⟩
      rcases h2.reads.2 with e2 | ⟨ad, e2, e3⟩
      · have hl : (l.map Sl.v).length = 0 := by rw [h2.len, e2]
        rw [List.eq_nil_of_length_eq_zero hl] at hu; simp at hu
      · rw [e] at e2; cases e2
        have := e3 j u hu
        rw [Addr.add_mid] at this
        exact this
  · obtain ⟨i, hi, rfl⟩ := List.getElem_of_mem hs
    have hi2 : i < ps.length := by rw [← h3.len]; exact hi
    have := (key i _ _ (List.getElem?_eq_getElem hi) (List.getElem?_eq_getElem hi2)).len
    have := (hb ps[i] (List.getElem_mem _)).1
    omega
theorem Row.nil0 {w : World} {B : Nat} {e : TypeId} {a : Option Addr} {n c : Nat} {xs : List Value} (h : Row w B e a n c xs) (ha : a = none) : n = 0 := by
  subst ha
  rcases h.mem with ⟨_, e⟩ | ⟨g, cu, e, _⟩
  · have := h.cap; omega
  · cases e
theorem run_head (a : Option Addr) (n c k : Nat) (hk : k ≤ c) (W : World) : (Instr.slice 22 (.slice a n c) none (some (.int .i64 (k : Int))) none).run Try.prog W = .ok (.slice a k c) W := by
  obtain ⟨i0, hi, _⟩ := infoU8
  have h0 : (0 : Int) ≤ (k : Int) := by omega
  have h1 : (k : Int) ≤ (c : Int) := by omega
  have e : ∀ x : Addr, x.add 0 = x := fun x => by simp [Addr.add]
  cases a <;> simp [Instr.slice, run_underlying Try.underlying22, Instr.sliceBounds, run_sliceBound, sizeOf, typeInfo, hi, h0, h1, e]
theorem By.upto {w : World} {a : Option Addr} {n c : Nat} {xs : List Int} (h : By w a n c xs) {k : Nat} (hk : k ≤ n) : By w a k c (xs.take k) := by
  have h1 := h.head hk
  exact ⟨h1.len, by have := h.cap; omega, h.nil, h1.rng, h1.mem⟩
theorem whole_take_snoc (ps : List (List Int)) (k : Nat) (h : k < ps.length) : whole (ps.take (k + 1)) = whole (ps.take k) ++ recI ps[k] := by
  rw [take_snoc ps k h, whole_append, whole_one]
theorem whole_byte {ps : List (List Int)} (h : ∀ p ∈ ps, p.length ≤ 131072 ∧ ∀ x ∈ p, Byte x) : ∀ x ∈ whole ps, Byte x := by
  intro x hx
  simp only [whole, List.mem_flatten, List.mem_map] at hx
  obtain ⟨l, ⟨p, hp, rfl⟩, hx⟩ := hx
  exact recI_byte (h p hp).1 (h p hp).2 x hx
theorem recs_of_whole {ps : List (List Int)} (h : ∀ p ∈ ps, p.length ≤ 131072 ∧ ∀ x ∈ p, Byte x) : recs 0 (whole ps) = ends 0 ps := by
  have := recs_whole 0 ps [] (fun p hp => (h p hp).1)
  rw [List.append_nil] at this
  rw [this, recs_no (by rfl), List.append_nil]
theorem whole_le (ps : List (List Int)) (k : Nat) : (whole (ps.take k)).length ≤ (whole ps).length := by
  conv => rhs; rw [← List.take_append_drop k ps, whole_append, List.length_append]
  omega
set_option maxRecDepth 100000 in
set_option maxHeartbeats 8000000 in
theorem j6 (a pa : Option Addr) (m c pn pc : Nat) (xs p : List Int) (w : World) (h : By w a m c xs) (hp : By w pa pn pc p) (hm : m ≤ 10000000) (hpn : pn ≤ 10000000) :
    Calls Try.prog 6 #[.slice a m c, .slice pa pn pc] w fun e w' => e = .returned (.bool true) ∧ Below w.heap.size w w' := by
  obtain ⟨i0, hi, hz, hs, hb0⟩ := infoU8
  obtain ⟨ps, t, e1, e2, e3, e4, e5, e6, e7⟩ := split0 h.rng
  have HH : Hid (By w a m c xs ∧ By w pa pn pc p) := ⟨h, hp⟩
  have hlen := h.len
  have hwl : (whole ps).length ≤ m := by have := congrArg List.length e1; rw [List.length_append] at this; omega
  have hct : ps.length * 8 ≤ m := by have := recs_len _ 0 xs (Nat.le_refl _); rw [e7] at this; omega
  have HE4 : Hid (∀ q ∈ ps, q.length ≤ 131072 ∧ ∀ x ∈ q, Byte x) := e4
  have HE4' : Hid (∀ q ∈ ps, q.length ≤ 140737488355328 ∧ ∀ x ∈ q, Byte x) := fun q hq => ⟨by have := (e4 q hq).1; omega, (e4 q hq).2⟩
  have HT : Hid (xs.take (whole ps).length = whole ps) := by
    show xs.take (whole ps).length = whole ps
    conv => lhs; rw [e1]
    rw [List.take_append_of_le_length (Nat.le_refl _), List.take_of_length_le (Nat.le_refl _)]
  have H23 : Hid (∀ w1, Below w.heap.size w w1 → Calls Try.prog 23 #[.slice a m c] w1 fun e w' => ∃ s, e = .returned (.pointer (some ⟨w1.heap.size, 0, none⟩)) ∧ Hid (Inv w1 w' s xs ∧ s.n = m)) := fun w1 hb => by
    refine (j23 a m c xs w1 (h.below hb) (by omega)).mono ?_
    rintro e w' ⟨s, rfl, h1, h2, h3⟩
    exact ⟨s, rfl, ⟨h2, h3⟩, h1⟩
  have HR : Hid (recs 0 xs = ends 0 ps ∧ lastE (recs 0 xs) = (whole ps).length ∧ (recs 0 xs).map (·.2) = ps ∧ (recs 0 xs).length = ps.length) := ⟨e3, e5, e6, e7⟩
  have HRW : Hid (recs 0 (whole ps) = ends 0 ps) := recs_of_whole e4
  clear h hp e1 e2 e3 e4 e5 e6 e7
  go_enter Try.func6, Try.ntmps6
  go_wp2_with fail
  refine (j14 w).mono ?_
  rintro e w1 ⟨rfl, hb1⟩
  have HB1 : Hid (Below w.heap.size w w1) := hb1
  clear hb1
  go_wp2_with fail
  refine (H23.out w1 HB1.out).mono ?_
  rintro e w2 ⟨s2, rfl, hp2⟩
  obtain ⟨lb, hlb⟩ : ∃ lb, w1.heap.size = lb := ⟨_, rfl⟩
  have HLB : Hid (w1.heap.size = lb) := hlb
  have H30 : Calls Try.prog 30 #[.pointer (some ⟨lb, 0, none⟩)] w2 fun e w' => ∃ ra rc, e = .returned (.slice ra ps.length rc) ∧ Hid (TRow w' w2.heap.size ra ps.length rc ps ∧ Below w2.heap.size w2 w') := by
    rw [← hlb]
    have := j30 _ _ s2 xs w2 hp2.out.1.1 (by rw [hp2.out.2]; omega)
    rw [HR.out.2.2.1, HR.out.2.2.2] at this
    refine this.mono ?_
    rintro e w' ⟨ra, rc, rfl, ht⟩
    exact ⟨ra, rc, rfl, ht.row, ht.bel⟩
  rw [hlb]
  clear hlb H23
  go_wp2_with fail
  refine H30.mono ?_
  rintro e w3 ⟨ua, uc, rfl, hp3⟩
  have H31 : Calls Try.prog 31 #[.pointer (some ⟨lb, 0, none⟩)] w3 fun e w' => ∃ v, e = .returned (.int .i64 v) ∧ ∃ s, Hid (Inv w1 w' s (whole ps) ∧ s.n = (whole ps).length ∧ TRow w' w2.heap.size ua ps.length uc ps) := by
    have hi := hp2.out.1.below hp3.out.2
    rw [← HLB.out]
    refine (j31 _ _ s2 xs w3 hi.1 (by rw [hp2.out.2]; omega)).mono ?_
    rintro e w' ⟨rfl, h1, h2⟩
    rw [HR.out.2.1, HT.out] at h1
    refine ⟨_, rfl, _, hi.keep h1 h2, rfl, hp3.out.1.log h2 hp2.out.1.1.lt (fun g e => (hp2.out.1.1.row.lt e).2)⟩
  clear H30
  go_wp2_with fail
  refine H31.mono ?_
  rintro e w4 ⟨v4, rfl, s4, hp4⟩
  have H32 : Calls Try.prog 32 #[.pointer (some ⟨lb, 0, none⟩)] w4 fun e w' => e = .returned (.bool false) ∧ Hid (Below w4.heap.size w4 w') := by
    rw [← HLB.out]
    refine (j32 _ _ s4 (whole ps) w4 hp4.out.1.1 (by rw [hp4.out.2.1]; omega)).mono ?_
    rintro e w' ⟨rfl, d, rfl⟩
    refine ⟨?_, below_dN (Below.refl _ _) _⟩
    have : tornB (whole ps) = false := by simp [tornB, HRW.out, last_ends0]
    rw [this]
  clear H31
  go_wp2_with fail
  refine H32.mono ?_
  rintro e w5 ⟨rfl, hp5⟩
  have H30b : Calls Try.prog 30 #[.pointer (some ⟨lb, 0, none⟩)] w5 fun e w' => ∃ ra rc, e = .returned (.slice ra ps.length rc) ∧ Hid (TRow w' w5.heap.size ra ps.length rc ps ∧ Below w5.heap.size w5 w') := by
    have hi := hp4.out.1.below hp5.out
    rw [← HLB.out]
    have := j30 _ _ s4 (whole ps) w5 hi.1 (by rw [hp4.out.2.1]; omega)
    rw [HRW.out, ends_pay, ends_len] at this
    refine this.mono ?_
    rintro e w' ⟨ra, rc, rfl, ht⟩
    exact ⟨ra, rc, rfl, ht.row, ht.bel⟩
  clear H32
  go_wp2_with fail
  refine H30b.mono ?_
  rintro e w6 ⟨va, vc, rfl, hp6⟩
  have hb46 : Hid (Below w4.heap.size w4 w6) := hp5.out.trans (hp6.out.2.mono hp5.out.size)
  have H18 : Calls Try.prog 18 #[.slice va ps.length vc, .slice ua ps.length uc] w6 fun e w' => e = .returned (.bool true) ∧ Hid (Below w4.heap.size w4 w') := by
    obtain ⟨l1, hl1⟩ := hp6.out.1.pl HE4'.out
    obtain ⟨l2, hl2⟩ := (hp4.out.2.2.below hb46.out).pl HE4'.out
    refine (j18 va ua ps.length vc ps.length uc l1 l2 ps ps w6 hl1 hl2 (by omega) (by omega)).mono ?_
    rintro e w' ⟨rfl, d, rfl⟩
    exact ⟨by simp [sameP], below_dN hb46.out _⟩
  clear H30b
  go_wp2_with fail
  refine H18.mono ?_
  rintro e w7 ⟨rfl, hp7⟩
  have BW : Hid (Below w.heap.size w w7) := (HB1.out.trans (hp4.out.1.2.mono HB1.out.size)).trans (hp7.out.mono (Nat.le_trans HB1.out.size hp4.out.1.2.size))
  have H12 : Calls Try.prog 12 #[.slice a m c] w7 fun e w' => ∃ ra rc te, e = .returned (.tuple #[.slice ra ps.length rc, .int .i64 (whole ps).length, .int .i64 te]) ∧ Hid (TRow w' w7.heap.size ra ps.length rc ps ∧ Below w7.heap.size w7 w') := by
    have := j12 a m c xs w7 (HH.out.1.below BW.out) (by omega)
    rw [HR.out.2.1, HR.out.2.2.1, HR.out.2.2.2] at this
    refine this.mono ?_
    rintro e w' ⟨ra, rc, rfl, ht⟩
    exact ⟨ra, rc, _, rfl, ht.row, ht.bel⟩
  clear H18
  go_wp2_with fail
  refine H12.mono ?_
  rintro e w8 ⟨qa, qc, te, rfl, hp8⟩
  clear H12
  go_wp2_with fail
  go_loopw [10, 11] (fun v i wr => ∃ (k q : Nat) (ga : Option Addr) (gc : Nat), k ≤ ps.length ∧ i = .int .i64 k ∧ v = .slice ga q gc ∧ Hid ((whole (ps.take k)).length = q ∧ Row wr w8.heap.size 5 ga q gc (u8s (whole (ps.take k))) ∧ Below w8.heap.size w8 wr)) (fun _ i _ => ps.length - (intOf i).toNat)
  case atStart => exact ⟨0, 0, none, 0, Nat.zero_le _, rfl, rfl, rfl, row_nil _ _ _, Below.refl _ _⟩
  case round =>
    obtain ⟨k, q, ga, gc, hk, rfl, rfl, hI⟩ := hrel
    by_cases hlt : k < ps.length
    · have hlt1 : (k : Int) < (ps.length : Int) := by omega
      have hk0 : (0 : Int) ≤ (k : Int) := by omega
      obtain ⟨l8, hl8⟩ := (hp8.out.1.below hI.out.2.2).pl HE4'.out
      obtain ⟨b1, o1, s1, rfl, hc1, hx1, hm1, _⟩ := hl8.at hlt
      have hq1 := HE4.out ps[k] (List.getElem_mem hlt)
      have hsn : s1.n ≤ 131072 := by have := hx1.len; omega
      have hws := whole_take_snoc ps k hlt
      have hwsl : (whole (ps.take (k + 1))).length = q + (8 + s1.n) := by rw [hws, List.length_append, recI_length, hI.out.1, hx1.len]
      have hwm : q + (8 + s1.n) ≤ m := by have := whole_le ps (k + 1); omega
      have H10 : Calls Try.prog 10 #[.slice s1.a s1.n s1.c] wr fun e w' => ∃ a' c', e = .returned (.tuple #[.slice a' (8 + s1.n) c', .int .i64 0]) ∧ Hid (Row w' wr.heap.size 5 a' (8 + s1.n) c' (u8s (recI ps[k])) ∧ Below wr.heap.size wr w' ∧ Row w' w8.heap.size 5 ga q gc (u8s (whole (ps.take k))) ∧ w8.heap.size ≤ w'.heap.size) := by
        refine (j10 s1.a s1.n s1.c ps[k] wr hx1 hsn).mono ?_
        rintro e w' ⟨a', c', rfl, hf⟩
        exact ⟨a', c', rfl, hf.1, hf.2, hI.out.2.1.below hf.2, Nat.le_trans hI.out.2.2.size hf.2.size⟩
      have HWS : Hid (whole (ps.take (k + 1)) = whole (ps.take k) ++ recI ps[k] ∧ (whole (ps.take (k + 1))).length = q + (8 + s1.n)) := ⟨hws, hwsl⟩
      clear hl8 hx1 hm1 hq1 hws hwsl
      go_wp2_with fail
      refine H10.mono ?_
      rintro e w9 ⟨ra, rc, rfl, hp9⟩
      clear H10
      go_wp2_with (at_builtin; refine wpList_append_row _ rfl _ _ 22 rfl w8.heap.size 5 i0 (.int .u8 0) 1 Try.underlying22 hi hz hs hb0 rfl ga q gc (u8s (whole (ps.take k))) rfl hp9.out.2.2.1 ra (8 + s1.n) rc (u8s (recI ps[k])) rfl hp9.out.1.reads (u8s_one _) hp9.out.1.nil0 (by unfold maxLen; omega) (by omega) hp9.out.2.2.2 ?_)
      intro a' c' w' hr' hg' hor'
      intros
      have HF : Hid ((whole (ps.take (k + 1))).length = q + (8 + s1.n) ∧ Row w' w8.heap.size 5 a' (q + (8 + s1.n)) c' (u8s (whole (ps.take (k + 1)))) ∧ Below w8.heap.size w8 w') := by
        refine ⟨HWS.out.2, by rw [HWS.out.1, u8s_append]; exact hr', ?_⟩
        exact (hI.out.2.2.trans (hp9.out.2.1.mono hI.out.2.2.size)).grown hg' hp9.out.2.2.2 (fun g hg => (hp9.out.2.2.1.lt hg).1)
      clear hr' hg' hor'
      go_wp2_with fail
      go_roundw
      case rel => exact ⟨k + 1, q + (8 + s1.n), a', c', by omega, by go_num, rfl, HF⟩
      case measure => simp [intOf]; omega
    · obtain rfl : k = ps.length := by omega
      have hIq := hI.out.1
      rw [List.take_of_length_le (Nat.le_refl _)] at hIq
      have hI9 : Hid (Row wr w8.heap.size 5 ga (whole ps).length gc (u8s (whole ps)) ∧ Below w8.heap.size w8 wr) := by
        have h9 := hI.out.2
        rw [List.take_of_length_le (Nat.le_refl _), ← hIq] at h9
        exact h9
      subst hIq
      clear hI
      have hcap := HH.out.1.cap
      have BW8 : Hid (Below w.heap.size w wr ∧ Inv w1 wr s4 (whole ps) ∧ TRow wr w2.heap.size ua ps.length uc ps) := by
        have hb78 := hp8.out.2
        have hb8r := hI9.out.2
        have hb7r : Below w7.heap.size w7 wr := hb78.trans (hb8r.mono hb78.size)
        have hb4r : Below w4.heap.size w4 wr := hp7.out.trans (hb7r.mono hp7.out.size)
        exact ⟨BW.out.trans (hb7r.mono BW.out.size), hp4.out.1.below hb4r, hp4.out.2.2.below hb4r⟩
      have hsl := run_head a m c (whole ps).length (by omega) wr
      have H15a : Calls Try.prog 15 #[.slice ga (whole ps).length gc, .slice a (whole ps).length c] wr fun e w' => e = .returned (.bool true) ∧ Hid (Below wr.heap.size wr w') := by
        have hby := (HH.out.1.below BW8.out.1).upto hwl
        rw [HT.out] at hby
        refine (j15 ga a (whole ps).length gc (whole ps).length c (whole ps) (whole ps) wr (hI9.out.1.by (whole_byte HE4.out)) hby (by omega) (by omega)).mono ?_
        rintro e w' ⟨rfl, d, rfl⟩
        exact ⟨by simp [sameB], below_dN (Below.refl _ _) _⟩
      obtain ⟨wl, hwl0⟩ : ∃ wl, (whole ps).length = wl := ⟨_, rfl⟩
      have HWL : Hid ((whole ps).length = wl) := hwl0
      rw [hwl0] at hsl H15a hwl ⊢
      clear hwl0
      have g1 : ¬ (wl : Int) < 0 := by omega
      have g2 : ¬ (m : Int) < (wl : Int) := by omega
      go_wp2_with fail
      refine H15a.mono ?_
      rintro e w10 ⟨rfl, hp10⟩
      clear H15a hsl
      have H28 : Calls Try.prog 28 #[.pointer (some ⟨lb, 0, none⟩)] w10 fun e w' => ∃ a' c', e = .returned (.slice a' wl c') ∧ Hid (By w' a' wl c' (whole ps) ∧ Below wr.heap.size wr w') := by
        have hi := BW8.out.2.1.below hp10.out
        have hsn : s4.n = wl := hp4.out.2.1.trans HWL.out
        rw [← HLB.out]
        have := j28 _ _ s4 (whole ps) w10 hi.1 (by rw [hsn]; omega)
        rw [hsn] at this
        refine this.mono ?_
        rintro e w' ⟨a', c', rfl, hf⟩
        exact ⟨a', c', rfl, hf.1.by (whole_byte HE4.out), hp10.out.trans (hf.2.mono hp10.out.size)⟩
      go_wp2_with fail
      refine H28.mono ?_
      rintro e w11 ⟨ha, hc, rfl, hp11⟩
      clear H28
      have H15b : Calls Try.prog 15 #[.slice ha wl hc, .slice ga wl gc] w11 fun e w' => e = .returned (.bool true) ∧ Hid (Below wr.heap.size wr w') := by
        have hr := hI9.out.1.below hp11.out.2
        rw [HWL.out] at hr
        refine (j15 ha ga wl hc wl gc (whole ps) (whole ps) w11 hp11.out.1 (hr.by (whole_byte HE4.out)) (by omega) (by omega)).mono ?_
        rintro e w' ⟨rfl, d, rfl⟩
        exact ⟨by simp [sameB], below_dN hp11.out.2 _⟩
      go_wp2_with fail
      refine H15b.mono ?_
      rintro e w12 ⟨rfl, hp12⟩
      clear H15b
      have BW12 : Hid (Below w.heap.size w w12 ∧ Inv w1 w12 s4 (whole ps) ∧ TRow w12 w2.heap.size ua ps.length uc ps ∧ s4.n = wl) := ⟨BW8.out.1.trans (hp12.out.mono BW8.out.1.size), BW8.out.2.1.below hp12.out, BW8.out.2.2.below hp12.out, hp4.out.2.1.trans HWL.out⟩
      have HFL : Hid (lastE (recs 0 (whole ps)) = (whole ps).length) := by
        show lastE (recs 0 (whole ps)) = (whole ps).length
        rw [HRW.out, last_ends0]
      by_cases hpl : 131072 < pn
      · have hpl1 : (131072 : Int) < (pn : Int) := by omega
        have H33 : Calls Try.prog 33 #[.pointer (some ⟨lb, 0, none⟩), .slice pa pn pc] w12 fun e w' => e = .returned (.int .i64 5) ∧ Hid (Below w.heap.size w w') := by
          rw [← HLB.out]
          refine (j33_long _ _ pn pc pa s4 (whole ps) w12 BW12.out.2.1.1 (by rw [BW12.out.2.2.2]; omega) HFL.out hpl (by omega)).mono ?_
          rintro e w' ⟨rfl, d, rfl⟩
          exact ⟨rfl, below_dN BW12.out.1 _⟩
        go_wp2_with fail
        refine H33.mono ?_
        rintro e w13 ⟨rfl, hp13⟩
        go_wp2_with fail
        go_ret
        exact ⟨rfl, hp13.out⟩
      · have hpl1 : ¬ (131072 : Int) < (pn : Int) := by omega
        have hE5 : Hid (∀ q ∈ ps ++ [p], q.length ≤ 131072 ∧ ∀ x ∈ q, Byte x) := fun q hq => by
          rcases List.mem_append.1 hq with hq | hq
          · exact HE4.out q hq
          · simp only [List.mem_cons, List.not_mem_nil, or_false] at hq
            subst hq
            exact ⟨by have := HH.out.2.len; omega, HH.out.2.rng⟩
        have H33 : Calls Try.prog 33 #[.pointer (some ⟨lb, 0, none⟩), .slice pa pn pc] w12 fun e w' => e = .returned (.int .i64 0) ∧ ∃ s, Hid (Inv w1 w' s (whole (ps ++ [p])) ∧ Below w.heap.size w w') := by
          rw [← HLB.out]
          refine (j33 _ _ pn pc pa s4 (whole ps) p w12 BW12.out.2.1.1 BW12.out.2.1.2.size (by rw [BW12.out.2.2.2]; omega) HFL.out (HH.out.2.below BW12.out.1) (by omega)).mono ?_
          rintro e w' ⟨rfl, s', h1, h2, h3⟩
          have hk : Inv w1 w' s' (whole ps ++ recI p) := BW12.out.2.1.keep h1 h2
          rw [whole_append, whole_one]
          exact ⟨rfl, s', hk, HB1.out.trans (hk.2.mono HB1.out.size)⟩
        go_wp2_with fail
        refine H33.mono ?_
        rintro e w13 ⟨rfl, s13, hp13⟩
        clear H33
        have H30c : Calls Try.prog 30 #[.pointer (some ⟨lb, 0, none⟩)] w13 fun e w' => ∃ (b o rc : Nat) (s : Sl), e = .returned (.slice (some ⟨b, o, none⟩) (ps.length + 1) rc) ∧ w'.cell? ⟨b, o + ps.length, none⟩ = some (.slice s.a s.n s.c) ∧ Hid (By w' s.a s.n s.c p ∧ s.n ≤ 140737488355328 ∧ By w' pa pn pc p ∧ Below w.heap.size w w') := by
          have hl13 := hp13.out.1.1.len
          have hln : (whole (ps ++ [p])).length = wl + (8 + pn) := by
            rw [whole_append, whole_one, List.length_append, recI_length, HWL.out, HH.out.2.len]
          rw [← HLB.out]
          have := j30 _ _ s13 (whole (ps ++ [p])) w13 hp13.out.1.1 (by omega)
          rw [recs_of_whole hE5.out, ends_pay, ends_len, List.length_append] at this
          refine this.mono ?_
          rintro e w' ⟨ra, rc, rfl, ht⟩
          obtain ⟨l, hl⟩ := ht.row.pl (fun q hq => ⟨by have := (hE5.out q hq).1; omega, (hE5.out q hq).2⟩)
          obtain ⟨b, o, s, rfl, h1, h2, h3, _⟩ := hl.at (k := ps.length) (by simp)
          rw [List.getElem_append_right (Nat.le_refl _)] at h2
          simp only [Nat.sub_self, List.getElem_cons_zero] at h2
          have hbb := hp13.out.2.trans (ht.bel.mono hp13.out.2.size)
          exact ⟨b, o, rc, s, rfl, h1, h2, h3, HH.out.2.below hbb, hbb⟩
        have gl : ((ps.length : Int) + 1 == (ps.length : Int) + 1) = true := by simp
        go_wp2_with fail
        refine H30c.mono ?_
        rintro e w14 ⟨qb, qo, qc2, s14, rfl, hc14, hp14⟩
        clear H30c
        have H15c : Calls Try.prog 15 #[.slice s14.a s14.n s14.c, .slice pa pn pc] w14 fun e w' => e = .returned (.bool true) ∧ Hid (Below w.heap.size w w') := by
          refine (j15 s14.a pa s14.n s14.c pn pc p p w14 hp14.out.1 hp14.out.2.2.1 hp14.out.2.1 (by omega)).mono ?_
          rintro e w' ⟨rfl, d, rfl⟩
          exact ⟨by simp [sameB], below_dN hp14.out.2.2.2 _⟩
        have gi0 : (0 : Int) ≤ (ps.length : Int) := by omega
        have gi1 : (ps.length : Int) < ((ps.length + 1 : Nat) : Int) := by omega
        go_wp2_with fail
        refine H15c.mono ?_
        rintro e w15 ⟨rfl, hp15⟩
        clear H15c
        go_wp2_with fail
        go_ret
        exact ⟨rfl, hp15.out⟩
end Go.Proofs.Ythomdgafaffphaa
