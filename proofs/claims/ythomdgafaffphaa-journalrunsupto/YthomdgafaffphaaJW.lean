/- Contracts of the book: TakeBytes, TakePayloads, Alone. -/
import Derived.Test.YthomdgafaffphaaJV
import Derived.Test.YthomdgafaffphaaBkTBE
namespace Go.Proofs.Ythomdgafaffphaa
open Go.RowKit
attribute [local go_sem ↓] Go.wp_at_zero Go.wp_at_succ
set_option maxRecDepth 100000 in
theorem j43_no (b : Nat) (w : World) (h : w.cell? ⟨b, 1, none⟩ = some (.slice none 0 0)) :
    Calls Try.prog 43 #[.pointer (some ⟨b, 0, none⟩)] w fun e w' => e = .returned (.bool true) ∧ w' = w := by
  go_enter Try.func43, Try.ntmps43
  go_wp2_with fail
  refine wp_loop_rounds 1 ?_
  rw [rounds_succ]
  go_wp2_with fail
  refine wp_loop_rounds 1 ?_
  rw [rounds_succ]
  go_wp2_with fail
  refine wp_loop_rounds 1 ?_
  rw [rounds_succ]
  go_wp2_with fail
  go_ret
  exact ⟨rfl, rfl⟩
set_option maxRecDepth 100000 in
theorem j44_no (b : Nat) (w : World) (h : w.cell? ⟨b, 2, none⟩ = some (.slice none 0 0)) :
    Calls Try.prog 44 #[.pointer (some ⟨b, 0, none⟩)] w fun e w' => e = .returned (.bool true) ∧ w' = w := by
  go_enter Try.func44, Try.ntmps44
  go_wp2_with fail
  refine wp_loop_rounds 1 ?_
  rw [rounds_succ]
  go_wp2_with fail
  refine wp_loop_rounds 1 ?_
  rw [rounds_succ]
  go_wp2_with fail
  refine wp_loop_rounds 1 ?_
  rw [rounds_succ]
  go_wp2_with fail
  go_ret
  exact ⟨rfl, rfl⟩
set_option maxRecDepth 100000 in
theorem j45_no (b : Nat) (w : World) (h : w.cell? ⟨b, 3, none⟩ = some (.slice none 0 0)) :
    Calls Try.prog 45 #[.pointer (some ⟨b, 0, none⟩)] w fun e w' => e = .returned (.bool true) ∧ w' = w := by
  go_enter Try.func45, Try.ntmps45
  go_wp2_with fail
  refine wp_loop_rounds 1 ?_
  rw [rounds_succ]
  go_wp2_with fail
  refine wp_loop_rounds 1 ?_
  rw [rounds_succ]
  go_wp2_with fail
  refine wp_loop_rounds 1 ?_
  rw [rounds_succ]
  go_wp2_with fail
  go_ret
  exact ⟨rfl, rfl⟩
set_option maxRecDepth 100000 in
theorem j46_no (b : Nat) (w : World) (h : w.cell? ⟨b, 4, none⟩ = some (.slice none 0 0)) :
    Calls Try.prog 46 #[.pointer (some ⟨b, 0, none⟩)] w fun e w' => e = .returned (.bool true) ∧ w' = w := by
  go_enter Try.func46, Try.ntmps46
  go_wp2_with fail
  refine wp_loop_rounds 1 ?_
  rw [rounds_succ]
  go_wp2_with fail
  refine wp_loop_rounds 1 ?_
  rw [rounds_succ]
  go_wp2_with fail
  refine wp_loop_rounds 1 ?_
  rw [rounds_succ]
  go_wp2_with fail
  go_ret
  exact ⟨rfl, rfl⟩

/-- A book of bytes. -/
abbrev bkV (s : Sl) : Array Value := #[.slice s.a s.n s.c, .slice none 0 0, .slice none 0 0, .slice none 0 0, .slice none 0 0]
structure BkR (w : World) (B b : Nat) (s : Sl) (vs : List Value) : Prop where
  book : w.heap[b]? = some (.cells (bkV s) 41 (0, 0))
  hb : B ≤ b
  row : Row w B 22 s.a s.n s.c vs
  ex : Ex w 22 s.a s.c
theorem BkR.keeps {w w' : World} {B b : Nat} {s : Sl} {vs : List Value} (h : BkR w B b s vs) (hb : Below w.heap.size w w') : BkR w' B b s vs :=
  ⟨(hb.block b (Array.getElem?_eq_some_iff.1 h.book).1).trans h.book, h.hb, h.row.below hb, h.ex.keeps fun g e => hb.block g (h.row.lt e).2⟩
/-- A book with some rows more. -/
def Took (B b : Nat) (s : Sl) (vs : List Value) (w w' : World) : Prop := ∃ s', BkR w' B b s' vs ∧ KeepL b s.a w w' ∧ (s'.a = s.a ∨ ∃ g, s'.a = some ⟨g, 0, none⟩ ∧ w.heap.size ≤ g)
set_option maxRecDepth 100000 in
set_option maxHeartbeats 2000000 in
theorem j19 (B b : Nat) (s : Sl) (vs : List Value) (a : Option Addr) (m c : Nat) (w : World) (h : BkR w B b s vs) (hn : s.n ≤ 1000000000) (hB : B ≤ w.heap.size) :
    Calls Try.prog 19 #[.pointer (some ⟨b, 0, none⟩), .slice a m c] w fun e w' => e = .returned (.tuple #[]) ∧ Took B b s (vs ++ [.slice a m c]) w w' := by
  obtain ⟨i0, hi, hz, hsz, hby⟩ := infoSl
  have HH : Hid (BkR w B b s vs) := h
  have hlt := (Array.getElem?_eq_some_iff.1 h.book).1
  have c0 : w.cell? ⟨b, 0, none⟩ = some (.slice s.a s.n s.c) := by rw [cell_of_row w b 0 _ 41 (0, 0) h.book]; rfl
  have HNE : Hid (blk s.a ≠ some b) := fun e => by
    obtain ⟨cu, h5⟩ := h.row.type e
    rw [h.book] at h5; cases h5
  have HEX : Hid (∀ o : Obj, Ex (w.alloc o) 22 s.a s.c) := fun o => h.ex.keeps fun g hg => heap_alloc_old w o (h.row.lt hg).2
  clear h
  obtain ⟨sa, sn, sc⟩ := s
  simp only at *
  have HW : Hid (∀ (a' : Option Addr) (c' : Nat) (w4 : World), Row w4 B 22 a' (sn + 1) c' (vs ++ [.slice a m c]) → (w.alloc (.cells #[.slice a m c] 22)).grownBy w4 (blk sa) → (a' = sa ∨ ∃ g, a' = some ⟨g, 0, none⟩ ∧ w.heap.size + 1 ≤ g ∧ (w.alloc (.cells #[.slice a m c] 22)).grownBy w4 none) → Ex w4 22 a' c' →
      (w4.cell? ⟨b, 0, none⟩ = some (.slice sa sn sc) ∧ w4.frozen? ⟨b, 0, none⟩ = false) ∧ Took B b ⟨sa, sn, sc⟩ (vs ++ [.slice a m c]) w (w4.setCell ⟨b, 0, none⟩ (.slice a' (sn + 1) c'))) := fun a' c' w4 h1 h2 h3 h4 => by
    have e1 : w4.heap[b]? = some (.cells (bkV ⟨sa, sn, sc⟩) 41 (0, 0)) := by
      rw [h2.block b (by simp; omega) (Ne.symm HNE.out), heap_alloc_old w _ hlt]; exact HH.out.book
    have e2 : blk a' ≠ some b := fun e => by
      obtain ⟨cu, h5⟩ := h1.type e
      rw [e1] at h5; cases h5
    refine ⟨⟨by rw [cell_of_row w4 b 0 _ 41 (0, 0) e1]; rfl, frozen_of_row w4 b 0 _ 41 e1⟩, ⟨a', sn + 1, c'⟩, ⟨?_, HH.out.hb, h1.other _ e2, h4.keeps fun g hg => set_far (by intro e; subst e; exact e2 hg)⟩, ⟨h2.os, h2.tape, h2.output, by have := h2.size; simp at this ⊢; omega, fun k hk h5 h6 => (set_far h5).trans ?_⟩, ?_⟩
    · rw [heap_setCell_same w4 b 0 _ 41 _ e1]; rfl
    · rw [h2.block k (by simp; omega) (Ne.symm h6), heap_alloc_old w _ hk]
    · rcases h3 with e | ⟨g, e, hl, _⟩
      · exact .inl e
      · exact .inr ⟨g, e, by omega⟩
  go_enter Try.func19, Try.ntmps19
  go_wp2_with (at_builtin; refine wpList_append_row_ex _ rfl _ _ 27 rfl B 22 i0 (.slice none 0 0) 24 Try.underlying27 hi hz hsz hby rfl sa sn sc vs rfl (HH.out.row.alloc _) (HEX.out _) (some ⟨w.heap.size, 0, none⟩) 1 1 [.slice a m c] rfl (reads_block (cs := #[.slice a m c]) (heap_alloc_new w _)) (by simp [Value.oneCell']) (fun e => by cases e) (by unfold maxLen; omega) (by omega) (by simp; omega) ?_)
  intro a' c' w4 hr4 hg4 ho4 hx4
  obtain ⟨⟨d0, d1⟩, HT⟩ := HW.out a' c' w4 hr4 hg4 ho4 hx4
  have HT2 : Hid (Took B b ⟨sa, sn, sc⟩ (vs ++ [.slice a m c]) w (w4.setCell ⟨b, 0, none⟩ (.slice a' (sn + 1) c'))) := HT
  clear HT hr4 hg4 ho4 hx4
  go_wp2_with fail
  go_end0
  exact ⟨rfl, HT2.out⟩
/-- Took, one behind the other. -/
theorem Took.trans {B b : Nat} {s s1 : Sl} {vs : List Value} {w w1 w2 : World} (h1 : KeepL b s.a w w1) (h2 : s1.a = s.a ∨ ∃ g, s1.a = some ⟨g, 0, none⟩ ∧ w.heap.size ≤ g) (h : Took B b s1 vs w1 w2) : Took B b s vs w w2 := by
  obtain ⟨s2, k1, k2, k3⟩ := h
  refine ⟨s2, k1, ⟨k2.os.trans h1.os, k2.tape.trans h1.tape, k2.output.trans h1.output, Nat.le_trans h1.size k2.size, fun k hk h5 h6 => (k2.block k (Nat.lt_of_lt_of_le hk h1.size) h5 (fun e => ?_)).trans (h1.block k hk h5 h6)⟩, ?_⟩
  · rcases h2 with e2 | ⟨g, e2, hl⟩
    · rw [e2] at e; exact h6 e
    · rw [e2] at e; simp [blk] at e; omega
  · rcases k3 with e | ⟨g, e, hl⟩
    · rcases h2 with e2 | ⟨g, e2, hl⟩
      · exact .inl (e.trans e2)
      · exact .inr ⟨g, e.trans e2, hl⟩
    · exact .inr ⟨g, e, Nat.le_trans h1.size hl⟩
theorem row_cell2 {w : World} {B : Nat} {e : TypeId} {a : Option Addr} {n c : Nat} {xs : List Value} (h : Row w B e a n c xs) {k : Nat} {u : Value} (hu : xs[k]? = some u) : ∃ g, a = some ⟨g, 0, none⟩ ∧ w.cell? ⟨g, k, none⟩ = some u := by
  have hk : k < xs.length := (List.getElem?_eq_some_iff.1 hu).1
  rcases h.mem with ⟨_, e⟩ | ⟨g, cu, e, _⟩
  · have := h.cap; have := h.len; omega
  · subst e
    refine ⟨g, rfl, ?_⟩
    rcases h.reads.2 with e | ⟨ad, e1, e2⟩
    · have := h.len; omega
    · cases e1
      have := e2 k u hu
      rw [Addr.add_mid, Nat.zero_add] at this
      exact this
set_option maxRecDepth 100000 in
set_option maxHeartbeats 2000000 in
theorem j20 (B b : Nat) (s : Sl) (vs : List Value) (a : Option Addr) (n c : Nat) (l : List Sl) (w : World) (h : BkR w B b s vs) (hr : Row w B 22 a n c (l.map Sl.v)) (hne : ∀ g, blk a = some g → blk s.a ≠ some g) (hn : s.n + n ≤ 1000000000) (hB : B ≤ w.heap.size) :
    Calls Try.prog 20 #[.pointer (some ⟨b, 0, none⟩), .slice a n c] w fun e w' => e = .returned (.tuple #[]) ∧ Took B b s (vs ++ l.map Sl.v) w w' := by
  have HH : Hid (BkR w B b s vs) := h
  have HR : Hid (Row w B 22 a n c (l.map Sl.v)) := hr
  have HN : Hid (∀ g, blk a = some g → blk s.a ≠ some g) := hne
  have HL : Hid (l.length = n) := by have := hr.len; rw [List.length_map] at this; exact this
  clear h hr hne
  go_enter Try.func20, Try.ntmps20
  go_wp2_with fail
  go_loopw [4] (fun i wr => ∃ k : Nat, k ≤ n ∧ i = .int .i64 k ∧ Hid (Took B b s (vs ++ (l.take k).map Sl.v) w wr)) (fun i _ => n - (intOf i).toNat)
  case atStart => exact ⟨0, Nat.zero_le _, rfl, s, by simpa using HH.out, ⟨rfl, rfl, rfl, Nat.le_refl _, fun _ _ _ _ => rfl⟩, .inl rfl⟩
  case round =>
    obtain ⟨k, hk, rfl, hI⟩ := hrel
    by_cases hlt : k < n
    · have hlt1 : (k : Int) < (n : Int) := by omega
      have hk0 : (0 : Int) ≤ (k : Int) := by omega
      have hkl : k < l.length := by rw [HL.out]; exact hlt
      obtain ⟨s1, q1, q2, q3⟩ := hI.out
      have hrr : Row wr B 22 a n c (l.map Sl.v) := HR.out.keeps fun g e => q2.block g (HR.out.lt e).2 (fun e2 => by
        subst e2
        obtain ⟨cu, h5⟩ := HR.out.type e
        rw [HH.out.book] at h5; cases h5) (HN.out g e)
      obtain ⟨g, rfl, hc⟩ := row_cell2 hrr (k := k) (u := l[k].v) (by rw [List.getElem?_map, List.getElem?_eq_getElem hkl]; rfl)
      have hsn : s1.n ≤ 1000000000 := by
        have h1 := q1.row.len
        have h2 := HH.out.row.len
        rw [List.length_append, List.length_map, List.length_take] at h1
        omega
      have H19 := j19 B b s1 (vs ++ (l.take k).map Sl.v) l[k].a l[k].n l[k].c wr q1 hsn (Nat.le_trans hB q2.size)
      have HTK : Hid (∀ w', Took B b s1 (vs ++ (l.take k).map Sl.v ++ [.slice l[k].a l[k].n l[k].c]) wr w' → Took B b s (vs ++ (l.take (k + 1)).map Sl.v) w w') := fun w' ht => by
        have := Took.trans q2 q3 ht
        rw [take_snoc l k hkl, List.map_append, ← List.append_assoc]
        exact this
      rw [show l[k].v = .slice l[k].a l[k].n l[k].c from rfl] at hc
      clear q1 q2 q3 hrr
      go_wp2_with fail
      refine H19.mono ?_
      rintro e w2 ⟨rfl, ht⟩
      have HT2 : Hid (Took B b s (vs ++ (l.take (k + 1)).map Sl.v) w w2) := HTK.out w2 ht
      clear ht H19
      go_wp2_with fail
      go_roundw
      case rel => exact ⟨k + 1, by omega, by go_num, HT2⟩
      case measure => simp [intOf]; omega
    · go_wp2_with fail
      go_end0
      have h9 := hI.out
      rw [List.take_of_length_le (by rw [HL.out]; omega)] at h9
      exact ⟨rfl, h9⟩
/-- Rows that a book may ask about: each in memory of its own. -/
structure Rws (w : World) (B : Nat) (l : List Sl) : Prop where
  own : ∀ s ∈ l, ∃ xs : List Int, Row w B 5 s.a s.n s.c (u8s xs) ∧ Ex w 5 s.a s.c ∧ s.n ≤ 1000000000
  apart : ∀ (i j : Nat) (s t : Sl) (g : Nat), i ≠ j → l[i]? = some s → l[j]? = some t → blk s.a = some g → blk t.a ≠ some g
set_option maxRecDepth 100000 in
set_option maxHeartbeats 2000000 in
theorem j21 (B b : Nat) (s : Sl) (l : List Sl) (w : World) (h : BkR w B b s (l.map Sl.v)) (hr : Rws w B l) (hl : l.length ≤ 100000000) :
    Calls Try.prog 21 #[.pointer (some ⟨b, 0, none⟩)] w fun e w' => e = .returned (.bool true) ∧ Below B w w' := by
  have hlen : s.n = l.length := by have := h.row.len; rw [List.length_map] at this; exact this.symm
  have hP : Bk.P1 5 22 .u8 Bk.mkB (bkV s) w B b (.slice s.a s.n s.c) (l.map Sl.v) (l.map Sl.n) 0 0 := by
    have hown : ∀ (j : Nat) (v : Value) (n : Nat), (l.map Sl.v)[j]? = some v → (l.map Sl.n)[j]? = some n → ∃ zs : List Int, zs.length = n ∧ Bk.OwnZ w B 5 .u8 v zs := fun j v n h1 h2 => by
      simp only [List.getElem?_map, Option.map_eq_some_iff] at h1 h2
      obtain ⟨t, e1, rfl⟩ := h1
      obtain ⟨t', e2, rfl⟩ := h2
      rw [e1] at e2; cases e2
      obtain ⟨xs, k1, k2, _⟩ := hr.own t (List.mem_of_getElem? e1)
      have hx : xs.length = t.n := by have := k1.len; simpa [u8s] using this
      refine ⟨xs, hx, ?_, fun _ _ => rfl⟩
      rw [hx]
      exact k1.owns k2
    refine ⟨⟨by decide, by decide, by decide⟩, h.book, h.hb, ?_, fun j v n hj => by omega, ?_, fun j v n _ h1 h2 => hown j v n h1 h2, ?_⟩
    · rw [List.length_map, ← hlen]; exact h.row.owns h.ex
    · intro v n h1 h2
      obtain ⟨zs, k1, k2⟩ := hown 0 v n h1 h2
      exact ⟨zs, by omega, by simpa using k2⟩
    · intro j j' v v' g hne h1 h2 h3
      simp only [List.getElem?_map, Option.map_eq_some_iff] at h1 h2
      obtain ⟨t, e1, rfl⟩ := h1
      obtain ⟨t', e2, rfl⟩ := h2
      have hb1 : ∀ t : Sl, t.v.ownBlock = blk t.a := fun t => by unfold Sl.v; cases t.a <;> rfl
      rw [hb1] at h3 ⊢
      exact hr.apart j j' t t' g hne e1 e2 h3
  have H42 := Bk.n48 B b (bkV s) (.slice s.a s.n s.c) (l.map Sl.v) (l.map Sl.n) w hP rfl (by rw [List.length_map]; omega) (fun n hn => by
    obtain ⟨t, ht, rfl⟩ := List.mem_map.1 hn
    obtain ⟨_, _, _, k3⟩ := hr.own t ht
    omega)
  have hBb := h.hb
  clear h hr hP hlen
  obtain ⟨sa, sn, sc⟩ := s
  go_enter Try.func21, Try.ntmps21
  go_wp2_with fail
  refine H42.mono ?_
  rintro e w1 ⟨rfl, hbk1, hk1⟩
  have hbk : w1.heap[b]? = some (.cells #[.slice sa sn sc, .slice none 0 0, .slice none 0 0, .slice none 0 0, .slice none 0 0] 41 (0, 0)) := hbk1
  have c0 : w1.cell? ⟨b, 0, none⟩ = some (.slice sa sn sc) := by rw [cell_of_row w1 b 0 _ 41 (0, 0) hbk]; rfl
  have c1 : w1.cell? ⟨b, 1, none⟩ = some (.slice none 0 0) := by rw [cell_of_row w1 b 1 _ 41 (0, 0) hbk]; rfl
  have c2 : w1.cell? ⟨b, 2, none⟩ = some (.slice none 0 0) := by rw [cell_of_row w1 b 2 _ 41 (0, 0) hbk]; rfl
  have c3 : w1.cell? ⟨b, 3, none⟩ = some (.slice none 0 0) := by rw [cell_of_row w1 b 3 _ 41 (0, 0) hbk]; rfl
  have c4 : w1.cell? ⟨b, 4, none⟩ = some (.slice none 0 0) := by rw [cell_of_row w1 b 4 _ 41 (0, 0) hbk]; rfl
  have f0 : w1.frozen? ⟨b, 0, none⟩ = false := frozen_of_row w1 b 0 _ 41 hbk
  have f1 : w1.frozen? ⟨b, 1, none⟩ = false := frozen_of_row w1 b 1 _ 41 hbk
  have f2 : w1.frozen? ⟨b, 2, none⟩ = false := frozen_of_row w1 b 2 _ 41 hbk
  have f3 : w1.frozen? ⟨b, 3, none⟩ = false := frozen_of_row w1 b 3 _ 41 hbk
  have f4 : w1.frozen? ⟨b, 4, none⟩ = false := frozen_of_row w1 b 4 _ 41 hbk
  have HK : Hid (Below B w w1) := hk1.below
  clear hk1 hbk1 hbk H42
  go_wp2_with fail
  refine (j43_no b w1 c1).mono ?_
  rintro e w2 ⟨rfl, hw2⟩
  obtain rfl := hw2.symm
  go_wp2_with fail
  refine (j44_no b w1 c2).mono ?_
  rintro e w2 ⟨rfl, hw2⟩
  obtain rfl := hw2.symm
  go_wp2_with fail
  refine (j45_no b w1 c3).mono ?_
  rintro e w2 ⟨rfl, hw2⟩
  obtain rfl := hw2.symm
  go_wp2_with fail
  refine (j46_no b w1 c4).mono ?_
  rintro e w2 ⟨rfl, hw2⟩
  obtain rfl := hw2.symm
  go_wp2_with fail
  go_ret
  refine ⟨rfl, ?_⟩
  first | exact ((((HK.out.setCell hBb _).setCell hBb _).setCell hBb _).setCell hBb _).setCell hBb _ | skip
end Go.Proofs.Ythomdgafaffphaa
