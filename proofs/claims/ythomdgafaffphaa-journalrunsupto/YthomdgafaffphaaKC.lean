/- What a deed does to a pair of logs. -/
import Derived.Test.YthomdgafaffphaaKB
namespace Go.Proofs.Ythomdgafaffphaa
open Go.RowKit
/-- What Append answers, and leaves. -/
def appE (xs : List Int) (n : Nat) : Int := if tornB xs = true then 140 else if 131072 < n then 5 else 0
def appL (xs p : List Int) : List Int := if tornB xs = true then xs else if 131072 < p.length then xs else xs ++ recI p
def cutE (xs : List Int) (n : Nat) (k : Int) : Int := if tornB xs = true then 140 else if 131072 < n then 5 else if k < 0 then 2 else 0
def cutA (xs : List Int) (n : Nat) (k : Int) : Bool := if tornB xs = true then false else if 131072 < n then false else if k < 0 then false else decide (((8 + n : Nat) : Int) ≤ k)
def cutL (xs p : List Int) (k : Int) : List Int := if tornB xs = true then xs else if 131072 < p.length then xs else if k < 0 then xs else xs ++ (recI p).take k.toNat
theorem appL_len (xs p : List Int) : (appL xs p).length ≤ xs.length + (8 + p.length) := by
  unfold appL
  split
  · omega
  · split
    · omega
    · rw [List.length_append, recI_length]; omega
theorem cutL_len (xs p : List Int) (k : Int) : (cutL xs p k).length ≤ xs.length + (8 + p.length) := by
  unfold cutL
  split
  · omega
  · split
    · omega
    · split
      · omega
      · rw [List.length_append, List.length_take, recI_length]; omega
theorem torn_no {xs : List Int} (h : ¬ tornB xs = true) : lastE (recs 0 xs) = xs.length := by
  have := last_le xs
  simp [tornB] at h
  omega
theorem torn_yes {xs : List Int} (h : tornB xs = true) : lastE (recs 0 xs) < xs.length := by simpa [tornB] using h
/-- How things lie while a deed is done. -/
structure Do2 (w0 : World) (sa0 : Option Addr) (w : World) (B pb db g lb rb : Nat) (kd kn : Int) (pa : Option Addr) (pn pc : Nat) (p : List Int) (s t : Sl) (ys xs : List Int) : Prop where
  pbx : w.heap[pb]? = some (.cells #[.pointer (some ⟨lb, 0, none⟩), .pointer (some ⟨rb, 0, none⟩)] 50 (0, 0))
  dbx : w.heap[db]? = some (.cells #[.int .i64 kd, .int .i64 kn, .slice pa pn pc] 53 (0, 0))
  hand : HandOf w B g p
  pay : By w pa pn pc p
  bel : Below B w0 w
  log : LogAt w lb B s ys
  rf : RfAt w rb B t xs
  apart : ∀ k, blk s.a = some k → blk t.a ≠ some k
  offS : blk s.a ≠ some g
  offT : blk t.a ≠ some g
  hl : B ≤ lb
  hpB : pn = 0 ∨ ∀ k, blk pa = some k → k < B
  fr : ∀ k, k < w0.heap.size → k ≠ lb → k ≠ rb → blk sa0 ≠ some k → w.heap[k]? = w0.heap[k]?
  mv : s.a = sa0 ∨ ∀ k, blk s.a = some k → w0.heap.size ≤ k
  sz : w0.heap.size ≤ w.heap.size
section
variable {w0 w w' : World} {sa0 : Option Addr} {B pb db g lb rb : Nat} {kd kn : Int} {pa : Option Addr} {pn pc : Nat} {p : List Int} {s t : Sl} {ys xs zs : List Int}
theorem By.stays {a : Option Addr} {n c : Nat} (h : By w a n c ys) (hkk : n = 0 ∨ ∀ k, blk a = some k → w'.heap[k]? = w.heap[k]?) : By w' a n c ys :=
  ⟨h.len, h.cap, h.nil, h.rng, by
    rcases hkk with e | hk
    · exact .inl e
    rcases h.mem with e | ⟨b, o, e, hl, hr⟩
    · exact .inl e
    · subst e
      have hg := hk b rfl
      refine .inr ⟨b, o, rfl, ?_, fun j u hu => ?_⟩
      · rw [Array.getElem?_eq_getElem hl] at hg
        exact (Array.getElem?_eq_some_iff.1 hg).1
      · have := hr j u hu
        unfold World.cell? at this ⊢
        simp only [hg]
        exact this⟩
theorem Do2.gt (h : Do2 w0 sa0 w B pb db g lb rb kd kn pa pn pc p s t ys xs) : ∃ cu : Array Value, w.heap[g]? = some (.cells cu 5 (0, 0)) := Row.type h.hand rfl
theorem Do2.below (h : Do2 w0 sa0 w B pb db g lb rb kd kn pa pn pc p s t ys xs) (hb : Below w.heap.size w w') : Do2 w0 sa0 w' B pb db g lb rb kd kn pa pn pc p s t ys xs := by
  have hBw : B ≤ w.heap.size := Nat.le_of_lt (Nat.lt_of_le_of_lt h.hl h.log.lt)
  exact ⟨(hb.block pb (Array.getElem?_eq_some_iff.1 h.pbx).1).trans h.pbx, (hb.block db (Array.getElem?_eq_some_iff.1 h.dbx).1).trans h.dbx, h.hand.below hb, h.pay.below hb, h.bel.trans (hb.mono hBw), h.log.below hb, h.rf.below hb, h.apart, h.offS, h.offT, h.hl, h.hpB, fun k hk h1 h2 h3 => (hb.block k (Nat.lt_of_lt_of_le hk h.sz)).trans (h.fr k hk h1 h2 h3), h.mv, Nat.le_trans h.sz hb.size⟩
/-- The program's log is written. -/
theorem Do2.logTo (h : Do2 w0 sa0 w B pb db g lb rb kd kn pa pn pc p s t ys xs) {s' : Sl} (hl : LogAt w' lb B s' zs) (hk : KeepL lb s.a w w') (ha : s'.a = s.a ∨ ∃ k, s'.a = some ⟨k, 0, none⟩ ∧ w.heap.size ≤ k) : Do2 w0 sa0 w' B pb db g lb rb kd kn pa pn pc p s' t zs xs := by
  have hBw : B ≤ w.heap.size := Nat.le_of_lt (Nat.lt_of_le_of_lt h.hl h.log.lt)
  have key : ∀ (k : Nat) (cu : Array Value) (ty : TypeId), w.heap[k]? = some (.cells cu ty (0, 0)) → ty ≠ 83 → (ty ≠ 5 ∨ blk s.a ≠ some k) → w'.heap[k]? = w.heap[k]? := fun k cu ty hk1 h1 h2 => by
    refine hk.block k (Array.getElem?_eq_some_iff.1 hk1).1 (fun e => ?_) (fun e => ?_)
    · rw [e, h.log.blk] at hk1; cases hk1; exact h1 rfl
    · rcases h2 with h2 | h2
      · obtain ⟨cu2, h3⟩ := h.log.row.type e
        rw [hk1] at h3; cases h3; exact h2 rfl
      · exact h2 e
  obtain ⟨cg, hg⟩ := h.gt
  have hlow : ∀ k, k < B → w'.heap[k]? = w.heap[k]? := fun k hk1 => hk.block k (by omega) (by have := h.hl; omega) (fun e => by have := (h.log.row.lt e).1; omega)
  have hnew : ∀ k, blk s'.a = some k → blk s.a = some k ∨ w.heap.size ≤ k := fun k e => by
    rcases ha with e1 | ⟨k', e1, h2⟩
    · rw [e1] at e; exact .inl e
    · rw [e1] at e
      simp only [blk_some, Option.some.injEq] at e
      exact .inr (by omega)
  have hrt : ∀ k, blk t.a = some k → w'.heap[k]? = w.heap[k]? := fun k e => by
    obtain ⟨cu, h1⟩ := h.rf.row.type e
    exact key k cu 5 h1 (by decide) (.inr fun e2 => h.apart k e2 e)
  refine ⟨(key pb _ 50 h.pbx (by decide) (.inl (by decide))).trans h.pbx, (key db _ 53 h.dbx (by decide) (.inl (by decide))).trans h.dbx, Row.keeps h.hand fun k e => by cases e; exact key g cg 5 hg (by decide) (.inr h.offS), h.pay.stays (h.hpB.imp id fun hh k e => hlow k (hh k e)), h.bel.trans ⟨hk.os, hk.tape, hk.output, hk.size, fun k hk1 => hlow k hk1⟩, hl, ⟨(key rb _ 58 h.rf.blk (by decide) (.inl (by decide))).trans h.rf.blk, h.rf.hb, h.rf.row.keeps hrt, h.rf.rng⟩, fun k e e2 => ?_, fun e => ?_, h.offT, h.hl, h.hpB, fun k hk1 h1 h2 h3 => ?_, ?_, Nat.le_trans h.sz hk.size⟩
  · rcases hnew k e with e3 | e3
    · exact h.apart k e3 e2
    · have := (h.rf.row.lt e2).2; omega
  · rcases hnew g e with e3 | e3
    · exact h.offS e3
    · have := (Array.getElem?_eq_some_iff.1 hg).1; omega
  · refine (hk.block k (Nat.lt_of_lt_of_le hk1 h.sz) h1 fun e => ?_).trans (h.fr k hk1 h1 h2 h3)
    rcases h.mv with e1 | e1
    · rw [e1] at e; exact h3 e
    · have := e1 k e; omega
  · rcases ha with e1 | ⟨k', e1, h2⟩
    · rw [e1]; exact h.mv
    · refine .inr fun k e => ?_
      rw [e1] at e
      simp only [blk_some, Option.some.injEq] at e
      have := h.sz
      omega
/-- The document's log is written. -/
theorem Do2.rfTo (h : Do2 w0 sa0 w B pb db g lb rb kd kn pa pn pc p s t ys xs) (hr : RfTo w rb B t.a zs w') : ∃ t', Do2 w0 sa0 w' B pb db g lb rb kd kn pa pn pc p s t' ys zs := by
  obtain ⟨⟨t', h1, h2⟩, h3, h4, h5, h6, h7⟩ := hr
  have hBw : B ≤ w.heap.size := Nat.le_of_lt (Nat.lt_of_le_of_lt h.hl h.log.lt)
  have key : ∀ (k : Nat) (cu : Array Value) (ty : TypeId), w.heap[k]? = some (.cells cu ty (0, 0)) → ty ≠ 58 → w'.heap[k]? = w.heap[k]? := fun k cu ty hk1 hne => by
    refine h7 k (Array.getElem?_eq_some_iff.1 hk1).1 (fun e => ?_)
    rw [e, h.rf.blk] at hk1; cases hk1; exact hne rfl
  obtain ⟨cg, hg⟩ := h.gt
  have hlow : ∀ k, k < B → w'.heap[k]? = w.heap[k]? := fun k hk1 => h7 k (by omega) (by have := h.rf.hb; omega)
  have hnew : ∀ k, blk t'.a = some k → blk t.a = some k ∨ w.heap.size ≤ k := fun k e => by
    rcases h2 with e1 | e1
    · rw [e1] at e; exact .inl e
    · exact .inr (e1 k e)
  refine ⟨t', (key pb _ 50 h.pbx (by decide)).trans h.pbx, (key db _ 53 h.dbx (by decide)).trans h.dbx, Row.keeps h.hand fun k e => by cases e; exact key g cg 5 hg (by decide), h.pay.stays (h.hpB.imp id fun hh k e => hlow k (hh k e)), h.bel.trans ⟨h3, h4, h5, h6, fun k hk1 => hlow k hk1⟩, h.log.keeps (key lb _ 83 h.log.blk (by decide)) (fun k e => by obtain ⟨cu, h8⟩ := h.log.row.type e; exact key k cu 5 h8 (by decide)), h1, fun k e e2 => ?_, h.offS, fun e => ?_, h.hl, h.hpB, fun k hk1 g1 g2 g3 => (h7 k (Nat.lt_of_lt_of_le hk1 h.sz) g2).trans (h.fr k hk1 g1 g2 g3), h.mv, Nat.le_trans h.sz h6⟩
  · rcases hnew k e2 with e3 | e3
    · exact h.apart k e e3
    · have := (h.log.row.lt e).2; omega
  · rcases hnew g e with e3 | e3
    · exact h.offT e3
    · have := (Array.getElem?_eq_some_iff.1 hg).1; omega
theorem Do2.cells (h : Do2 w0 sa0 w B pb db g lb rb kd kn pa pn pc p s t ys xs) : w.cell? ⟨pb, 0, none⟩ = some (.pointer (some ⟨lb, 0, none⟩)) ∧ w.cell? ⟨pb, 1, none⟩ = some (.pointer (some ⟨rb, 0, none⟩)) ∧ w.cell? ⟨db, 0, none⟩ = some (.int .i64 kd) ∧ w.cell? ⟨db, 1, none⟩ = some (.int .i64 kn) ∧ w.cell? ⟨db, 2, none⟩ = some (.slice pa pn pc) :=
  ⟨by rw [cell_of_row w pb 0 _ 50 (0, 0) h.pbx]; rfl, by rw [cell_of_row w pb 1 _ 50 (0, 0) h.pbx]; rfl, by rw [cell_of_row w db 0 _ 53 (0, 0) h.dbx]; rfl, by rw [cell_of_row w db 1 _ 53 (0, 0) h.dbx]; rfl, by rw [cell_of_row w db 2 _ 53 (0, 0) h.dbx]; rfl⟩
theorem Do2.size (h : Do2 w0 sa0 w B pb db g lb rb kd kn pa pn pc p s t ys xs) : B ≤ w.heap.size := Nat.le_of_lt (Nat.lt_of_le_of_lt h.hl h.log.lt)
theorem Do2.inB (h : Do2 w0 sa0 w B pb db g lb rb kd kn pa pn pc p s t ys xs) : By w (some ⟨g, 0, none⟩) pn (pn + 9) p := h.hand.by h.pay.rng h.pay.len
def Logged (w0 : World) (sa0 : Option Addr) (B pb db g lb rb : Nat) (kd kn : Int) (pa : Option Addr) (pn pc : Nat) (p : List Int) (ys xs : List Int) (w : World) : Prop := ∃ s t, Do2 w0 sa0 w B pb db g lb rb kd kn pa pn pc p s t ys xs
theorem d33 (h : Do2 w0 sa0 w B pb db g lb rb kd kn pa pn pc p s t xs xs) (hn : xs.length + (8 + pn) ≤ 1000000000) :
    Calls Try.prog 33 #[.pointer (some ⟨lb, 0, none⟩), .slice (some ⟨g, 0, none⟩) pn (pn + 9)] w fun e w' => e = .returned (.int .i64 (appE xs pn)) ∧ Logged w0 sa0 B pb db g lb rb kd kn pa pn pc p (appL xs p) xs w' := by
  have hsn : s.n = xs.length := h.log.len.symm
  unfold appE appL
  rw [h.pay.len]
  by_cases ht : tornB xs = true
  · simp only [ht, if_true]
    refine (j33_torn lb B s xs _ w h.log (by omega) (torn_yes ht)).mono ?_
    rintro e w' ⟨rfl, d, rfl⟩
    exact ⟨rfl, s, t, h.below (below_dN (Below.refl _ _) d)⟩
  · simp only [ht, if_false, Bool.false_eq_true]
    by_cases hl : 131072 < pn
    · simp only [hl, if_true]
      refine (j33_long lb B pn (pn + 9) _ s xs w h.log (by omega) (torn_no ht) hl (by omega)).mono ?_
      rintro e w' ⟨rfl, d, rfl⟩
      exact ⟨rfl, s, t, h.below (below_dN (Below.refl _ _) d)⟩
    · simp only [hl, if_false]
      refine (j33 lb B pn (pn + 9) _ s xs p w h.log h.size (by omega) (torn_no ht) h.inB (by omega)).mono ?_
      rintro e w' ⟨rfl, s', h1, h2, h3⟩
      exact ⟨rfl, s', t, h.logTo h1 h2 h3⟩
theorem d51 (h : Do2 w0 sa0 w B pb db g lb rb kd kn pa pn pc p s t ys xs) (hn : xs.length + (8 + pn) ≤ 1000000000) :
    Calls Try.prog 51 #[.pointer (some ⟨rb, 0, none⟩), .slice pa pn pc] w fun e w' => e = .returned (.int .i64 (appE xs pn)) ∧ Logged w0 sa0 B pb db g lb rb kd kn pa pn pc p ys (appL xs p) w' := by
  have hsn : t.n = xs.length := by have := h.rf.row.len; simpa [u8s] using this.symm
  unfold appE appL
  rw [h.pay.len]
  by_cases ht : tornB xs = true
  · simp only [ht, if_true]
    refine (j51_torn rb B t xs pa pn pc w h.rf (by omega) ht).mono ?_
    rintro e w' ⟨rfl, hr⟩
    exact ⟨rfl, s, h.rfTo hr⟩
  · have ht2 : tornB xs = false := by simpa using ht
    simp only [ht, if_false, Bool.false_eq_true]
    by_cases hl : 131072 < pn
    · simp only [hl, if_true]
      refine (j51_long rb B t xs pa pn pc p w h.rf (by omega) ht2 h.pay (by omega) hl).mono ?_
      rintro e w' ⟨rfl, hr⟩
      exact ⟨rfl, s, h.rfTo hr⟩
    · simp only [hl, if_false]
      refine (j51 rb B t xs pa pn pc p w h.rf h.size (by omega) ht2 h.pay (by omega)).mono ?_
      rintro e w' ⟨rfl, hr⟩
      exact ⟨rfl, s, h.rfTo hr⟩
theorem d36 (h : Do2 w0 sa0 w B pb db g lb rb kd kn pa pn pc p s t xs xs) (hn : xs.length + (8 + pn) ≤ 1000000000) (k : Int) :
    Calls Try.prog 36 #[.pointer (some ⟨lb, 0, none⟩), .slice (some ⟨g, 0, none⟩) pn (pn + 9), .int .i64 k] w fun e w' => e = .returned (.tuple #[.bool (cutA xs pn k), .int .i64 (cutE xs pn k)]) ∧ Logged w0 sa0 B pb db g lb rb kd kn pa pn pc p (cutL xs p k) xs w' := by
  have hsn : s.n = xs.length := h.log.len.symm
  unfold cutE cutA cutL
  rw [h.pay.len]
  by_cases ht : tornB xs = true
  · simp only [ht, if_true]
    refine (j36_torn lb B s xs _ k w h.log (by omega) (torn_yes ht)).mono ?_
    rintro e w' ⟨rfl, d, rfl⟩
    exact ⟨rfl, s, t, h.below (below_dN (Below.refl _ _) d)⟩
  · simp only [ht, if_false, Bool.false_eq_true]
    by_cases hl : 131072 < pn
    · simp only [hl, if_true]
      refine (j36_long lb B pn (pn + 9) _ s xs k w h.log (by omega) (torn_no ht) hl (by omega)).mono ?_
      rintro e w' ⟨rfl, d, rfl⟩
      exact ⟨rfl, s, t, h.below (below_dN (Below.refl _ _) d)⟩
    · simp only [hl, if_false]
      by_cases hk : k < 0
      · simp only [hk, if_true]
        refine (j36_neg lb B pn (pn + 9) _ s xs p k w h.log (by omega) (torn_no ht) h.inB (by omega) hk).mono ?_
        rintro e w' ⟨rfl, hb⟩
        exact ⟨rfl, s, t, h.below hb⟩
      · simp only [hk, if_false]
        refine (j36 lb B pn (pn + 9) _ s xs p k w h.log h.size (by omega) (torn_no ht) h.inB (by omega) (by omega)).mono ?_
        have hpl := h.pay.len
        rintro e w' (⟨h0, rfl, s', h1, h2, h3⟩ | ⟨h0, rfl, s', h1, h2, h3⟩)
        · have hd : decide (((8 + pn : Nat) : Int) ≤ k) = false := by rw [← hpl]; simpa using h0
          rw [hd]
          exact ⟨rfl, s', t, h.logTo h1 h2 h3⟩
        · have hd : decide (((8 + pn : Nat) : Int) ≤ k) = true := by rw [← hpl]; simpa using h0
          rw [hd]
          have e1 : (recI p).take k.toNat = recI p := List.take_of_length_le (by rw [recI_length]; omega)
          rw [e1]
          exact ⟨rfl, s', t, h.logTo h1 h2 h3⟩
theorem d52 (h : Do2 w0 sa0 w B pb db g lb rb kd kn pa pn pc p s t ys xs) (hn : xs.length + (8 + pn) ≤ 1000000000) (k : Int) :
    Calls Try.prog 52 #[.pointer (some ⟨rb, 0, none⟩), .slice pa pn pc, .int .i64 k] w fun e w' => e = .returned (.tuple #[.bool (cutA xs pn k), .int .i64 (cutE xs pn k)]) ∧ Logged w0 sa0 B pb db g lb rb kd kn pa pn pc p ys (cutL xs p k) w' := by
  have hsn : t.n = xs.length := by have := h.rf.row.len; simpa [u8s] using this.symm
  unfold cutE cutA cutL
  rw [h.pay.len]
  by_cases ht : tornB xs = true
  · simp only [ht, if_true]
    refine (j52_torn rb B t xs pa pn pc k w h.rf (by omega) ht).mono ?_
    rintro e w' ⟨rfl, hr⟩
    exact ⟨rfl, s, h.rfTo hr⟩
  · have ht2 : tornB xs = false := by simpa using ht
    simp only [ht, if_false, Bool.false_eq_true]
    by_cases hl : 131072 < pn
    · simp only [hl, if_true]
      refine (j52_long rb B t xs pa pn pc p k w h.rf (by omega) ht2 h.pay (by omega) hl).mono ?_
      rintro e w' ⟨rfl, hr⟩
      exact ⟨rfl, s, h.rfTo hr⟩
    · simp only [hl, if_false]
      by_cases hk : k < 0
      · simp only [hk, if_true]
        refine (j52_neg rb B t xs pa pn pc p k w h.rf (by omega) ht2 h.pay (by omega) hk).mono ?_
        rintro e w' ⟨rfl, hr⟩
        exact ⟨rfl, s, h.rfTo hr⟩
      · simp only [hk, if_false]
        by_cases h0 : ((8 + pn : Nat) : Int) ≤ k
        · have hd : decide (((8 + pn : Nat) : Int) ≤ k) = true := by simpa using h0
          rw [hd]
          have e1 : (recI p).take k.toNat = (recI p).take (8 + pn) := by
            rw [List.take_of_length_le (by rw [recI_length, h.pay.len]; omega), List.take_of_length_le (by rw [recI_length, h.pay.len]; omega)]
          rw [e1]
          refine (j52_some rb B t xs pa pn pc p k (8 + pn) true w h.rf h.size (by omega) ht2 h.pay (by omega) (.inl ⟨rfl, h0, rfl⟩)).mono ?_
          rintro e w' ⟨rfl, hr⟩
          exact ⟨rfl, s, h.rfTo hr⟩
        · have hd : decide (((8 + pn : Nat) : Int) ≤ k) = false := by simpa using h0
          rw [hd]
          refine (j52_some rb B t xs pa pn pc p k k.toNat false w h.rf h.size (by omega) ht2 h.pay (by omega) (.inr ⟨rfl, by omega, by omega⟩)).mono ?_
          rintro e w' ⟨rfl, hr⟩
          exact ⟨rfl, s, h.rfTo hr⟩
/-- What Mend answers. -/
def menN (xs : List Int) : Int := ((xs.length - lastE (recs 0 xs) : Nat) : Int)
theorem d31 (h : Do2 w0 sa0 w B pb db g lb rb kd kn pa pn pc p s t xs xs) (hn : xs.length + (8 + pn) ≤ 1000000000) :
    Calls Try.prog 31 #[.pointer (some ⟨lb, 0, none⟩)] w fun e w' => e = .returned (.int .i64 (menN xs)) ∧ Logged w0 sa0 B pb db g lb rb kd kn pa pn pc p (xs.take (lastE (recs 0 xs))) xs w' := by
  have hsn : s.n = xs.length := h.log.len.symm
  have hle := last_le xs
  refine (j31 lb B s xs w h.log (by omega)).mono ?_
  rintro e w' ⟨rfl, h1, h2⟩
  refine ⟨?_, _, t, h.logTo h1 h2 (.inl rfl)⟩
  have : ((s.n : Int) - (lastE (recs 0 xs) : Int)) = menN xs := by unfold menN; omega
  rw [this]
theorem d53 (h : Do2 w0 sa0 w B pb db g lb rb kd kn pa pn pc p s t ys xs) (hn : xs.length + (8 + pn) ≤ 1000000000) :
    Calls Try.prog 53 #[.pointer (some ⟨rb, 0, none⟩)] w fun e w' => e = .returned (.int .i64 (menN xs)) ∧ Logged w0 sa0 B pb db g lb rb kd kn pa pn pc p ys (xs.take (lastE (recs 0 xs))) w' := by
  have hsn : t.n = xs.length := by have := h.rf.row.len; simpa [u8s] using this.symm
  refine (j53 rb B t xs w h.rf h.size (by omega)).mono ?_
  rintro e w' ⟨rfl, hr⟩
  exact ⟨rfl, s, h.rfTo hr⟩
end
end Go.Proofs.Ythomdgafaffphaa
