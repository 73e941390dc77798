/- Rows of values that rise: the plain side. The reference's heap in memory; its Less, New, place. Contract of the reference's Bind: the plain side. -/
import Derived.Test.YtljggjllijacjaaGreatDoorHP6g
import Derived.Test.YtljggjllijacjaaGreatDoorVAg
import Derived.Test.YtljggjllijacjaaGreatDoorKY3g
namespace Go.Proofs.YtljggjllijacjaaGreatDoor
open Go.RowKit
theorem ltN_less (x y : Nm) : ltN x y ↔ lessN x y = true := by simp [ltN, lessN]
theorem look_none_mem {m : Hp} {x : Nm} : lookH m x = none ↔ ∀ p ∈ m, p.1 ≠ x := by
 unfold lookH
 rw [Option.map_eq_none_iff, List.find?_eq_none]
 constructor
 ·intro h p hp e
  exact h p hp (by simpa using e)
 ·intro h p hp e
  exact h p hp (by simpa using e)
theorem ins_mem (x : Nm) (l : List C) : ∀ (m : Hp) (p : Nm × List C), p ∈ insH x l m ↔ p = (x, l) ∨ p ∈ m
 | [], p => by simp [insH]
 | q :: r, p => by
  unfold insH
  split
  ·simp
  ·simp only [List.mem_cons, ins_mem x l r]
   constructor
   ·rintro (h | h | h)
    ·exact .inr (.inl h)
    ·exact .inl h
    ·exact .inr (.inr h)
   ·rintro (h | h | h)
    ·exact .inr (.inl h)
    ·exact .inl h
    ·exact .inr (.inr h)
theorem rises_ins (x : Nm) (l : List C) : ∀ (m : Hp), RisesH m → lookH m x = none → RisesH (insH x l m)
 | [], _, _ => by simp [insH, RisesH]
 | q :: r, h, h0 => by
  have h' := List.pairwise_cons.1 h
  have hn := look_none_mem.1 h0
  unfold insH
  split
  ·next e =>
   refine List.pairwise_cons.2 ⟨fun p hp => ?_, h⟩
   rcases List.mem_cons.1 hp with rfl | hp
   ·exact e
   ·exact lessN_trans e (h'.1 p hp)
  ·next e =>
   refine List.pairwise_cons.2 ⟨fun p hp => ?_, rises_ins x l r h'.2 (look_none_mem.2 fun p hp => hn p (List.mem_cons_of_mem _ hp))⟩
   rcases (ins_mem x l r p).1 hp with rfl | hp
   ·rcases lessN_total x q.1 with k | k | k
    ·exact absurd k e
    ·exact absurd k.symm (hn q List.mem_cons_self)
    ·exact k
   ·exact h'.1 p hp
theorem look_mem_iff : ∀ (m : Hp), RisesH m → ∀ (x : Nm) (l : List C), lookH m x = some l ↔ (x, l) ∈ m
 | [], _, x, l => by simp [lookH]
 | q :: r, h, x, l => by
  have h' := List.pairwise_cons.1 h
  have ih := look_mem_iff r h'.2 x l
  unfold lookH at ih ⊢
  rw [List.find?_cons]
  cases e : (q.1 == x)
  ·have hq : q.1 ≠ x := by simpa using e
   rw [ih]
   simp only [List.mem_cons]
   constructor
   ·exact .inr
   ·rintro (k | k)
    ·exact absurd (by rw [← k]) hq
    ·exact k
  ·have hq : q.1 = x := by simpa using e
   simp only [Option.map_some, Option.some.injEq, List.mem_cons]
   constructor
   ·rintro rfl
    exact .inl (by rw [← hq])
   ·rintro (k | k)
    ·rw [← k]
    ·have := h'.1 _ k
     rw [hq] at this
     simp only [lessN_irrefl] at this
     cases this
theorem bind_zero {m : Hp} {x : Nm} {l : List C} (h : bindE m x l = 0) : lookH m x = none := by
 unfold bindE at h
 split at h
 ·cases h
 ·split at h
  ·cases h
  ·next e => simpa using e
theorem rises_bind {m : Hp} {x : Nm} {l : List C} (h : RisesH m) : RisesH (bindH m x l) := by
 unfold bindH
 split
 ·next e => exact rises_ins x l m h (bind_zero e)
 ·exact h
end Go.Proofs.YtljggjllijacjaaGreatDoor

namespace Go.Proofs.YtljggjllijacjaaGreatDoor
open Go.RowKit
attribute [local go_sem ↓] Go.wp_at_zero Go.wp_at_succ
def lsB (x1 x2 y1 y2 : Int) : Bool := decide (x1 < y1) || (decide (x1 = y1) && decide (x2 < y2))
theorem lsB_N (x y : Nm) : lsB x.1 x.2 y.1 y.2 = lessN x y := by
 simp only [lsB, lessN]
 congr 1
theorem below_dN {B : Nat} {w0 w : World} (h : Below B w0 w) (n : Nat) : Below B w0 (w.drewN n) := ⟨h.os, h.tape, h.output, h.size, fun k hk => h.block k hk⟩
theorem box_cells {w : World} {b : Nat} {x y : Int} {t : TypeId} (h : w.heap[b]? = some (.cells #[.int .i64 x, .int .i64 y] t (0, 0))) : w.cell? ⟨b, 0, none⟩ = some (.int .i64 x) ∧ w.cell? ⟨b, 1, none⟩ = some (.int .i64 y) :=
 ⟨by rw [cell_of_row w b 0 _ t (0, 0) h]; rfl, by rw [cell_of_row w b 1 _ t (0, 0) h]; rfl⟩
set_option maxRecDepth 100000 in
set_option maxHeartbeats 1000000 in
theorem i10 (x1 x2 y1 y2 : Int) (w : World) : Calls Tryz.prog 28 #[.agg #[.int .i64 x1, .int .i64 x2], .agg #[.int .i64 y1, .int .i64 y2]] w fun e w' => e = .returned (.bool (lsB x1 x2 y1 y2)) ∧ Below w.heap.size w w' := by
 have HB : Hid (Below w.heap.size w ((w.alloc (.cells #[.int .i64 x1, .int .i64 x2] 32)).alloc (.cells #[.int .i64 y1, .int .i64 y2] 32))) := ((Below.refl _ w).alloc (Nat.le_refl _) _).alloc (by simp) _
 have HL : Hid ((x1 < y1 → lsB x1 x2 y1 y2 = true) ∧ (¬ x1 < y1 → x1 ≠ y1 → lsB x1 x2 y1 y2 = false) ∧ (x1 = y1 → lsB x1 x2 y1 y2 = decide (x2 < y2))) := by
  refine ⟨fun h => by simp [lsB, h], fun h h' => by simp [lsB, h, h'], fun h => by simp [lsB, h]⟩
 generalize lsB x1 x2 y1 y2 = r at *
 by_cases h1 : x1 < y1
 ·obtain rfl := HL.out.1 h1
  clear HL
  go_enter Tryz.func28, Tryz.ntmps28
  go_wp2_with fail
  go_ret
  exact ⟨rfl, HB.out⟩
 ·by_cases h2 : x1 = y1
  ·obtain rfl := HL.out.2.2 h2
   subst h2
   clear HL
   by_cases h3 : x2 < y2
   ·go_enter Tryz.func28, Tryz.ntmps28
    go_wp2_with fail
    go_ret
    exact ⟨by simp, HB.out⟩
   ·go_enter Tryz.func28, Tryz.ntmps28
    go_wp2_with fail
    go_ret
    exact ⟨by simp [h3], HB.out⟩
  ·obtain rfl := HL.out.2.1 h1 h2
   clear HL
   have h2' : (x1 == y1) = false := by simp [h2]
   go_enter Tryz.func28, Tryz.ntmps28
   go_wp2_with fail
   go_ret
   exact ⟨rfl, HB.out⟩
theorem eqlN (a b c d : Int) (w : World) : (binOp .eql 32 (.agg #[.int .i64 a, .int .i64 b]) (.agg #[.int .i64 c, .int .i64 d])).run Tryz.prog w = .ok (.bool (a == c && b == d)) w := by
 cases h1 : (a == c) <;> cases h2 : (b == d) <;> go_simp
theorem TermAt.keeps {w w' : World} {v : Value} {l : List C} (h : TermAt w v l) (hk : ∀ g, v.ownBlock = some g → w'.heap[g]? = w.heap[g]?) : TermAt w' v l := by
 obtain ⟨h0, h⟩ := h
 refine ⟨h0, ?_⟩
 rcases h with h | ⟨b, o, cap, h1, h2, h5, h3, h4⟩
 ·exact .inl h
 ·have hg := hk b (by rw [h1]; rfl)
  refine .inr ⟨b, o, cap, h1, h2, h5, fun j u hu => ?_, ?_⟩
  ·have := h3 j u hu
   unfold World.cell? at this ⊢
   simp only [hg]
   exact this
  ·rw [Array.getElem?_eq_getElem h4] at hg
   exact (Array.getElem?_eq_some_iff.1 hg).1
theorem TermAt.lt {w : World} {v : Value} {l : List C} (h : TermAt w v l) (hl : l ≠ []) {g : Nat} (hg : v.ownBlock = some g) : g < w.heap.size := by
 rcases h.2 with ⟨e, _⟩ | ⟨b, o, cap, h1, _, _, _, h4⟩
 ·exact absurd e hl
 ·rw [h1] at hg
  cases hg
  exact h4
/-- A binding: a variable, the slice of its term, and the term. -/
structure Bn where
 x : Nm
 a : Option Addr
 n : Nat
 c : Nat
 l : List C
def Bn.v (b : Bn) : Value := .slice b.a b.n b.c
def encB (b : Bn) : List Value := [.int .i64 b.x.1, .int .i64 b.x.2, .slice b.a b.n b.c]
theorem encB_get : ∀ (l : List Bn) (i : Nat) (hi : i < l.length), (l.flatMap encB)[i * 3]? = some (.int .i64 l[i].x.1) ∧ (l.flatMap encB)[i * 3 + 1]? = some (.int .i64 l[i].x.2) ∧ (l.flatMap encB)[i * 3 + 2]? = some (.slice l[i].a l[i].n l[i].c)
 | d :: r, 0, _ => by simp [encB]
 | d :: r, i + 1, hi => by
  have h := encB_get r i (by simpa using hi)
  have e : (i + 1) * 3 = i * 3 + 3 := by omega
  simp only [List.flatMap_cons, encB, List.cons_append, List.nil_append, List.getElem_cons_succ, e]
  exact h
theorem encB_len : ∀ l : List Bn, (l.flatMap encB).length = l.length * 3
 | [] => rfl
 | d :: r => by simp only [List.flatMap_cons, List.length_append, encB_len r, List.length_cons]; simp [encB]; omega
/-- Bindings that can be read. -/
structure Bs (w : World) (a : Option Addr) (n : Nat) (bs : List Bn) : Prop where
 len : bs.length = n
 mem : n = 0 ∨ ∃ b o, a = some ⟨b, o, none⟩ ∧ b < w.heap.size ∧ w.rangeAt b o (bs.flatMap encB)
def bkA (a : Option Addr) : Option Nat := a.map (·.block)
theorem Bs.keeps {w w' : World} {a : Option Addr} {n : Nat} {bs : List Bn} (h : Bs w a n bs) (hk : ∀ g, bkA a = some g → w'.heap[g]? = w.heap[g]?) : Bs w' a n bs :=
 ⟨h.len, by
  rcases h.mem with e | ⟨b, o, e, hl, hr⟩
  ·exact .inl e
  ·subst e
   have hg := hk b rfl
   refine .inr ⟨b, o, rfl, ?_, fun j u hu => ?_⟩
   ·rw [Array.getElem?_eq_getElem hl] at hg
    exact (Array.getElem?_eq_some_iff.1 hg).1
   ·have := hr j u hu
    unfold World.cell? at this ⊢
    simp only [hg]
    exact this⟩
theorem Bs.at {w : World} {a : Option Addr} {n : Nat} {bs : List Bn} (h : Bs w a n bs) {k : Nat} (hk : k < n) : ∃ b o, ∃ (hx : k < bs.length), a = some ⟨b, o, none⟩ ∧ b < w.heap.size ∧ w.cell? ⟨b, o + k * 3, none⟩ = some (.int .i64 bs[k].x.1) ∧ w.cell? ⟨b, o + k * 3 + 1, none⟩ = some (.int .i64 bs[k].x.2) ∧ w.cell? ⟨b, o + k * 3 + 2, none⟩ = some (.slice bs[k].a bs[k].n bs[k].c) := by
 rcases h.mem with e | ⟨b, o, e, hl, hr⟩
 ·omega
 ·have hx : k < bs.length := by rw [h.len]; exact hk
  obtain ⟨p1, p2, p3⟩ := encB_get bs k hx
  exact ⟨b, o, hx, e, hl, hr _ _ p1, by have := hr _ _ p2; rwa [← Nat.add_assoc] at this, by have := hr _ _ p3; rwa [← Nat.add_assoc] at this⟩
/-- What bindings say. -/
def hpOf (bs : List Bn) : Hp := bs.map fun b => (b.x, b.l)
/-- The reference's heap; its blocks are G's. -/
structure RfH (w : World) (G : Nat → Prop) (rt : Nat) (bs : List Bn) : Prop where
 ex : ∃ ra rc, w.heap[rt]? = some (.cells #[.slice ra bs.length rc] 57 (0, 0)) ∧ Bs w ra bs.length bs ∧ (∀ g, bkA ra = some g → G g)
 lst : ∀ b ∈ bs, TermAt w b.v b.l ∧ (∀ g, b.v.ownBlock = some g → G g)
 grt : ¬ G rt
 rlt : rt < w.heap.size
 lt : ∀ g, G g → g < w.heap.size
theorem RfH.keeps {w w' : World} {G : Nat → Prop} {rt : Nat} {bs : List Bn} (h : RfH w G rt bs) (hk : ∀ g, G g → w'.heap[g]? = w.heap[g]?) (hr : w'.heap[rt]? = w.heap[rt]?) (hs : w.heap.size ≤ w'.heap.size) : RfH w' G rt bs := by
 obtain ⟨ra, rc, h1, h2, h4⟩ := h.ex
 exact ⟨⟨ra, rc, hr.trans h1, h2.keeps fun g e => hk g (h4 g e), h4⟩, fun r hr => ⟨(h.lst r hr).1.keeps fun g e => hk g ((h.lst r hr).2 g e), (h.lst r hr).2⟩, h.grt, Nat.lt_of_lt_of_le h.rlt hs, fun g e => Nat.lt_of_lt_of_le (h.lt g e) hs⟩
theorem RfH.below {w w' : World} {G : Nat → Prop} {rt : Nat} {bs : List Bn} (h : RfH w G rt bs) (hb : Below w.heap.size w w') : RfH w' G rt bs := h.keeps (fun g e => hb.block g (h.lt g e)) (hb.block rt h.rlt) hb.size
set_option maxRecDepth 100000 in
theorem i23 (w : World) : Calls Tryz.prog 34 #[] w fun e w' => e = .returned (.pointer (some ⟨w.heap.size, 0, none⟩)) ∧ RfH w' (fun _ => False) w.heap.size [] ∧ Below w.heap.size w w' := by
 have HB : Hid (RfH (w.alloc (.cells #[.slice none 0 0] 57)) (fun _ => False) w.heap.size [] ∧ Below w.heap.size w (w.alloc (.cells #[.slice none 0 0] 57))) :=
  ⟨⟨⟨none, 0, heap_alloc_new w _, ⟨rfl, .inl rfl⟩, fun g e => by (cases e)⟩, fun r hr => by (cases hr), fun e => e, by simp, fun g e => e.elim⟩, (Below.refl _ w).alloc (Nat.le_refl _) _⟩
 go_enter Tryz.func34, Tryz.ntmps34
 go_wp2_with fail
 go_ret
 exact ⟨rfl, HB.out⟩
/-- Is a name bound? -/
def hasB (bs : List Bn) (x : Nm) : Bool := (lookH (hpOf bs) x).isSome
theorem hasB_drop (bs : List Bn) (x : Nm) (k : Nat) (hk : k < bs.length) : (bs[k].x = x → hasB (bs.drop k) x = true) ∧ (bs[k].x ≠ x → hasB (bs.drop k) x = hasB (bs.drop (k + 1)) x) := by
 have key : ∀ (q : Bn) (r : List Bn), (q.x = x → hasB (q :: r) x = true) ∧ (q.x ≠ x → hasB (q :: r) x = hasB r x) := fun q r => by
  refine ⟨fun h => ?_, fun h => ?_⟩
  ·have h1 : (q.x == x) = true := by simpa using h
   simp [hasB, hpOf, lookH, h1]
  ·have h1 : (q.x == x) = false := by simpa using h
   simp [hasB, hpOf, lookH, h1]
 rw [List.drop_eq_getElem_cons hk]
 exact key _ _
set_option maxRecDepth 100000 in
set_option maxHeartbeats 4000000000000 in
theorem i40 (G : Nat → Prop) (rt : Nat) (bs : List Bn) (v : Nm) (w : World) (h : RfH w G rt bs) (hn : bs.length ≤ 4000000000000) :
  Calls Tryz.prog 73 #[.pointer (some ⟨rt, 0, none⟩), .agg #[.int .i64 v.1, .int .i64 v.2]] w fun e w' => ∃ i : Int, e = .returned (.int .i64 i) ∧ decide (i ≥ 0) = hasB bs v ∧ Below w.heap.size w w' := by
 obtain ⟨W, hW⟩ : ∃ W, w.alloc (.cells #[.int .i64 v.1, .int .i64 v.2] 32) = W := ⟨_, rfl⟩
 obtain ⟨vb, hvb⟩ : ∃ vb, w.heap.size = vb := ⟨_, rfl⟩
 obtain ⟨n, hnn⟩ : ∃ n, bs.length = n := ⟨_, rfl⟩
 have hbW : Below w.heap.size w W := by rw [← hW]; exact (Below.refl _ w).alloc (Nat.le_refl _) _
 have hc : W.heap[vb]? = some (.cells #[.int .i64 v.1, .int .i64 v.2] 32 (0, 0)) := by rw [← hW, ← hvb]; exact heap_alloc_new w _
 have HX : Hid (RfH W G rt bs ∧ Below w.heap.size w W ∧ bs.length = n ∧ W.heap[vb]? = some (.cells #[.int .i64 v.1, .int .i64 v.2] 32 (0, 0)) ∧ n ≤ 4000000000000) := ⟨h.below hbW, hbW, hnn, hc, hnn ▸ hn⟩
 have hn' : n ≤ 4000000000000 := hnn ▸ hn
 clear h hc hbW hn hnn
 obtain ⟨v1, v2⟩ := v
 simp only at hW
 go_enter Tryz.func73, Tryz.ntmps73
 go_wp2_with fail
 go_loopw [5] (fun i wr => ∃ k : Nat, k ≤ n ∧ i = .int .i64 k ∧ Hid (Below W.heap.size W wr ∧ hasB bs (v1, v2) = hasB (bs.drop k) (v1, v2))) (fun i _ => n - (intOf i).toNat)
 case atStart => exact ⟨0, Nat.zero_le _, rfl, Below.refl _ _, by simp⟩
 case round =>
  clear hW hvb
  obtain ⟨k, hk, rfl, HK⟩ := hrel
  have hR : RfH wr G rt bs := HX.out.1.below HK.out.1
  obtain ⟨ra, rc, k1, hRs, _⟩ := hR.ex
  have q0 : wr.cell? ⟨rt, 0, none⟩ = some (.slice ra bs.length rc) := by rw [cell_of_row wr rt 0 _ 57 (0, 0) k1]; rfl
  rw [HX.out.2.2.1] at q0
  have hvl : vb < W.heap.size := (Array.getElem?_eq_some_iff.1 HX.out.2.2.2.1).1
  obtain ⟨v0, v1'⟩ := box_cells ((HK.out.1.block vb hvl).trans HX.out.2.2.2.1)
  have HBn : Hid (Below w.heap.size w wr) := HX.out.2.1.trans (HK.out.1.mono HX.out.2.1.size)
  by_cases hlt : k < n
  ·have hlt1 : (k : Int) < (n : Int) := by omega
   have hk0 : (0 : Int) ≤ (k : Int) := by omega
   obtain ⟨b1, o1, hk1, rfl, _, c0, c1, c2⟩ := hRs.at (k := k) (by have := HX.out.2.2.1; omega)
   clear c2
   have HP : Hid _ := hasB_drop bs (v1, v2) k hk1
   generalize bs[k].x = y at *
   obtain ⟨y1, y2⟩ := y
   simp only at c0 c1
   clear hR hRs hk1 hvl k1
   by_cases hxy : y1 = v1 ∧ y2 = v2
   ·obtain ⟨rfl, rfl⟩ := hxy
    have HE : Hid (hasB bs (y1, y2) = true) := by show _ = _; rw [HK.out.2, HP.out.1 rfl]
    clear HP
    go_wp2_with fail
    go_quiet (fail)
    go_wp2_with fail
    go_ret
    exact ⟨(k : Int), rfl, by rw [HE.out]; simp, below_dN HBn.out _⟩
   ·have hN := eqlN y1 y2 v1 v2
    rw [show (y1 == v1 && y2 == v2) = false by simpa using hxy] at hN
    have hne : ((y1, y2) : Nm) ≠ (v1, v2) := fun e => hxy (by simpa using e)
    have HE : Hid (hasB bs (v1, v2) = hasB (bs.drop (k + 1)) (v1, v2)) := by show _ = _; rw [HK.out.2, HP.out.2 hne]
    clear HP hne hxy
    go_wp2_with fail
    go_quiet (fail)
    go_wp2_with fail
    go_roundw
    case rel => exact ⟨k + 1, by omega, by go_num, below_dN HK.out.1 _, HE.out⟩
    case measure => simp [intOf]; omega
  ·have hlt1 : ¬ (k : Int) < (n : Int) := by omega
   have HE : Hid (hasB bs (v1, v2) = false) := by
    show _ = _
    rw [HK.out.2, List.drop_of_length_le (by have := HX.out.2.2.1; omega)]
    rfl
   clear hRs k1 hR
   go_wp2_with fail
   go_ret
   exact ⟨-1, rfl, by rw [HE.out]; rfl, HBn.out⟩
end Go.Proofs.YtljggjllijacjaaGreatDoor

namespace Go.Proofs.YtljggjllijacjaaGreatDoor
open Go.RowKit
/-- A binding put where it belongs. -/
def insB (b : Bn) : List Bn → List Bn
 | [] => [b]
 | q :: r => if lsB b.x.1 b.x.2 q.x.1 q.x.2 then b :: q :: r else q :: insB b r
theorem hp_ins (b : Bn) : ∀ bs : List Bn, hpOf (insB b bs) = insH b.x b.l (hpOf bs)
 | [] => rfl
 | q :: r => by
  simp only [insB, hpOf, List.map_cons, insH, lsB_N]
  split
  ·simp
  ·have := hp_ins b r
   simp only [hpOf] at this
   simp [this]
theorem insB_in (b : Bn) : ∀ (bs : List Bn) (q : Bn), q ∈ insB b bs → q = b ∨ q ∈ bs
 | [], q, h => by simpa [insB] using h
 | p :: r, q, h => by
  unfold insB at h
  split at h
  ·simpa using h
  ·rcases List.mem_cons.1 h with rfl | h
   ·exact .inr List.mem_cons_self
   ·rcases insB_in b r q h with e | e
    ·exact .inl e
    ·exact .inr (List.mem_cons_of_mem _ e)
theorem insB_len (b : Bn) : ∀ bs : List Bn, (insB b bs).length = bs.length + 1
 | [] => rfl
 | q :: r => by unfold insB; split <;> simp [insB_len b r]
theorem insB_drop (b : Bn) (bs : List Bn) (k : Nat) (hk : k < bs.length) : (lsB b.x.1 b.x.2 bs[k].x.1 bs[k].x.2 = true → insB b (bs.drop k) = [b, bs[k]] ++ bs.drop (k + 1)) ∧ (lsB b.x.1 b.x.2 bs[k].x.1 bs[k].x.2 = false → insB b (bs.drop k) = [bs[k]] ++ insB b (bs.drop (k + 1))) ∧ bs.drop k = [bs[k]] ++ bs.drop (k + 1) := by
 have e : bs.drop k = bs[k] :: bs.drop (k + 1) := List.drop_eq_getElem_cons hk
 refine ⟨fun h => ?_, fun h => ?_, e⟩
 ·rw [e]; simp [insB, h]
 ·rw [e]; simp [insB, h]
def restB (bb : Bool) (b : Bn) (l : List Bn) : List Bn := if bb then l else insB b l
theorem owns_below' {w w' : World} {base : Nat} {e : TypeId} {s n : Nat} {u : Value} {xs : List Value} (h : w.ownsRow base e s u n xs) (hb : Below w.heap.size w w') : w'.ownsRow base e s u n xs := by
 refine ⟨h.1, ?_⟩
 rcases h.2 with hn | ⟨g, cap, cur, h1, h2, h3, h4⟩
 ·exact Or.inl hn
 ·exact Or.inr ⟨g, cap, cur, h1, h2, (hb.block g (Array.getElem?_eq_some_iff.1 h3).1).trans h3, h4⟩
/-- In a round. -/
def WB (b : Bn) (bs : List Bn) (w1 wr : World) (l : Value) (k : Nat) (bb : Bool) (pre : List Bn) : Prop :=
 wr.ownsRow w1.heap.size 73 3 l pre.length (pre.flatMap encB) ∧ Below w1.heap.size w1 wr ∧ insB b bs = pre ++ restB bb b (bs.drop k) ∧ pre.length ≤ k + cond bb 1 0
theorem WB.below {b : Bn} {bs : List Bn} {w1 wr w2 : World} {l : Value} {k : Nat} {bb : Bool} {pre : List Bn} (h : WB b bs w1 wr l k bb pre) (hb : Below wr.heap.size wr w2) : WB b bs w1 w2 l k bb pre :=
 ⟨owns_below' h.1 hb, h.2.1.trans (hb.mono h.2.1.size), h.2.2⟩
theorem fb_one (pre : List Bn) (q : Bn) : (pre ++ [q]).flatMap encB = pre.flatMap encB ++ encB q := by simp
theorem WB.more {b : Bn} {bs : List Bn} {w1 wr w' : World} {l : Value} {k : Nat} {bb bb' : Bool} {pre : List Bn} {q : Bn} {v' : Value} {k' : Nat} (h : WB b bs w1 wr l k bb pre)
  (ho : w'.ownsRow w1.heap.size 73 3 v' (pre.length + 1) (pre.flatMap encB ++ encB q)) (hg : wr.grownBy w' l.ownBlock)
  (he : insB b bs = (pre ++ [q]) ++ restB bb' b (bs.drop k')) (hk : pre.length + 1 ≤ k' + cond bb' 1 0) : WB b bs w1 w' v' k' bb' (pre ++ [q]) :=
 ⟨by rw [fb_one]; simpa using ho, h.2.1.grown hg h.2.1.size (fun g e => (h.1.lt g e).1), he, by simpa using hk⟩
theorem new_bn (w : World) (q : Bn) : ∀ j u, (encB q)[j]? = some u → (w.alloc (.cells #[.int .i64 q.x.1, .int .i64 q.x.2, .slice q.a q.n q.c] 73)).cell? ((⟨w.heap.size, 0, none⟩ : Addr).add j) = some u := fun j u hu => by
 rw [Addr.add_mid, Nat.zero_add, cell_of_row _ w.heap.size j _ 73 (0, 0) (heap_alloc_new w _)]
 simpa [encB] using hu
theorem one_bn (q : Bn) : ∀ u ∈ encB q, u.oneCell' = true := fun u hu => by
 simp [encB] at hu
 rcases hu with rfl | rfl | rfl <;> rfl
/-- The blocks that came to those of G. -/
def Gn (w : World) (G : Nat → Prop) (w' : World) : Nat → Prop := fun g => G g ∨ (w.heap.size ≤ g ∧ g < w'.heap.size)
/-- Behind Bind. -/
def BindR (w : World) (G : Nat → Prop) (rt : Nat) (bs : List Bn) (x : Nm) (l : List C) (w' : World) : Prop :=
 ∃ bs', hpOf bs' = bindH (hpOf bs) x l ∧ bs'.length ≤ bs.length + 1 ∧ RfH w' (Gn w G w') rt bs' ∧ w.grownBy w' (some rt)
theorem rfh_gn {w w' : World} {G : Nat → Prop} {rt : Nat} {bs : List Bn} (h : RfH w G rt bs) (hb : Below w.heap.size w w') : RfH w' (Gn w G w') rt bs := by
 have h' := h.below hb
 obtain ⟨ra, rc, h1, h2, h4⟩ := h'.ex
 refine ⟨⟨ra, rc, h1, h2, fun g e => .inl (h4 g e)⟩, fun r hr => ⟨(h'.lst r hr).1, fun g e => .inl ((h'.lst r hr).2 g e)⟩, ?_, h'.rlt, ?_⟩
 ·rintro (e | ⟨e, _⟩)
  ·exact h.grt e
  ·have := h.rlt; omega
 ·rintro g (e | ⟨_, e⟩)
  ·exact h'.lt g e
  ·exact e
theorem bindR_no {w w' : World} {G : Nat → Prop} {rt : Nat} {bs : List Bn} {x : Nm} {l : List C} (h : RfH w G rt bs) (he : bindE (hpOf bs) x l ≠ 0) (hb : Below w.heap.size w w') : BindR w G rt bs x l w' :=
 ⟨bs, by unfold bindH; rw [if_neg he], by omega, rfh_gn h hb, ⟨hb.os, hb.tape, hb.output, hb.size, fun k hk _ => hb.block k hk⟩⟩
theorem own_sl {w : World} {B e s : Nat} {v : Value} {n : Nat} {xs : List Value} (h : w.ownsRow B e s v n xs) : ∃ a c, v = .slice a n c ∧ (∀ g, bkA a = some g → B ≤ g ∧ g < w.heap.size) ∧ (n = 0 ∨ ∃ b o, a = some ⟨b, o, none⟩ ∧ b < w.heap.size ∧ w.rangeAt b o xs) := by
 rcases h.2 with ⟨e, h0⟩ | ⟨g, cap, cur, e, h1, h2, h3, h4, h5, h6⟩
 ·exact ⟨none, 0, by rw [e, h0], fun g e => (by cases e), .inl h0⟩
 ·refine ⟨_, _, e, fun g' e' => ?_, .inr ⟨g, 0, rfl, (Array.getElem?_eq_some_iff.1 h2).1, fun j u hu => ?_⟩⟩
  ·cases e'
   exact ⟨h1, (Array.getElem?_eq_some_iff.1 h2).1⟩
  ·rw [Nat.zero_add, cell_of_row w g j _ _ (0, 0) h2, ← Array.getElem?_toList]
   have hj : j < n * s := by rw [← h.1]; exact (List.getElem?_eq_some_iff.1 hu).1
   rw [← h6, List.getElem?_take_of_lt hj] at hu
   exact hu
/-- The rows are set. -/
theorem bind_end {w w1 w4 : World} {G : Nat → Prop} {rt : Nat} {bs pre : List Bn} {b : Bn} {k : Nat} {v : Value} (h : RfH w G rt bs) (h1 : Below w.heap.size w w1) (hF : WB b bs w1 w4 v k true pre) (hd : bs.drop k = []) (hT : TermAt w1 b.v b.l) (hg : ∀ g, b.v.ownBlock = some g → w.heap.size ≤ g ∧ g < w1.heap.size) (he : bindE (hpOf bs) b.x b.l = 0) :
  ∃ a m c, v = .slice a m c ∧ BindR w G rt bs b.x b.l (w4.setCell ⟨rt, 0, none⟩ (.slice a m c)) := by
 obtain ⟨a, c, rfl, ha, hm⟩ := own_sl hF.1
 have e : insB b bs = pre := by rw [hF.2.2.1, hd]; simp [restB]
 have hb : Below w.heap.size w w4 := h1.trans (hF.2.1.mono h1.size)
 have h4 := h.below hb
 obtain ⟨ra, rc, k1, k2, k3⟩ := h4.ex
 have hs : (w4.setCell ⟨rt, 0, none⟩ (.slice a pre.length c)).heap.size = w4.heap.size := by simp
 have ho : ∀ g, g ≠ rt → (w4.setCell ⟨rt, 0, none⟩ (.slice a pre.length c)).heap[g]? = w4.heap[g]? := fun g hg => heap_setCell_other _ _ _ _ hg
 have hGr : ∀ g, G g → g ≠ rt := fun g hg e => h.grt (e ▸ hg)
 have hnr : ∀ g, w.heap.size ≤ g → g ≠ rt := fun g hg e => by have := h.rlt; omega
 have e1 := heap_setCell_same w4 rt 0 _ 57 (.slice a pre.length c) k1
 refine ⟨a, _, c, rfl, pre, by rw [← e, hp_ins]; unfold bindH; rw [if_pos he], by rw [← e, insB_len]; exact Nat.le_refl _, ⟨⟨a, c, e1, ?_, fun g e => .inr ⟨Nat.le_trans h1.size (ha g e).1, by rw [hs]; exact (ha g e).2⟩⟩, fun r hr => ?_, ?_, by rw [hs]; exact h4.rlt, ?_⟩, hb.os, hb.tape, hb.output, by rw [hs]; exact hb.size, fun k hk hr => (ho k fun e => hr (by rw [e])).trans (hb.block k hk)⟩
 ·have : Bs w4 a pre.length pre := ⟨rfl, hm⟩
  exact this.keeps fun g e => ho g (hnr g (Nat.le_trans h1.size (ha g e).1))
 ·rw [← e] at hr
  rcases insB_in b bs r hr with rfl | hr
  ·exact ⟨(hT.below hF.2.1).keeps fun g e => ho g (hnr g (hg g e).1), fun g e => .inr ⟨(hg g e).1, by rw [hs]; exact Nat.lt_of_lt_of_le (hg g e).2 hF.2.1.size⟩⟩
  ·exact ⟨(h4.lst r hr).1.keeps fun g e => ho g (hGr g ((h4.lst r hr).2 g e)), fun g e => .inl ((h4.lst r hr).2 g e)⟩
 ·rintro (c | ⟨c, _⟩)
  ·exact h.grt c
  ·exact hnr rt c rfl
 ·rintro g (c | ⟨_, c⟩)
  ·rw [hs]; exact h4.lt g c
  ·exact c
end Go.Proofs.YtljggjllijacjaaGreatDoor
