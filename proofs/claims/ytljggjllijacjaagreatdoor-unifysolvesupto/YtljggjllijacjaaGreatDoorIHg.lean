/- Contract of Bindings: all values, rising. -/
import Derived.Test.YtljggjllijacjaaGreatDoorIKg
import Derived.Test.YtljggjllijacjaaGreatDoorHB1g
namespace Go.Proofs.YtljggjllijacjaaGreatDoor
open Go.RowKit
attribute [local go_sem ↓] Go.wp_at_zero Go.wp_at_succ
/-- What Bindings tells. -/
def BdTo (w : World) (m : Hp) (a : Option Addr) (k : Nat) (w' : World) : Prop :=
 ∃ bs : List Bn, hpOf bs = m ∧ Bs w' a k bs ∧ (∀ g, bkA a = some g → w.heap.size ≤ g ∧ g < w'.heap.size ∧ ∃ cu : Array Value, w'.heap[g]? = some (.cells cu 73 (0, 0))) ∧ (∀ b ∈ bs, TermAt w' b.v b.l ∧ lookH m b.x = some b.l ∧ ∀ g, b.v.ownBlock = some g → w.heap.size ≤ g ∧ ∃ cu : Array Value, w'.heap[g]? = some (.cells cu 78 (0, 0))) ∧ Below w.heap.size w w'
/-- While the keys are gone through. -/
def BiC (m : Hp) (xs : List Nm) (w1 wr : World) (v : Value) (k : Nat) : Prop := Below w1.heap.size w1 wr ∧ ∃ bs : List Bn, wr.ownsRow w1.heap.size 73 3 v k (bs.flatMap encB) ∧ bs.map Bn.x = xs.take k ∧ ∀ b ∈ bs, TermAt wr b.v b.l ∧ lookH m b.x = some b.l ∧ ∀ g, b.v.ownBlock = some g → w1.heap.size ≤ g ∧ ∃ cu : Array Value, wr.heap[g]? = some (.cells cu 78 (0, 0))
theorem BiC.below {m : Hp} {xs : List Nm} {w1 wr w2 : World} {v : Value} {k : Nat} (h : BiC m xs w1 wr v k) (hb : Below wr.heap.size wr w2) : BiC m xs w1 w2 v k := by
 obtain ⟨h1, bs, h2, h3, h4⟩ := h
 exact ⟨h1.trans (hb.mono h1.size), bs, owns_below' h2 hb, h3, fun b hb' => ⟨(h4 b hb').1.below hb, (h4 b hb').2.1, fun g hg => ⟨((h4 b hb').2.2 g hg).1, by
  obtain ⟨cu, hcu⟩ := ((h4 b hb').2.2 g hg).2
  exact ⟨cu, (hb.block g (Array.getElem?_eq_some_iff.1 hcu).1).trans hcu⟩⟩⟩⟩
theorem keep_row2 {m : Hp} {xs : List Nm} {w1 V w5 : World} {v : Value} {k : Nat} {o : Obj} (h : BiC m xs w1 V v k) (hb : Below V.heap.size V w5) : ∃ bs : List Bn, Hid ((w5.alloc o).ownsRow w1.heap.size 73 3 v k (bs.flatMap encB)) ∧ Hid (bs.map Bn.x = xs.take k ∧ ∀ b ∈ bs, TermAt w5 b.v b.l ∧ lookH m b.x = some b.l ∧ ∀ g, b.v.ownBlock = some g → w1.heap.size ≤ g ∧ ∃ cu : Array Value, w5.heap[g]? = some (.cells cu 78 (0, 0))) := by
 obtain ⟨_, bs, h2, h3, h4⟩ := h.below hb
 exact ⟨bs, owns_below' h2 ((Below.refl _ w5).alloc (Nat.le_refl _) _), h3, h4⟩
theorem next_row2 {m : Hp} {xs : List Nm} {w1 V w5 w8 : World} {v v8 : Value} {k : Nat} {y : Nm} {ta : Option Addr} {tn tc : Nat} {l : List C} {bs : List Bn} (hB : Below w1.heap.size w1 V) (hb : Below V.heap.size V w5) (hR : (w5.alloc (.cells #[.int .i64 y.1, .int .i64 y.2, .slice ta tn tc] 73)).ownsRow w1.heap.size 73 3 v k (bs.flatMap encB))
  (hbs : bs.map Bn.x = xs.take k ∧ ∀ b ∈ bs, TermAt w5 b.v b.l ∧ lookH m b.x = some b.l ∧ ∀ g, b.v.ownBlock = some g → w1.heap.size ≤ g ∧ ∃ cu : Array Value, w5.heap[g]? = some (.cells cu 78 (0, 0))) (ho : w8.ownsRow w1.heap.size 73 3 v8 (k + 1) (bs.flatMap encB ++ [.int .i64 y.1, .int .i64 y.2, .slice ta tn tc])) (hg : (w5.alloc (.cells #[.int .i64 y.1, .int .i64 y.2, .slice ta tn tc] 73)).grownBy w8 v.ownBlock)
  (hT : TermAt w5 (.slice ta tn tc) l) (hl : lookH m y = some l) (hf : ∀ g, (Value.slice ta tn tc).ownBlock = some g → V.heap.size ≤ g ∧ ∃ cu : Array Value, w5.heap[g]? = some (.cells cu 78 (0, 0))) (hx : xs.take (k + 1) = xs.take k ++ [y]) : ∃ va' vc', v8 = .slice va' (k + 1) vc' ∧ Hid (BiC m xs w1 w8 (.slice va' (k + 1) vc') (k + 1)) := by
 have hsl : ∃ a' c', v8 = .slice a' (k + 1) c' := by
  rcases ho.2 with ⟨_, e⟩ | ⟨g, cap, cur, e, _⟩
  ·omega
  ·exact ⟨_, _, e⟩
 obtain ⟨a', c', rfl⟩ := hsl
 have b2 : Below w1.heap.size w1 (w5.alloc (.cells #[.int .i64 y.1, .int .i64 y.2, .slice ta tn tc] 73)) := (hB.trans (hb.mono hB.size)).alloc (Nat.le_trans hB.size hb.size) _
 have ba : Below w5.heap.size w5 (w5.alloc (.cells #[.int .i64 y.1, .int .i64 y.2, .slice ta tn tc] 73)) := (Below.refl _ w5).alloc (Nat.le_refl _) _
 have keyB : ∀ g : Nat, (∃ cu : Array Value, w5.heap[g]? = some (.cells cu 78 (0, 0))) → w8.heap[g]? = w5.heap[g]? := fun g ⟨cu, hcu⟩ => by
  have hlt : g < w5.heap.size := (Array.getElem?_eq_some_iff.1 hcu).1
  have h1 := ba.block g hlt
  refine (hg.block g (Nat.lt_of_lt_of_le hlt ba.size) fun e2 => ?_).trans h1
  rcases hR.2 with ⟨e3, _⟩ | ⟨g3, cap, cur, e3, _, h3, _⟩
  ·rw [e3] at e2; cases e2
  ·rw [e3] at e2
   simp only [Value.ownBlock, Option.some.injEq] at e2
   subst e2
   rw [h1, hcu] at h3
   cases h3
 have key : ∀ (z : Value) (lz : List C), TermAt w5 z lz → (∀ g, z.ownBlock = some g → ∃ cu : Array Value, w5.heap[g]? = some (.cells cu 78 (0, 0))) → TermAt w8 z lz := fun z lz hz hc => hz.keeps fun g hg' => keyB g (hc g hg')
 refine ⟨a', c', rfl, ⟨hg.os.trans b2.os, hg.tape.trans b2.tape, hg.output.trans b2.output, Nat.le_trans b2.size hg.size, fun j hj => (hg.block j (Nat.lt_of_lt_of_le hj b2.size) (row_ne_low hR hj)).trans (b2.block j hj)⟩, bs ++ [⟨y, ta, tn, tc, l⟩], ?_, ?_, fun b hb' => ?_⟩
 ·rw [List.flatMap_append]; simpa [encB] using ho
 ·rw [List.map_append, hbs.1, hx]; rfl
 ·rcases List.mem_append.1 hb' with hb' | hb'
  ·refine ⟨key _ _ (hbs.2 b hb').1 fun g hg' => ((hbs.2 b hb').2.2 g hg').2, (hbs.2 b hb').2.1, fun g hg' => ⟨((hbs.2 b hb').2.2 g hg').1, ?_⟩⟩
   obtain ⟨cu, hcu⟩ := ((hbs.2 b hb').2.2 g hg').2
   exact ⟨cu, (keyB g ⟨cu, hcu⟩).trans hcu⟩
  ·simp only [List.mem_singleton] at hb'
   subst hb'
   refine ⟨key _ _ hT fun g hg' => (hf g hg').2, hl, fun g hg' => ⟨Nat.le_trans hB.size (hf g hg').1, ?_⟩⟩
   obtain ⟨cu, hcu⟩ := (hf g hg').2
   exact ⟨cu, (keyB g ⟨cu, hcu⟩).trans hcu⟩
set_option maxRecDepth 100000 in
set_option maxHeartbeats 2000000 in
theorem h22o (l : List C) (v : Value) (w : World) (h : TermAt w v l) (hby : l.length * 48 ≤ 140737488355328) : Calls Tryz.prog 56 #[v] w fun e w' => ∃ u, e = .returned u ∧ w'.ownsRow w.heap.size 78 5 u l.length (flat l) ∧ Below w.heap.size w w' := by
 obtain ⟨i0, hi, hz, hs, hb0⟩ := info60
 have hnl := fun (a : Option Addr) (n c : Nat) => Lib.run_eql_slice_nil (P := Tryz.prog) w 24 78 a n c 0 0 Tryz.underlying24
 have HT : Hid (TermAt w v l) := h
 have hown0 : (w.alloc (.cells #[] 78)).ownsRow w.heap.size 78 5 (.slice (some ⟨w.heap.size, 0, none⟩) 0 0) 0 [] := ⟨rfl, .inr ⟨w.heap.size, 0, #[], rfl, Nat.le_refl _, heap_alloc_new w _, Nat.le_refl _, by simp, rfl, rfl⟩⟩
 have HO : Hid ((w.alloc (.cells #[] 78)).ownsRow w.heap.size 78 5 (.slice (some ⟨w.heap.size, 0, none⟩) 0 0) 0 []) := hown0
 have HB : Hid (Below w.heap.size w (w.alloc (.cells #[] 78))) := (Below.refl _ w).alloc (Nat.le_refl _) _
 have hbase : w.heap.size ≤ (w.alloc (.cells #[] 78)).heap.size := by simp
 obtain ⟨⟨hc, htx⟩, h⟩ := h
 rcases h with ⟨rfl, ad, rfl⟩ | ⟨b, o, cap, rfl, h2, h5, h3, h4⟩
 ·cases ad with
  | none =>
   go_enter Tryz.func56, Tryz.ntmps56
   go_wp2_with fail
   go_ret
   exact ⟨_, rfl, World.ownsRow_nil _ _ _ _, Below.refl _ _⟩
  | some a =>
   go_enter Tryz.func56, Tryz.ntmps56
   go_wp2_with (at_builtin; refine wpList_append_own _ rfl _ _ 24 rfl w.heap.size 78 i0 zero60 5 48 Tryz.underlying24 hi hz hs hb0 rfl (by decide) _ _ _ rfl HO.out a 0 0 [] rfl rfl (fun j u hu => by simp at hu) (fun u hu => by simp at hu) (by unfold maxLen; omega) (by omega) hbase ?_)
   intro v' w' hown hgr _
   have HF : Hid (w'.ownsRow w.heap.size 78 5 v' 0 (flat []) ∧ Below w.heap.size w w') := ⟨by simpa [flat] using hown, HB.out.grown hgr hbase (fun g hg => (HO.out.lt g hg).1)⟩
   clear hown hgr
   go_wp2_with fail
   go_ret
   exact ⟨_, rfl, HF.out⟩
 ·have HN : Hid (∀ j u, (flat l)[j]? = some u → (w.alloc (.cells #[] 78)).cell? ((⟨b, o, none⟩ : Addr).add j) = some u) := fun j u hu => by
   rw [Addr.add_mid]
   exact range_below h3 h4 HB.out j u hu
  have hfl : (flat l).length = l.length * 5 := by rw [flat_length]; omega
  have hle : l.length ≤ maxLen := hc
  clear h2 h5 h3 htx hc
  go_enter Tryz.func56, Tryz.ntmps56
  go_wp2_with (at_builtin; refine wpList_append_own _ rfl _ _ 24 rfl w.heap.size 78 i0 zero60 5 48 Tryz.underlying24 hi hz hs hb0 rfl (by decide) _ _ _ rfl HO.out ⟨b, o, none⟩ l.length cap (flat l) rfl hfl HN.out (flat_one l) (by omega) (by omega) hbase ?_)
  intro v' w' hown hgr _
  have HF : Hid (w'.ownsRow w.heap.size 78 5 v' l.length (flat l) ∧ Below w.heap.size w w') := by
   exact ⟨by simpa using hown, HB.out.grown hgr hbase (fun g hg => (HO.out.lt g hg).1)⟩
  obtain ⟨a', c', hvf⟩ := owns_form hown
  subst hvf
  clear hown hgr
  go_wp2_with fail
  go_ret
  exact ⟨_, rfl, HF.out⟩
theorem own_ty {w : World} {B e s : Nat} {a : Option Addr} {n c : Nat} {xs : List Value} (h : w.ownsRow B e s (.slice a n c) n xs) {g : Nat} (hg : bkA a = some g) : ∃ cu : Array Value, w.heap[g]? = some (.cells cu e (0, 0)) := by
 rcases h.2 with ⟨e1, _⟩ | ⟨g', cap, cur, e1, _, h2, _⟩
 ·cases e1
  cases hg
 ·simp only [Value.slice.injEq] at e1
  obtain ⟨rfl, _, _⟩ := e1
  simp only [bkA, Option.map_some, Option.some.injEq] at hg
  subst hg
  exact ⟨cur, h2⟩
theorem names_of {w : World} {hb M n : Nat} {D : DataW Value} {m : Hp} (h : HpAt w hb M n D m) (hr : RisesH m) {xs : List Nm} (hx : UpK D xs) : xs = m.map (·.1) := by
 refine rise_ext ltN_irr ltN_tr hx.up (List.pairwise_map.2 (hr.imp fun {p q} k => (ltN_less _ _).2 k)) fun x => ?_
 rw [hx.all, List.mem_map]
 constructor
 ·rintro ⟨h1, h2⟩
  cases e : lookH m x with
  | none => rw [h.no x h1 e] at h2; cases h2
  | some l => exact ⟨(x, l), (look_mem_iff m hr x l).1 e, rfl⟩
 ·rintro ⟨p, hp, rfl⟩
  have e := (look_mem_iff m hr p.1 p.2).2 hp
  have hw := (h.wf _ _ e).1
  obtain ⟨v, h1, _⟩ := h.yes _ _ hw e
  exact ⟨hw, Maps.has_true_of_atKey h1⟩
theorem bi_end {w w1 wr : World} {m : Hp} {hb M n : Nat} {D : DataW Value} {xs : List Nm} {va : Option Addr} {vc : Nat} (h : HpAt w hb M n D m) (hr : RisesH m) (hx : UpK D xs) (hb1 : Below w.heap.size w w1) (hk : BiC m xs w1 wr (.slice va xs.length vc) xs.length) : BdTo w m va xs.length wr := by
 obtain ⟨h1, bs, h2, h3, h4⟩ := hk
 have e1 := names_of h hr hx
 have e2 : bs.map Bn.x = m.map (·.1) := by rw [h3, List.take_of_length_le (Nat.le_refl _), e1]
 obtain ⟨a, c, e, k1, k2⟩ := own_sl h2
 simp only [Value.slice.injEq, true_and] at e
 obtain ⟨rfl, rfl⟩ := e
 have hlen : bs.length = xs.length := by
  have := congrArg List.length h3
  simpa using this
 have hall : ∀ (bs : List Bn) (m' : Hp), bs.map Bn.x = m'.map (·.1) → (∀ b ∈ bs, lookH m b.x = some b.l) → (∀ p ∈ m', lookH m p.1 = some p.2) → hpOf bs = m' := fun bs => by
  induction bs with
  | nil => intro m' e _ _; cases m' with
   | nil => rfl
   | cons p r => simp at e
  | cons b r ih =>
   intro m' e k1 k2
   cases m' with
   | nil => simp at e
   | cons p t =>
    simp only [List.map_cons, List.cons.injEq] at e
    have z1 := k1 b List.mem_cons_self
    have z2 := k2 p List.mem_cons_self
    rw [e.1, z2] at z1
    have := ih t e.2 (fun b hb => k1 b (List.mem_cons_of_mem _ hb)) (fun p hp => k2 p (List.mem_cons_of_mem _ hp))
    simp only [hpOf, List.map_cons] at this ⊢
    rw [this]
    congr 1
    exact Prod.ext e.1 (by simpa using z1.symm)
 exact ⟨bs, hall bs m e2 (fun b hb => (h4 b hb).2.1) (fun p hp => (look_mem_iff m hr p.1 p.2).2 hp), ⟨hlen, k2⟩, fun g hg => ⟨Nat.le_trans hb1.size (k1 g hg).1, (k1 g hg).2, own_ty h2 hg⟩, fun b hb => ⟨(h4 b hb).1, (h4 b hb).2.1, fun g hg => ⟨Nat.le_trans hb1.size ((h4 b hb).2.2 g hg).1, ((h4 b hb).2.2 g hg).2⟩⟩, hb1.trans (h1.mono hb1.size)⟩
set_option maxRecDepth 100000 in
set_option maxHeartbeats 4000000 in
theorem h12b (m : Hp) (hb M n : Nat) (D : DataW Value) (w : World) (hH : HpAt w hb M n D m) (hn : n ≤ 3518437208780) (hup : RisesH m) (hbm : ∀ x l, lookH m x = some l → l.length * 48 ≤ 140737488355328) :
  Calls Tryz.prog 18 #[.pointer (some ⟨hb, 0, none⟩)] w fun e w' => ∃ a k c, e = .returned (.slice a k c) ∧ BdTo w m a k w' := by
 obtain ⟨i0, hi0, hz0, hsz0, hby0⟩ := info66
 have HH : Hid (HpAt w hb M n D m ∧ ∀ x l, lookH m x = some l → l.length * 48 ≤ 140737488355328) := ⟨hH, hbm⟩
 have HUP : Hid (RisesH m) := hup
 have H31 : Calls Tryz.prog 55 #[.map (some M)] w fun e w' => ∃ a k c, e = .returned (.slice a k c) ∧ Hid (∃ xs, UpK D xs ∧ xs.length = k ∧ k ≤ 3518437208780 ∧ w'.ownsRow w.heap.size 32 2 (.slice a k c) k (xs.flatMap encM) ∧ Below w.heap.size w w') := by
  refine (y31 M n D w hH.map (by omega)).mono ?_
  rintro e w' ⟨u, rfl, xs, ⟨h1, h2⟩, ⟨a, c, rfl⟩, h3, h4⟩
  exact ⟨a, _, c, rfl, xs, h1, rfl, by omega, h3, h4⟩
 have c0 := hH.cell
 clear hH hbm hup
 go_enter Tryz.func18, Tryz.ntmps18
 go_wp2_with fail
 refine H31.mono ?_
 rintro e w1 ⟨ka, kn, kc, rfl, H1⟩
 clear H31 c0
 obtain ⟨xs, HX⟩ : ∃ xs, Hid (UpK D xs ∧ xs.length = kn ∧ kn ≤ 3518437208780 ∧ w1.ownsRow w.heap.size 32 2 (.slice ka kn kc) kn (xs.flatMap encM) ∧ Below w.heap.size w w1) := H1.out
 clear H1
 obtain rfl : kn = xs.length := HX.out.2.1.symm
 have hkn : xs.length ≤ 3518437208780 := HX.out.2.2.1
 have HI0 : Hid (BiC m xs w1 w1 (.slice none 0 0) 0) := ⟨Below.refl _ _, [], World.ownsRow_nil _ _ _ _, rfl, fun b hb => by (cases hb)⟩
 go_wp2_with fail
 go_loopw [3, 14] (fun sl si wr => ∃ (k : Nat) (va : Option Addr) (vc : Nat), k ≤ xs.length ∧ sl = .slice va k vc ∧ si = .int .i64 k ∧ Hid (BiC m xs w1 wr (.slice va k vc) k)) (fun _ si _ => xs.length - (intOf si).toNat)
 case atStart => exact ⟨0, none, 0, Nat.zero_le _, rfl, rfl, HI0⟩
 case round =>
  clear HI0
  obtain ⟨k, va, vc, hk, rfl, rfl, HK⟩ := hrel
  by_cases hlt : k < xs.length
  ·have hltI : (k : Int) < (xs.length : Int) := by omega
   have hk0 : (0 : Int) ≤ (k : Int) := by omega
   obtain ⟨g, rfl, p0, p1⟩ := keys_at HX.out.2.2.2.1 HK.out.1 hlt
   have HW : Hid (wfN xs[k] ∧ Maps.has D (kLit xs[k]) = true) := (HX.out.1.all _).1 (List.getElem_mem hlt)
   have HTK : Hid (xs.take (k + 1) = xs.take k ++ [xs[k]]) := List.take_succ_eq_append_getElem hlt
   generalize xs[k] = y at *
   obtain ⟨y1, y2⟩ := y
   simp only at p0 p1
   obtain ⟨U, hU⟩ : ∃ U, wr.alloc (.cells #[.int .i64 0, .int .i64 0] 32) = U := ⟨_, rfl⟩
   obtain ⟨vb, hvb⟩ : ∃ vb, wr.heap.size = vb := ⟨_, rfl⟩
   obtain ⟨⟨c0, c1, f0, f1⟩, hVV⟩ := stored23 (x := .int .i64 y1) (y := .int .i64 y2) hU hvb
   obtain ⟨V, hV⟩ : ∃ V, (U.setCell ⟨vb, 0, none⟩ (.int .i64 y1)).setCell ⟨vb, 1, none⟩ (.int .i64 y2) = V := ⟨_, rfl⟩
   obtain ⟨hb1, hb2⟩ := hVV V hV
   have hbd : Below V.heap.size V V.drew := (Below.refl _ V).drew
   have HB : Hid (Below w.heap.size w V.drew ∧ Below w1.heap.size w1 V.drew ∧ V.drew.heap[vb]? = some (.cells #[.int .i64 y1, .int .i64 y2] 32 (0, 0)) ∧ BiC m xs w1 V.drew (.slice va k vc) k) := by
    have h1 : Below w1.heap.size w1 V.drew := (HK.out.1.trans (hb1.mono HK.out.1.size)).drew
    exact ⟨HX.out.2.2.2.2.trans (h1.mono HX.out.2.2.2.2.size), h1, hb2, HK.out.below (hb1.drew)⟩
   obtain ⟨u, l, hlk, hml, HT⟩ : ∃ u l, (Instr.lookup 97 (.map (some M)) (.agg #[.int .i64 y1, .int .i64 y2]) false).run Tryz.prog V.drew = .ok u V.drew ∧ lookH m (y1, y2) = some l ∧ Hid (TermAt V.drew u l) := (HH.out.1.below HB.out.1).look1 (y1, y2) HW.out.1 HW.out.2
   have H22 : Calls Tryz.prog 56 #[u] V.drew fun e w' => ∃ ta tn tc, e = .returned (.slice ta tn tc) ∧ Hid (Below V.drew.heap.size V.drew w' ∧ TermAt w' (.slice ta tn tc) l ∧ ∀ g, (Value.slice ta tn tc).ownBlock = some g → V.drew.heap.size ≤ g ∧ ∃ cu : Array Value, w'.heap[g]? = some (.cells cu 78 (0, 0))) := by
    refine (h22o l u V.drew HT.out (HH.out.2 _ _ hml)).mono ?_
    rintro e w' ⟨u', rfl, h1, h3⟩
    obtain ⟨ta, tc, e, _⟩ := own_sl h1
    subst e
    refine ⟨ta, _, tc, rfl, h3, ownT_term (base := V.drew.heap.size) h1 HT.out.1.1 HT.out.1.2, fun g hg => ?_⟩
    rcases h1.2 with ⟨e, _⟩ | ⟨g', cap, cur, e, k1, k2, _⟩
    ·rw [e] at hg; cases hg
    ·rw [e] at hg
     simp only [Value.ownBlock, Option.some.injEq] at hg
     subst hg
     exact ⟨k1, cur, k2⟩
   have HML : Hid (lookH m (y1, y2) = some l) := hml
   clear hml HT
   have hp := (HH.out.1.below HB.out.1).cell
   have q0 : V.drew.cell? ⟨vb, 0, none⟩ = some (.int .i64 y1) := by rw [cell_of_row _ vb 0 _ 32 (0, 0) HB.out.2.2.1]; rfl
   have q1 : V.drew.cell? ⟨vb, 1, none⟩ = some (.int .i64 y2) := by rw [cell_of_row _ vb 1 _ 32 (0, 0) HB.out.2.2.1]; rfl
   clear hVV hb1 hb2 hbd
   go_wp2_with fail
   go_region_law (first
    | (refine step_append_own rfl (.tmp 18) (.tmp 28) 22 rfl w1.heap.size 73 i0 _ 3 40 Tryz.underlying22 hi0 hz0 hsz0 hby0 rfl (by decide) _ _ _ (by simp [Act.eval]) HR.out ⟨w5.heap.size, 0, none⟩ 1 1 [.int .i64 y1, .int .i64 y2, .slice ta tn tc] (by simp [Act.eval]) rfl HN.out.1 HN.out.2.1 (by unfold maxLen; omega) (by omega) HN.out.2.2 ?_; intro v8 w8 ho8 hg8 _)
    | (go_simp; refine H22.mono ?_; rintro e w5 ⟨ta, tn, tc, rfl, H5⟩; obtain ⟨r0, r1⟩ := box_kept HB.out.2.2.1 H5.out.1; obtain ⟨bs, HR, HBS⟩ : ∃ bs : List Bn, Hid ((w5.alloc (.cells #[.int .i64 y1, .int .i64 y2, .slice ta tn tc] 73)).ownsRow w1.heap.size 73 3 (.slice va k vc) k (bs.flatMap encB)) ∧ Hid (bs.map Bn.x = xs.take k ∧ ∀ b ∈ bs, TermAt w5 b.v b.l ∧ lookH m b.x = some b.l ∧ ∀ g, b.v.ownBlock = some g → w1.heap.size ≤ g ∧ ∃ cu : Array Value, w5.heap[g]? = some (.cells cu 78 (0, 0))) := keep_row2 HB.out.2.2.2 H5.out.1; have HN : Hid ((∀ j u, ([.int .i64 y1, .int .i64 y2, .slice ta tn tc] : List Value)[j]? = some u → (w5.alloc (.cells #[.int .i64 y1, .int .i64 y2, .slice ta tn tc] 73)).cell? ((⟨w5.heap.size, 0, none⟩ : Addr).add j) = some u) ∧ (∀ u ∈ ([.int .i64 y1, .int .i64 y2, .slice ta tn tc] : List Value), u.oneCell' = true) ∧ w1.heap.size ≤ (w5.alloc (.cells #[.int .i64 y1, .int .i64 y2, .slice ta tn tc] 73)).heap.size) := new_row HB.out.2.1 H5.out.1))
   all_goals (
    have H9 : ∃ va' vc', v8 = .slice va' (k + 1) vc' ∧ Hid (BiC m xs w1 w8 (.slice va' (k + 1) vc') (k + 1)) := next_row2 (y := (y1, y2)) HB.out.2.1 H5.out.1 HR.out HBS.out ho8 hg8 H5.out.2.1 HML.out H5.out.2.2 HTK.out
    obtain ⟨va', vc', rfl, H9⟩ := H9
    clear hlk H22 hp q0 q1 r0 r1 hU hvb c0 c1 f0 f1 hV p0 p1 ho8 hg8 H5 HR HBS HN HK HB HML HTK
    go_wp2_with fail
    go_roundw
    case rel => exact ⟨k + 1, va', vc', by omega, by go_num, by go_num, H9⟩
    case measure => simp [intOf]; omega)
  ·have hltI : ¬ (k : Int) < (xs.length : Int) := by omega
   obtain rfl : k = xs.length := by omega
   go_wp2_with fail
   go_ret
   have HE : BdTo w m va xs.length wr := bi_end HH.out.1 HUP.out HX.out.1 HX.out.2.2.2.2 HK.out
   exact ⟨va, xs.length, ⟨vc, rfl⟩, HE⟩
end Go.Proofs.YtljggjllijacjaaGreatDoor
