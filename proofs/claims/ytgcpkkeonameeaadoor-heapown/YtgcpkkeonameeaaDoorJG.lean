/- Bindings: all values, rising; Chain; the statement that chains fall; values written over; the statement that what is handed out is nobody else's. -/
import Derived.Test.YtgcpkkeonameeaaDoorHB1
import Derived.Test.YtgcpkkeonameeaaDoorHB3
import Derived.Test.YtgcpkkeonameeaaDoorJC
namespace Go.Proofs.YtgcpkkeonameeaaDoor
open Go.RowKit
attribute [local go_sem ↓] Go.wp_at_zero Go.wp_at_succ
/-- What Bindings tells. -/
def BdTo (w : World) (m : Hp) (a : Option Addr) (k : Nat) (w' : World) : Prop :=
  ∃ bs : List Bn, hpOf bs = m ∧ Bs w' a k bs ∧ (∀ g, bkA a = some g → w.heap.size ≤ g ∧ g < w'.heap.size ∧ ∃ cu : Array Value, w'.heap[g]? = some (.cells cu 43 (0, 0))) ∧ (∀ b ∈ bs, TermAt w' b.v b.l ∧ lookH m b.x = some b.l ∧ ∀ g, b.v.ownBlock = some g → w.heap.size ≤ g ∧ ∃ cu : Array Value, w'.heap[g]? = some (.cells cu 35 (0, 0))) ∧ Below w.heap.size w w'
/-- While the keys are gone through. -/
def BiC (m : Hp) (xs : List Nm) (w1 wr : World) (v : Value) (k : Nat) : Prop := Below w1.heap.size w1 wr ∧ ∃ bs : List Bn, wr.ownsRow w1.heap.size 43 3 v k (bs.flatMap encB) ∧ bs.map Bn.x = xs.take k ∧ ∀ b ∈ bs, TermAt wr b.v b.l ∧ lookH m b.x = some b.l ∧ ∀ g, b.v.ownBlock = some g → w1.heap.size ≤ g ∧ ∃ cu : Array Value, wr.heap[g]? = some (.cells cu 35 (0, 0))
theorem BiC.below {m : Hp} {xs : List Nm} {w1 wr w2 : World} {v : Value} {k : Nat} (h : BiC m xs w1 wr v k) (hb : Below wr.heap.size wr w2) : BiC m xs w1 w2 v k := by
  obtain ⟨h1, bs, h2, h3, h4⟩ := h
  exact ⟨h1.trans (hb.mono h1.size), bs, owns_below' h2 hb, h3, fun b hb' => ⟨(h4 b hb').1.below hb, (h4 b hb').2.1, fun g hg => ⟨((h4 b hb').2.2 g hg).1, by
    obtain ⟨cu, hcu⟩ := ((h4 b hb').2.2 g hg).2
    exact ⟨cu, (hb.block g (Array.getElem?_eq_some_iff.1 hcu).1).trans hcu⟩⟩⟩⟩
theorem keep_row2 {m : Hp} {xs : List Nm} {w1 V w5 : World} {v : Value} {k : Nat} {o : Obj} (h : BiC m xs w1 V v k) (hb : Below V.heap.size V w5) : ∃ bs : List Bn, Hid ((w5.alloc o).ownsRow w1.heap.size 43 3 v k (bs.flatMap encB)) ∧ Hid (bs.map Bn.x = xs.take k ∧ ∀ b ∈ bs, TermAt w5 b.v b.l ∧ lookH m b.x = some b.l ∧ ∀ g, b.v.ownBlock = some g → w1.heap.size ≤ g ∧ ∃ cu : Array Value, w5.heap[g]? = some (.cells cu 35 (0, 0))) := by
  obtain ⟨_, bs, h2, h3, h4⟩ := h.below hb
  exact ⟨bs, owns_below' h2 ((Below.refl _ w5).alloc (Nat.le_refl _) _), h3, h4⟩
theorem next_row2 {m : Hp} {xs : List Nm} {w1 V w5 w8 : World} {v v8 : Value} {k : Nat} {y : Nm} {ta : Option Addr} {tn tc : Nat} {l : List C} {bs : List Bn} (hB : Below w1.heap.size w1 V) (hb : Below V.heap.size V w5) (hR : (w5.alloc (.cells #[.int .i64 y.1, .int .i64 y.2, .slice ta tn tc] 43)).ownsRow w1.heap.size 43 3 v k (bs.flatMap encB))
    (hbs : bs.map Bn.x = xs.take k ∧ ∀ b ∈ bs, TermAt w5 b.v b.l ∧ lookH m b.x = some b.l ∧ ∀ g, b.v.ownBlock = some g → w1.heap.size ≤ g ∧ ∃ cu : Array Value, w5.heap[g]? = some (.cells cu 35 (0, 0))) (ho : w8.ownsRow w1.heap.size 43 3 v8 (k + 1) (bs.flatMap encB ++ [.int .i64 y.1, .int .i64 y.2, .slice ta tn tc])) (hg : (w5.alloc (.cells #[.int .i64 y.1, .int .i64 y.2, .slice ta tn tc] 43)).grownBy w8 v.ownBlock)
    (hT : TermAt w5 (.slice ta tn tc) l) (hl : lookH m y = some l) (hf : ∀ g, (Value.slice ta tn tc).ownBlock = some g → V.heap.size ≤ g ∧ ∃ cu : Array Value, w5.heap[g]? = some (.cells cu 35 (0, 0))) (hx : xs.take (k + 1) = xs.take k ++ [y]) : ∃ va' vc', v8 = .slice va' (k + 1) vc' ∧ Hid (BiC m xs w1 w8 (.slice va' (k + 1) vc') (k + 1)) := by
  have hsl : ∃ a' c', v8 = .slice a' (k + 1) c' := by
    rcases ho.2 with ⟨_, e⟩ | ⟨g, cap, cur, e, _⟩
    · omega
    · exact ⟨_, _, e⟩
  obtain ⟨a', c', rfl⟩ := hsl
  have b2 : Below w1.heap.size w1 (w5.alloc (.cells #[.int .i64 y.1, .int .i64 y.2, .slice ta tn tc] 43)) := (hB.trans (hb.mono hB.size)).alloc (Nat.le_trans hB.size hb.size) _
  have ba : Below w5.heap.size w5 (w5.alloc (.cells #[.int .i64 y.1, .int .i64 y.2, .slice ta tn tc] 43)) := (Below.refl _ w5).alloc (Nat.le_refl _) _
  have keyB : ∀ g : Nat, (∃ cu : Array Value, w5.heap[g]? = some (.cells cu 35 (0, 0))) → w8.heap[g]? = w5.heap[g]? := fun g ⟨cu, hcu⟩ => by
    have hlt : g < w5.heap.size := (Array.getElem?_eq_some_iff.1 hcu).1
    have h1 := ba.block g hlt
    refine (hg.block g (Nat.lt_of_lt_of_le hlt ba.size) fun e2 => ?_).trans h1
    rcases hR.2 with ⟨e3, _⟩ | ⟨g3, cap, cur, e3, _, h3, _⟩
    · rw [e3] at e2; cases e2
    · rw [e3] at e2
      simp only [Value.ownBlock, Option.some.injEq] at e2
      subst e2
      rw [h1, hcu] at h3
      cases h3
  have key : ∀ (z : Value) (lz : List C), TermAt w5 z lz → (∀ g, z.ownBlock = some g → ∃ cu : Array Value, w5.heap[g]? = some (.cells cu 35 (0, 0))) → TermAt w8 z lz := fun z lz hz hc => hz.keeps fun g hg' => keyB g (hc g hg')
  refine ⟨a', c', rfl, ⟨hg.os.trans b2.os, hg.tape.trans b2.tape, hg.output.trans b2.output, Nat.le_trans b2.size hg.size, fun j hj => (hg.block j (Nat.lt_of_lt_of_le hj b2.size) (row_ne_low hR hj)).trans (b2.block j hj)⟩, bs ++ [⟨y, ta, tn, tc, l⟩], ?_, ?_, fun b hb' => ?_⟩
  · rw [List.flatMap_append]; simpa [encB] using ho
  · rw [List.map_append, hbs.1, hx]; rfl
  · rcases List.mem_append.1 hb' with hb' | hb'
    · refine ⟨key _ _ (hbs.2 b hb').1 fun g hg' => ((hbs.2 b hb').2.2 g hg').2, (hbs.2 b hb').2.1, fun g hg' => ⟨((hbs.2 b hb').2.2 g hg').1, ?_⟩⟩
      obtain ⟨cu, hcu⟩ := ((hbs.2 b hb').2.2 g hg').2
      exact ⟨cu, (keyB g ⟨cu, hcu⟩).trans hcu⟩
    · simp only [List.mem_singleton] at hb'
      subst hb'
      refine ⟨key _ _ hT fun g hg' => (hf g hg').2, hl, fun g hg' => ⟨Nat.le_trans hB.size (hf g hg').1, ?_⟩⟩
      obtain ⟨cu, hcu⟩ := (hf g hg').2
      exact ⟨cu, (keyB g ⟨cu, hcu⟩).trans hcu⟩
set_option maxRecDepth 100000 in
set_option maxHeartbeats 2000000 in
theorem h22o (l : List C) (v : Value) (w : World) (h : TermAt w v l) (hby : l.length * 48 ≤ 140737488355328) : Calls Tryd.prog 25 #[v] w fun e w' => ∃ u, e = .returned u ∧ w'.ownsRow w.heap.size 35 5 u l.length (flat l) ∧ Below w.heap.size w w' := by
  obtain ⟨i0, hi, hz, hs, hb0⟩ := info60
  have hnl := fun (a : Option Addr) (n c : Nat) => Lib.run_eql_slice_nil (P := Tryd.prog) w 24 35 a n c 0 0 Tryd.underlying24
  have HT : Hid (TermAt w v l) := h
  have hown0 : (w.alloc (.cells #[] 35)).ownsRow w.heap.size 35 5 (.slice (some ⟨w.heap.size, 0, none⟩) 0 0) 0 [] := ⟨rfl, .inr ⟨w.heap.size, 0, #[], rfl, Nat.le_refl _, heap_alloc_new w _, Nat.le_refl _, by simp, rfl, rfl⟩⟩
  have HO : Hid ((w.alloc (.cells #[] 35)).ownsRow w.heap.size 35 5 (.slice (some ⟨w.heap.size, 0, none⟩) 0 0) 0 []) := hown0
  have HB : Hid (Below w.heap.size w (w.alloc (.cells #[] 35))) := (Below.refl _ w).alloc (Nat.le_refl _) _
  have hbase : w.heap.size ≤ (w.alloc (.cells #[] 35)).heap.size := by simp
  obtain ⟨⟨hc, htx⟩, h⟩ := h
  rcases h with ⟨rfl, ad, rfl⟩ | ⟨b, o, cap, rfl, h2, h5, h3, h4⟩
  · cases ad with
    | none =>
      go_enter Tryd.func25, Tryd.ntmps25
      go_wp2_with fail
      go_ret
      exact ⟨_, rfl, World.ownsRow_nil _ _ _ _, Below.refl _ _⟩
    | some a =>
      go_enter Tryd.func25, Tryd.ntmps25
      go_wp2_with (at_builtin; refine wpList_append_own _ rfl _ _ 24 rfl w.heap.size 35 i0 zero60 5 48 Tryd.underlying24 hi hz hs hb0 rfl (by decide) _ _ _ rfl HO.out a 0 0 [] rfl rfl (fun j u hu => by simp at hu) (fun u hu => by simp at hu) (by unfold maxLen; omega) (by omega) hbase ?_)
      intro v' w' hown hgr _
      have HF : Hid (w'.ownsRow w.heap.size 35 5 v' 0 (flat []) ∧ Below w.heap.size w w') := ⟨by simpa [flat] using hown, HB.out.grown hgr hbase (fun g hg => (HO.out.lt g hg).1)⟩
      clear hown hgr
      go_wp2_with fail
      go_ret
      exact ⟨_, rfl, HF.out⟩
  · have HN : Hid (∀ j u, (flat l)[j]? = some u → (w.alloc (.cells #[] 35)).cell? ((⟨b, o, none⟩ : Addr).add j) = some u) := fun j u hu => by
      rw [Addr.add_mid]
      exact range_below h3 h4 HB.out j u hu
    have hfl : (flat l).length = l.length * 5 := by rw [flat_length]; omega
    have hle : l.length ≤ maxLen := hc
    clear h2 h5 h3 htx hc
    go_enter Tryd.func25, Tryd.ntmps25
    go_wp2_with (at_builtin; refine wpList_append_own _ rfl _ _ 24 rfl w.heap.size 35 i0 zero60 5 48 Tryd.underlying24 hi hz hs hb0 rfl (by decide) _ _ _ rfl HO.out ⟨b, o, none⟩ l.length cap (flat l) rfl hfl HN.out (flat_one l) (by omega) (by omega) hbase ?_)
    intro v' w' hown hgr _
    have HF : Hid (w'.ownsRow w.heap.size 35 5 v' l.length (flat l) ∧ Below w.heap.size w w') := by
      exact ⟨by simpa using hown, HB.out.grown hgr hbase (fun g hg => (HO.out.lt g hg).1)⟩
    obtain ⟨a', c', hvf⟩ := owns_form hown
    subst hvf
    clear hown hgr
    go_wp2_with fail
    go_ret
    exact ⟨_, rfl, HF.out⟩
theorem own_ty {w : World} {B e s : Nat} {a : Option Addr} {n c : Nat} {xs : List Value} (h : w.ownsRow B e s (.slice a n c) n xs) {g : Nat} (hg : bkA a = some g) : ∃ cu : Array Value, w.heap[g]? = some (.cells cu e (0, 0)) := by
  rcases h.2 with ⟨e1, _⟩ | ⟨g', cap, cur, e1, _, h2, _⟩
  · cases e1
    cases hg
  · simp only [Value.slice.injEq] at e1
    obtain ⟨rfl, _, _⟩ := e1
    simp only [bkA, Option.map_some, Option.some.injEq] at hg
    subst hg
    exact ⟨cur, h2⟩
theorem bi_end {w w1 wr : World} {m : Hp} {hb M n : Nat} {D : DataW Value} {xs : List Nm} {va : Option Addr} {vc : Nat} (h : HpAt w hb M n D m) (hr : RisesH m) (hx : UpK D xs) (hb1 : Below w.heap.size w w1) (hk : BiC m xs w1 wr (.slice va xs.length vc) xs.length) : BdTo w m va xs.length wr := by
  obtain ⟨h1, bs, h2, h3, h4⟩ := hk
  have e1 := names_of h hr hx
  have e2 : bs.map Bn.x = m.map (·.1) := by rw [h3, List.take_of_length_le (Nat.le_refl _), e1]
  obtain ⟨a, c, e, k1, k2⟩ := own_sl h2
  simp only [Value.slice.injEq, true_and] at e
  obtain ⟨rfl, rfl⟩ := e
  have hlen : bs.length = xs.length := by
    have := congrArg List.length h3
    simpa using this
  have hall : ∀ (bs : List Bn) (m' : Hp), bs.map Bn.x = m'.map (·.1) → (∀ b ∈ bs, lookH m b.x = some b.l) → (∀ p ∈ m', lookH m p.1 = some p.2) → hpOf bs = m' := fun bs => by
    induction bs with
    | nil => intro m' e _ _; cases m' with
      | nil => rfl
      | cons p r => simp at e
    | cons b r ih =>
      intro m' e k1 k2
      cases m' with
      | nil => simp at e
      | cons p t =>
        simp only [List.map_cons, List.cons.injEq] at e
        have z1 := k1 b List.mem_cons_self
        have z2 := k2 p List.mem_cons_self
        rw [e.1, z2] at z1
        have := ih t e.2 (fun b hb => k1 b (List.mem_cons_of_mem _ hb)) (fun p hp => k2 p (List.mem_cons_of_mem _ hp))
        simp only [hpOf, List.map_cons] at this ⊢
        rw [this]
        congr 1
        exact Prod.ext e.1 (by simpa using z1.symm)
  exact ⟨bs, hall bs m e2 (fun b hb => (h4 b hb).2.1) (fun p hp => (look_mem_iff m hr p.1 p.2).2 hp), ⟨hlen, k2⟩, fun g hg => ⟨Nat.le_trans hb1.size (k1 g hg).1, (k1 g hg).2, own_ty h2 hg⟩, fun b hb => ⟨(h4 b hb).1, (h4 b hb).2.1, fun g hg => ⟨Nat.le_trans hb1.size ((h4 b hb).2.2 g hg).1, ((h4 b hb).2.2 g hg).2⟩⟩, hb1.trans (h1.mono hb1.size)⟩
set_option maxRecDepth 100000 in
set_option maxHeartbeats 4000000 in
theorem h12b (m : Hp) (hb M n : Nat) (D : DataW Value) (w : World) (hH : HpAt w hb M n D m) (hn : n ≤ 3518437208780) (hup : RisesH m) (hbm : ∀ x l, lookH m x = some l → l.length * 48 ≤ 140737488355328) :
    Calls Tryd.prog 12 #[.pointer (some ⟨hb, 0, none⟩)] w fun e w' => ∃ a k c, e = .returned (.slice a k c) ∧ BdTo w m a k w' := by
  obtain ⟨i0, hi0, hz0, hsz0, hby0⟩ := info66
  have HH : Hid (HpAt w hb M n D m ∧ ∀ x l, lookH m x = some l → l.length * 48 ≤ 140737488355328) := ⟨hH, hbm⟩
  have HUP : Hid (RisesH m) := hup
  have H31 : Calls Tryd.prog 27 #[.map (some M)] w fun e w' => ∃ a k c, e = .returned (.slice a k c) ∧ Hid (∃ xs, UpK D xs ∧ xs.length = k ∧ k ≤ 3518437208780 ∧ w'.ownsRow w.heap.size 33 2 (.slice a k c) k (xs.flatMap encM) ∧ Below w.heap.size w w') := by
    refine (y31 M n D w hH.map (by omega)).mono ?_
    rintro e w' ⟨u, rfl, xs, ⟨h1, h2⟩, ⟨a, c, rfl⟩, h3, h4⟩
    exact ⟨a, _, c, rfl, xs, h1, rfl, by omega, h3, h4⟩
  have c0 := hH.cell
  clear hH hbm hup
  go_enter Tryd.func12, Tryd.ntmps12
  go_wp2_with fail
  refine H31.mono ?_
  rintro e w1 ⟨ka, kn, kc, rfl, H1⟩
  clear H31 c0
  obtain ⟨xs, HX⟩ : ∃ xs, Hid (UpK D xs ∧ xs.length = kn ∧ kn ≤ 3518437208780 ∧ w1.ownsRow w.heap.size 33 2 (.slice ka kn kc) kn (xs.flatMap encM) ∧ Below w.heap.size w w1) := H1.out
  clear H1
  obtain rfl : kn = xs.length := HX.out.2.1.symm
  have hkn : xs.length ≤ 3518437208780 := HX.out.2.2.1
  have HI0 : Hid (BiC m xs w1 w1 (.slice none 0 0) 0) := ⟨Below.refl _ _, [], World.ownsRow_nil _ _ _ _, rfl, fun b hb => by (cases hb)⟩
  go_wp2_with fail
  go_loopw [3, 14] (fun sl si wr => ∃ (k : Nat) (va : Option Addr) (vc : Nat), k ≤ xs.length ∧ sl = .slice va k vc ∧ si = .int .i64 k ∧ Hid (BiC m xs w1 wr (.slice va k vc) k)) (fun _ si _ => xs.length - (intOf si).toNat)
  case atStart => exact ⟨0, none, 0, Nat.zero_le _, rfl, rfl, HI0⟩
  case round =>
    clear HI0
    obtain ⟨k, va, vc, hk, rfl, rfl, HK⟩ := hrel
    by_cases hlt : k < xs.length
    · have hltI : (k : Int) < (xs.length : Int) := by omega
      have hk0 : (0 : Int) ≤ (k : Int) := by omega
      obtain ⟨g, rfl, p0, p1⟩ := keys_at HX.out.2.2.2.1 HK.out.1 hlt
      have HW : Hid (wfN xs[k] ∧ Maps.has D (kLit xs[k]) = true) := (HX.out.1.all _).1 (List.getElem_mem hlt)
      have HTK : Hid (xs.take (k + 1) = xs.take k ++ [xs[k]]) := List.take_succ_eq_append_getElem hlt
      generalize xs[k] = y at *
      obtain ⟨y1, y2⟩ := y
      simp only at p0 p1
      obtain ⟨U, hU⟩ : ∃ U, wr.alloc (.cells #[.int .i64 0, .int .i64 0] 33) = U := ⟨_, rfl⟩
      obtain ⟨vb, hvb⟩ : ∃ vb, wr.heap.size = vb := ⟨_, rfl⟩
      obtain ⟨⟨c0, c1, f0, f1⟩, hVV⟩ := stored23 (x := .int .i64 y1) (y := .int .i64 y2) hU hvb
      obtain ⟨V, hV⟩ : ∃ V, (U.setCell ⟨vb, 0, none⟩ (.int .i64 y1)).setCell ⟨vb, 1, none⟩ (.int .i64 y2) = V := ⟨_, rfl⟩
      obtain ⟨hb1, hb2⟩ := hVV V hV
      have hbd : Below V.heap.size V V.drew := (Below.refl _ V).drew
      have HB : Hid (Below w.heap.size w V.drew ∧ Below w1.heap.size w1 V.drew ∧ V.drew.heap[vb]? = some (.cells #[.int .i64 y1, .int .i64 y2] 33 (0, 0)) ∧ BiC m xs w1 V.drew (.slice va k vc) k) := by
        have h1 : Below w1.heap.size w1 V.drew := (HK.out.1.trans (hb1.mono HK.out.1.size)).drew
        exact ⟨HX.out.2.2.2.2.trans (h1.mono HX.out.2.2.2.2.size), h1, hb2, HK.out.below (hb1.drew)⟩
      obtain ⟨u, l, hlk, hml, HT⟩ : ∃ u l, (Instr.lookup 61 (.map (some M)) (.agg #[.int .i64 y1, .int .i64 y2]) false).run Tryd.prog V.drew = .ok u V.drew ∧ lookH m (y1, y2) = some l ∧ Hid (TermAt V.drew u l) := (HH.out.1.below HB.out.1).look1 (y1, y2) HW.out.1 HW.out.2
      have H22 : Calls Tryd.prog 25 #[u] V.drew fun e w' => ∃ ta tn tc, e = .returned (.slice ta tn tc) ∧ Hid (Below V.drew.heap.size V.drew w' ∧ TermAt w' (.slice ta tn tc) l ∧ ∀ g, (Value.slice ta tn tc).ownBlock = some g → V.drew.heap.size ≤ g ∧ ∃ cu : Array Value, w'.heap[g]? = some (.cells cu 35 (0, 0))) := by
        refine (h22o l u V.drew HT.out (HH.out.2 _ _ hml)).mono ?_
        rintro e w' ⟨u', rfl, h1, h3⟩
        obtain ⟨ta, tc, e, _⟩ := own_sl h1
        subst e
        refine ⟨ta, _, tc, rfl, h3, ownT_term (base := V.drew.heap.size) h1 HT.out.1.1 HT.out.1.2, fun g hg => ?_⟩
        rcases h1.2 with ⟨e, _⟩ | ⟨g', cap, cur, e, k1, k2, _⟩
        · rw [e] at hg; cases hg
        · rw [e] at hg
          simp only [Value.ownBlock, Option.some.injEq] at hg
          subst hg
          exact ⟨k1, cur, k2⟩
      have HML : Hid (lookH m (y1, y2) = some l) := hml
      clear hml HT
      have hp := (HH.out.1.below HB.out.1).cell
      have q0 : V.drew.cell? ⟨vb, 0, none⟩ = some (.int .i64 y1) := by rw [cell_of_row _ vb 0 _ 33 (0, 0) HB.out.2.2.1]; rfl
      have q1 : V.drew.cell? ⟨vb, 1, none⟩ = some (.int .i64 y2) := by rw [cell_of_row _ vb 1 _ 33 (0, 0) HB.out.2.2.1]; rfl
      clear hVV hb1 hb2 hbd
      go_wp2_with fail
      go_region_law (first
        | (refine step_append_own rfl (.tmp 18) (.tmp 28) 22 rfl w1.heap.size 43 i0 _ 3 40 Tryd.underlying22 hi0 hz0 hsz0 hby0 rfl (by decide) _ _ _ (by simp [Act.eval]) HR.out ⟨w5.heap.size, 0, none⟩ 1 1 [.int .i64 y1, .int .i64 y2, .slice ta tn tc] (by simp [Act.eval]) rfl HN.out.1 HN.out.2.1 (by unfold maxLen; omega) (by omega) HN.out.2.2 ?_; intro v8 w8 ho8 hg8 _)
        | (go_simp; refine H22.mono ?_; rintro e w5 ⟨ta, tn, tc, rfl, H5⟩; obtain ⟨r0, r1⟩ := box_kept HB.out.2.2.1 H5.out.1; obtain ⟨bs, HR, HBS⟩ : ∃ bs : List Bn, Hid ((w5.alloc (.cells #[.int .i64 y1, .int .i64 y2, .slice ta tn tc] 43)).ownsRow w1.heap.size 43 3 (.slice va k vc) k (bs.flatMap encB)) ∧ Hid (bs.map Bn.x = xs.take k ∧ ∀ b ∈ bs, TermAt w5 b.v b.l ∧ lookH m b.x = some b.l ∧ ∀ g, b.v.ownBlock = some g → w1.heap.size ≤ g ∧ ∃ cu : Array Value, w5.heap[g]? = some (.cells cu 35 (0, 0))) := keep_row2 HB.out.2.2.2 H5.out.1; have HN : Hid ((∀ j u, ([.int .i64 y1, .int .i64 y2, .slice ta tn tc] : List Value)[j]? = some u → (w5.alloc (.cells #[.int .i64 y1, .int .i64 y2, .slice ta tn tc] 43)).cell? ((⟨w5.heap.size, 0, none⟩ : Addr).add j) = some u) ∧ (∀ u ∈ ([.int .i64 y1, .int .i64 y2, .slice ta tn tc] : List Value), u.oneCell' = true) ∧ w1.heap.size ≤ (w5.alloc (.cells #[.int .i64 y1, .int .i64 y2, .slice ta tn tc] 43)).heap.size) := new_row HB.out.2.1 H5.out.1))
      all_goals (
        have H9 : ∃ va' vc', v8 = .slice va' (k + 1) vc' ∧ Hid (BiC m xs w1 w8 (.slice va' (k + 1) vc') (k + 1)) := next_row2 (y := (y1, y2)) HB.out.2.1 H5.out.1 HR.out HBS.out ho8 hg8 H5.out.2.1 HML.out H5.out.2.2 HTK.out
        obtain ⟨va', vc', rfl, H9⟩ := H9
        clear hlk H22 hp q0 q1 r0 r1 hU hvb c0 c1 f0 f1 hV p0 p1 ho8 hg8 H5 HR HBS HN HK HB HML HTK
        go_wp2_with fail
        go_roundw
        case rel => exact ⟨k + 1, va', vc', by omega, by go_num, by go_num, H9⟩
        case measure => simp [intOf]; omega)
    · have hltI : ¬ (k : Int) < (xs.length : Int) := by omega
      obtain rfl : k = xs.length := by omega
      go_wp2_with fail
      go_ret
      have HE : BdTo w m va xs.length wr := bi_end HH.out.1 HUP.out HX.out.1 HX.out.2.2.2.2 HK.out
      exact ⟨va, xs.length, ⟨vc, rfl⟩, HE⟩
theorem infoT : ∃ i, Tryd.prog.info? 24 = some i ∧ i.zero = some (.slice none 0 0) ∧ i.size = 1 ∧ i.bytes = 24 := by
  have h : (Tryd.prog.info? 24).map (fun i => (i.zero, i.size, i.bytes)) = some (some (.slice none 0 0), 1, 24) := by kernel_rfl
  cases hq : Tryd.prog.info? 24 with
  | none => rw [hq] at h; cases h
  | some i =>
    rw [hq] at h
    simp only [Option.map_some, Option.some.injEq, Prod.mk.injEq] at h
    exact ⟨i, rfl, h.1, h.2.1, h.2.2⟩
/-- Terms one behind the other, each the value of the one ahead. -/
def Links (m : Hp) : List (List C) → Prop
  | [] => True
  | [_] => True
  | a :: b :: r => nextH m a = some b ∧ Links m (b :: r)
def lastT : List (List C) → List C
  | [] => []
  | [a] => a
  | _ :: b :: r => lastT (b :: r)
theorem lastT_snoc (x : List C) : ∀ L : List (List C), lastT (L ++ [x]) = x
  | [] => rfl
  | [_] => rfl
  | _ :: b :: r => by
    have := lastT_snoc x (b :: r)
    simpa [lastT] using this
theorem links_snoc {m : Hp} {x : List C} : ∀ {L : List (List C)}, Links m L → L ≠ [] → nextH m (lastT L) = some x → Links m (L ++ [x])
  | [], _, h, _ => absurd rfl h
  | [a], _, _, h => ⟨h, trivial⟩
  | a :: b :: r, h, _, hx => ⟨h.1, links_snoc (L := b :: r) h.2 (by simp) hx⟩
def lenV : Value → Nat
  | .slice _ n _ => n
  | _ => 0
/-- A row of terms, each in memory of its own. -/
structure Tr (B : Nat) (u : World) (v : Value) (L : List (List C)) (vs : List Value) : Prop where
  own : u.ownsRow B 24 1 v L.length vs
  el : ∀ (i : Nat) (z : Value) (l : List C), vs[i]? = some z → L[i]? = some l → TermAt u z l ∧ z.oneCell' = true ∧ ∀ g, z.ownBlock = some g → B ≤ g ∧ ∃ cu : Array Value, u.heap[g]? = some (.cells cu 35 (0, 0))
  len : vs.length = L.length
theorem Tr.below {B : Nat} {u u' : World} {v : Value} {L : List (List C)} {vs : List Value} (h : Tr B u v L vs) (hb : Below u.heap.size u u') : Tr B u' v L vs :=
  ⟨owns_below' h.own hb, fun i z l hz hl => ⟨(h.el i z l hz hl).1.below hb, (h.el i z l hz hl).2.1, fun g hg => ⟨((h.el i z l hz hl).2.2 g hg).1, by
    obtain ⟨cu, hcu⟩ := ((h.el i z l hz hl).2.2 g hg).2
    exact ⟨cu, (hb.block g (Array.getElem?_eq_some_iff.1 hcu).1).trans hcu⟩⟩⟩, h.len⟩
/-- Behind an append of one more term. -/
theorem Tr.more {B : Nat} {u w' : World} {v v' : Value} {L : List (List C)} {vs : List Value} {z : Value} {l : List C} (h : Tr B u v L vs) (hz : TermAt u z l ∧ z.oneCell' = true ∧ ∀ g, z.ownBlock = some g → B ≤ g ∧ ∃ cu : Array Value, u.heap[g]? = some (.cells cu 35 (0, 0))) (ho : w'.ownsRow B 24 1 v' (L.length + 1) (vs ++ [z])) (hg : u.grownBy w' v.ownBlock) : Tr B w' v' (L ++ [l]) (vs ++ [z]) := by
  have keyB : ∀ g : Nat, (∃ cu : Array Value, u.heap[g]? = some (.cells cu 35 (0, 0))) → w'.heap[g]? = u.heap[g]? := fun g ⟨cu, hcu⟩ => by
    refine hg.block g (Array.getElem?_eq_some_iff.1 hcu).1 fun e2 => ?_
    rcases h.own.2 with ⟨e3, _⟩ | ⟨g3, cap, cur, e3, _, h3, _⟩
    · rw [e3] at e2; cases e2
    · rw [e3] at e2
      simp only [Value.ownBlock, Option.some.injEq] at e2
      subst e2
      rw [hcu] at h3
      cases h3
  have step : ∀ (z : Value) (l : List C), (TermAt u z l ∧ z.oneCell' = true ∧ ∀ g, z.ownBlock = some g → B ≤ g ∧ ∃ cu : Array Value, u.heap[g]? = some (.cells cu 35 (0, 0))) → (TermAt w' z l ∧ z.oneCell' = true ∧ ∀ g, z.ownBlock = some g → B ≤ g ∧ ∃ cu : Array Value, w'.heap[g]? = some (.cells cu 35 (0, 0))) := fun z l hz =>
    ⟨hz.1.keeps fun g hg' => keyB g (hz.2.2 g hg').2, hz.2.1, fun g hg' => ⟨(hz.2.2 g hg').1, by
      obtain ⟨cu, hcu⟩ := (hz.2.2 g hg').2
      exact ⟨cu, (keyB g ⟨cu, hcu⟩).trans hcu⟩⟩⟩
  refine ⟨by simpa using ho, fun i y k hy hk => ?_, by simp [h.len]⟩
  by_cases hi : i < vs.length
  · rw [List.getElem?_append_left hi] at hy
    rw [List.getElem?_append_left (by rw [← h.len]; exact hi)] at hk
    exact step y k (h.el i y k hy hk)
  · have e : i = vs.length := by
      have := (List.getElem?_eq_some_iff.1 hy).1
      simp at this
      omega
    subst e
    rw [List.getElem?_append_right (Nat.le_refl _)] at hy
    rw [h.len, List.getElem?_append_right (Nat.le_refl _)] at hk
    simp at hy hk
    subst hy hk
    exact step z l hz
/-- What Chain tells. -/
def ChTo (w : World) (m : Hp) (l : List C) (v : Value) (w' : World) : Prop := ∃ L vs, Tr w.heap.size w' v L vs ∧ Links m L ∧ L.head? = some l ∧ nextH m (lastT L) = none ∧ L.length ≤ m.length + 1 ∧ Below w.heap.size w w'
/-- In a round. -/
structure Ci (w : World) (m : Hp) (l : List C) (v z : Value) (ok : Bool) (wr : World) (L : List (List C)) (vs : List Value) : Prop where
  tr : Tr w.heap.size wr v L vs
  lk : Links m L
  hd : L.head? = some l
  ok : (nextH m (lastT L)).isSome = ok
  nx : ∀ l', nextH m (lastT L) = some l' → TermAt w z l' ∧ (∀ c ∈ l', wfN (c.vn, c.vk)) ∧ l'.length * 48 ≤ 140737488355328
  rk : rankH m (lastT L) + L.length ≤ m.length + 1
  bel : Below w.heap.size w wr
theorem HpAt.look0 {w w0 : World} {hb M n : Nat} {D : DataW Value} {m : Hp} (h : HpAt w hb M n D m) (h0' : HpAt w0 hb M n D m) (x : Nm) (hx : wfN x) : ∃ u, (Instr.lookup 61 (.map (some M)) (.agg #[.int .i64 x.1, .int .i64 x.2]) true).run Tryd.prog w = .ok (.tuple #[u, .bool (lookH m x).isSome]) w ∧ (∃ a k c, u = .slice a k c) ∧ ∀ l, lookH m x = some l → TermAt w0 u l := by
  obtain ⟨u, ps, hrun, hR⟩ := h.map.look_ok keyed23 Tryd.underlying61 (zeroT w) (show heldElem (.slice none 0 0) = some (.held (.slice none 0 0), []) from rfl) (key23 x hx)
  have hu : DataW.held u = D.atKey (kLit x) (.held (.slice none 0 0)) := by
    have h1 : heldElem u = some (DataW.held u, []) := rfl
    rw [h1] at hR
    simp only [Option.some.injEq, Prod.mk.injEq] at hR
    exact hR.1
  cases hl : lookH m x with
  | none =>
    have h0 := h.no x hx hl
    rw [h0] at hrun
    rw [Maps.atKey_of_not_has h0] at hu
    cases hu
    exact ⟨_, hrun, ⟨_, _, _, rfl⟩, fun l e => by cases e⟩
  | some l =>
    obtain ⟨v, h1, h2⟩ := h0'.yes x l hx hl
    have h3 := Maps.has_true_of_atKey h1
    rw [h3] at hrun
    rw [h1] at hu
    cases hu
    refine ⟨_, hrun, ?_, fun l' e => by cases e; exact h2⟩
    obtain ⟨a, c, e⟩ := h2.form
    exact ⟨_, _, _, e⟩
set_option maxRecDepth 100000 in
set_option maxHeartbeats 2000000 in
theorem h23b (m : Hp) (hb M n : Nat) (D : DataW Value) (w0 : World) (l : List C) (v : Value) (w : World) (hH : HpAt w hb M n D m) (hH0 : HpAt w0 hb M n D m) (hT : TermAt w v l) (hW : ∀ c ∈ l, wfN (c.vn, c.vk)) :
    Calls Tryd.prog 26 #[.pointer (some ⟨hb, 0, none⟩), v] w fun e w' => ∃ u, e = .returned (.tuple #[u, .bool (nextH m l).isSome]) ∧ (∃ a k c, u = .slice a k c) ∧ (∀ l', nextH m l = some l' → TermAt w0 u l') ∧ Below w.heap.size w w' := by
  have H29 := h29 l v w hT
  obtain ⟨⟨hc, htx⟩, hT'⟩ := hT
  cases hv : isVarL l
  · have hn : nextH m l = none := by unfold nextH; rw [hv]; rfl
    rw [hv] at H29
    obtain ⟨a, c, hf⟩ := (show TermAt w v l from ⟨⟨hc, htx⟩, hT'⟩).form
    subst hf
    rw [hn]
    clear hT' hW hH hH0 hc htx hv
    go_enter Tryd.func26, Tryd.ntmps26
    go_wp2_with fail
    refine H29.mono ?_
    rintro e w1 ⟨rfl, hw⟩
    obtain rfl := hw
    go_wp2_with fail
    exact bodyPost_ret (v := .tuple #[.slice none 0 0, .bool false]) (by simp [results, Tryd.results26, go_sem]) rfl ⟨_, rfl, ⟨_, _, _, rfl⟩, (fun l' e => by cases e), Below.refl _ _⟩
  · match l, hv with
    | [c], hv =>
      have hn : nextH m [c] = lookH m (c.vn, c.vk) := by unfold nextH; rw [hv]; rfl
      rcases hT' with ⟨e, _⟩ | ⟨b, o, cap, rfl, h2, h5, h3, h4⟩
      · cases e
      obtain ⟨_, _, _, p3, p4⟩ := term_cells h3 0 (by simp)
      simp only [Nat.zero_mul, Nat.add_zero, List.getElem_cons_zero] at p3 p4
      obtain ⟨u, hrun, ⟨a', k', c', huf⟩, hu⟩ := hH.look0 hH0 (c.vn, c.vk) (hW c (by simp))
      have hrd : (Instr.lookup 61 (.map (some M)) (.agg #[.int .i64 c.vn, .int .i64 c.vk]) true).run Tryd.prog w.drew = .ok (.tuple #[u, .bool (lookH m (c.vn, c.vk)).isSome]) w.drew := by
        obtain ⟨u2, hrun2, _, _⟩ := (hH.below (Below.drew (Below.refl _ _))).look (c.vn, c.vk) (hW c (by simp))
        obtain ⟨u3, ps3, hrun3, hR3⟩ := hH.map.look_ok keyed23 Tryd.underlying61 (zeroT w) (show heldElem (.slice none 0 0) = some (.held (.slice none 0 0), []) from rfl) (key23 (c.vn, c.vk) (hW c (by simp)))
        obtain ⟨u4, ps4, hrun4, hR4⟩ := hH.map.drew.look_ok keyed23 Tryd.underlying61 (zeroT w.drew) (show heldElem (.slice none 0 0) = some (.held (.slice none 0 0), []) from rfl) (key23 (c.vn, c.vk) (hW c (by simp)))
        have e34 : u3 = u4 := by
          have h1 : heldElem u3 = some (DataW.held u3, []) := rfl
          have h2 : heldElem u4 = some (DataW.held u4, []) := rfl
          rw [h1] at hR3
          rw [h2] at hR4
          simp only [Option.some.injEq, Prod.mk.injEq] at hR3 hR4
          have := hR3.1.trans hR4.1.symm
          cases this
          rfl
        rw [hrun] at hrun3
        simp only [Result.ok.injEq, Value.tuple.injEq, and_true] at hrun3
        have e13 : u = u3 ∧ (lookH m (c.vn, c.vk)).isSome = Maps.has D (kLit (c.vn, c.vk)) := by simpa using hrun3
        rw [hrun4, e13.1, e13.2, e34]
      have hS0 : NxS w hb M b o c.vn c.vk u (lookH m (c.vn, c.vk)).isSome w.drew := ⟨hH.cell, p3, p4, hrd, Below.drew (Below.refl _ _)⟩
      have HU : Hid (∀ l', lookH m (c.vn, c.vk) = some l' → TermAt w0 u l') := fun l' e => hu l' e
      rw [hv] at H29
      rw [hn]
      generalize c.vn = x1 at *
      generalize c.vk = x2 at *
      obtain ⟨q, hq⟩ : ∃ q, (lookH m (x1, x2)).isSome = q := ⟨_, rfl⟩
      rw [hq] at hS0 ⊢
      simp only [List.length_singleton] at *
      subst huf
      clear hrun hrd hu hH hH0 hW hc htx h3 p3 p4 hq h2 h5
      go_enter Tryd.func26, Tryd.ntmps26
      go_wp2_with fail
      refine H29.mono ?_
      rintro e w1 ⟨rfl, hw⟩
      obtain rfl := hw
      clear H29
      go_wp2_with fail
      refine wp_region_noPanic ?_
      refine wp_region_held_drew (S := fun w' => NxS w1 hb M b o x1 x2 (.slice a' k' c') q w') (by kernel_rfl) hS0 (fun hHeld => ?_)
      refine wpAnyH_take (i := 0) (v := ?_) (by simp only [List.getElem?_toArray, List.getElem?_cons_zero]; rfl) (by kernel_rfl) (by kernel_rfl) (by kernel_rfl) (fun _ _ _ h => h) (Or.inl ⟨by rfl, ?_⟩) (by assumption) ?_
      rotate_left
      · (intro w hSw; (try dsimp only at hSw); go_simp <;> with_reducible rfl)
      try simp only [Act.put, List.setIfInBounds_toArray, List.set_cons_zero, List.set_cons_succ]
      refine wpAnyH_take (i := 1) (v := ?_) (by simp only [List.getElem?_toArray, List.getElem?_cons_zero, List.getElem?_cons_succ]; rfl) (by kernel_rfl) (by kernel_rfl) (by kernel_rfl) (fun _ _ _ h => h) (Or.inl ⟨by rfl, ?_⟩) (by assumption) ?_
      rotate_left
      · (intro w hSw; (try dsimp only at hSw); go_simp <;> with_reducible rfl)
      try simp only [Act.put, List.setIfInBounds_toArray, List.set_cons_zero, List.set_cons_succ]
      refine wpAnyH_take (i := 2) (v := ?_) (by simp only [List.getElem?_toArray, List.getElem?_cons_zero, List.getElem?_cons_succ]; rfl) (by kernel_rfl) (by kernel_rfl) (by kernel_rfl) (fun _ _ _ h => h) (Or.inl ⟨by rfl, ?_⟩) (by assumption) ?_
      rotate_left
      · (intro w hSw; (try dsimp only at hSw); go_simp <;> with_reducible rfl)
      try simp only [Act.put, List.setIfInBounds_toArray, List.set_cons_zero, List.set_cons_succ]
      refine wpAnyH_take (i := 3) (v := ?_) (by simp only [List.getElem?_toArray, List.getElem?_cons_zero, List.getElem?_cons_succ]; rfl) (by kernel_rfl) (by kernel_rfl) (by kernel_rfl) (fun _ _ _ h => h) (Or.inl ⟨by rfl, ?_⟩) (by assumption) ?_
      rotate_left
      · (intro w hSw; (try dsimp only at hSw); go_simp <;> with_reducible rfl)
      try simp only [Act.put, List.setIfInBounds_toArray, List.set_cons_zero, List.set_cons_succ]
      refine wpAnyH_take (i := 4) (v := ?_) (by simp only [List.getElem?_toArray, List.getElem?_cons_zero, List.getElem?_cons_succ]; rfl) (by kernel_rfl) (by kernel_rfl) (by kernel_rfl) (fun _ _ _ h => h) (Or.inl ⟨by rfl, ?_⟩) (by assumption) ?_
      rotate_left
      · (intro w hSw; (try dsimp only at hSw); go_simp <;> with_reducible rfl)
      try simp only [Act.put, List.setIfInBounds_toArray, List.set_cons_zero, List.set_cons_succ]
      refine wpAnyH_take (i := 5) (v := ?_) (by simp only [List.getElem?_toArray, List.getElem?_cons_zero, List.getElem?_cons_succ]; rfl) (by kernel_rfl) (by kernel_rfl) (by kernel_rfl) (fun _ _ _ h => h) (Or.inl ⟨by rfl, ?_⟩) (by assumption) ?_
      rotate_left
      · (intro w hSw; (try dsimp only at hSw); go_simp <;> with_reducible rfl)
      try simp only [Act.put, List.setIfInBounds_toArray, List.set_cons_zero, List.set_cons_succ]
      refine wpAnyH_take (i := 6) (v := ?_) (by simp only [List.getElem?_toArray, List.getElem?_cons_zero, List.getElem?_cons_succ]; rfl) (by kernel_rfl) (by kernel_rfl) (by kernel_rfl) (fun _ _ _ h => h) (Or.inl ⟨by rfl, ?_⟩) (by assumption) ?_
      rotate_left
      · (intro w hSw; (try dsimp only at hSw); go_simp <;> with_reducible rfl)
      try simp only [Act.put, List.setIfInBounds_toArray, List.set_cons_zero, List.set_cons_succ]
      refine wpAnyH_take (i := 7) (v := ?_) (by simp only [List.getElem?_toArray, List.getElem?_cons_zero, List.getElem?_cons_succ]; rfl) (by kernel_rfl) (by kernel_rfl) (by kernel_rfl) (fun _ _ _ h => h) (Or.inl ⟨by rfl, ?_⟩) (by assumption) ?_
      rotate_left
      · (intro w hSw; (try dsimp only at hSw); go_simp <;> with_reducible rfl)
      try simp only [Act.put, List.setIfInBounds_toArray, List.set_cons_zero, List.set_cons_succ]
      refine wpAnyH_take (i := 8) (v := ?_) (by simp only [List.getElem?_toArray, List.getElem?_cons_zero, List.getElem?_cons_succ]; rfl) (by kernel_rfl) (by kernel_rfl) (by kernel_rfl) (fun _ _ _ h => h) (Or.inl ⟨by rfl, ?_⟩) (by assumption) ?_
      rotate_left
      · (intro w hSw; (try dsimp only at hSw); go_simp <;> with_reducible rfl)
      try simp only [Act.put, List.setIfInBounds_toArray, List.set_cons_zero, List.set_cons_succ]
      refine wpAnyH_take (i := 9) (v := ?_) (by simp only [List.getElem?_toArray, List.getElem?_cons_zero, List.getElem?_cons_succ]; rfl) (by kernel_rfl) (by kernel_rfl) (by kernel_rfl) (fun _ _ _ h => h) (Or.inl ⟨by rfl, ?_⟩) (by assumption) ?_
      rotate_left
      · (intro w hSw; (try dsimp only at hSw); go_simp <;> with_reducible rfl)
      try simp only [Act.put, List.setIfInBounds_toArray, List.set_cons_zero, List.set_cons_succ]
      refine wpAnyH_take (i := 10) (v := ?_) (by simp only [List.getElem?_toArray, List.getElem?_cons_zero, List.getElem?_cons_succ]; rfl) (by kernel_rfl) (by kernel_rfl) (by kernel_rfl) (fun _ _ _ h => h) (Or.inl ⟨by rfl, ?_⟩) (by assumption) ?_
      rotate_left
      · (intro w hSw; (try dsimp only at hSw); go_simp <;> with_reducible rfl)
      try simp only [Act.put, List.setIfInBounds_toArray, List.set_cons_zero, List.set_cons_succ]
      refine wpAnyH_take (i := 11) (v := ?_) (by simp only [List.getElem?_toArray, List.getElem?_cons_zero, List.getElem?_cons_succ]; rfl) (by kernel_rfl) (by kernel_rfl) (by kernel_rfl) (fun _ _ _ h => h) (Or.inl ⟨by rfl, ?_⟩) (by assumption) ?_
      rotate_left
      · (intro w hSw; (try dsimp only at hSw); go_simp <;> with_reducible rfl)
      try simp only [Act.put, List.setIfInBounds_toArray, List.set_cons_zero, List.set_cons_succ]
      refine wpAnyH_take (i := 12) (v := ?_) (by simp only [List.getElem?_toArray, List.getElem?_cons_zero, List.getElem?_cons_succ]; rfl) (by kernel_rfl) (by kernel_rfl) (by kernel_rfl) (fun _ _ _ h => h) (Or.inl ⟨by rfl, ?_⟩) (by assumption) ?_
      rotate_left
      · (intro w hSw; (try dsimp only at hSw); go_simp <;> with_reducible rfl)
      try simp only [Act.put, List.setIfInBounds_toArray, List.set_cons_zero, List.set_cons_succ]
      refine wpAnyH_take (i := 13) (v := ?_) (by simp only [List.getElem?_toArray, List.getElem?_cons_zero, List.getElem?_cons_succ]; rfl) (by kernel_rfl) (by kernel_rfl) (by kernel_rfl) (fun _ _ _ h => h) (Or.inl ⟨by rfl, ?_⟩) (by assumption) ?_
      rotate_left
      · (intro w hSw; (try dsimp only at hSw); go_simp <;> with_reducible rfl)
      try simp only [Act.put, List.setIfInBounds_toArray, List.set_cons_zero, List.set_cons_succ]
      refine wpAnyH_done (by kernel_rfl) ?_ _
      refine NoPanic.normal ?_
      clear hHeld hS0
      go_wp2_with fail
      exact bodyPost_ret (v := .tuple #[.slice a' k' c', .bool q]) (by simp [results, Tryd.results26, go_sem]) rfl ⟨_, rfl, ⟨_, _, _, rfl⟩, HU.out, Below.drew (Below.refl _ _)⟩
/-- A term in memory of its own, behind Clone. -/
def Cl (B : Nat) (u : World) (z : Value) (l : List C) : Prop := TermAt u z l ∧ z.oneCell' = true ∧ ∀ g, z.ownBlock = some g → B ≤ g ∧ ∃ cu : Array Value, u.heap[g]? = some (.cells cu 35 (0, 0))
theorem i25 (l : List C) (v : Value) (w : World) (h : TermAt w v l) (hby : l.length * 48 ≤ 140737488355328) : Calls Tryd.prog 25 #[v] w fun e w' => ∃ a c, e = .returned (.slice a l.length c) ∧ Hid (Cl w.heap.size w' (.slice a l.length c) l ∧ Below w.heap.size w w') := by
  refine (h22o l v w h hby).mono ?_
  rintro e w' ⟨u, rfl, h1, h2⟩
  obtain ⟨a, c, e, _⟩ := own_sl h1
  subst e
  refine ⟨a, c, rfl, ⟨ownT_term (base := w.heap.size) h1 h.1.1 h.1.2, rfl, fun g hg => ?_⟩, h2⟩
  rcases h1.2 with ⟨e, _⟩ | ⟨g', cap, cur, e, k1, k2, _⟩
  · rw [e] at hg; cases hg
  · rw [e] at hg
    simp only [Value.ownBlock, Option.some.injEq] at hg
    subst hg
    exact ⟨k1, cur, k2⟩
theorem Cl.below {B : Nat} {u u' : World} {z : Value} {l : List C} (h : Cl B u z l) (hb : Below u.heap.size u u') : Cl B u' z l :=
  ⟨h.1.below hb, h.2.1, fun g hg => ⟨(h.2.2 g hg).1, by
    obtain ⟨cu, hcu⟩ := (h.2.2 g hg).2
    exact ⟨cu, (hb.block g (Array.getElem?_eq_some_iff.1 hcu).1).trans hcu⟩⟩⟩
theorem Cl.low {B B' : Nat} {u : World} {z : Value} {l : List C} (h : Cl B' u z l) (hB : B ≤ B') : Cl B u z l := ⟨h.1, h.2.1, fun g hg => ⟨Nat.le_trans hB (h.2.2 g hg).1, (h.2.2 g hg).2⟩⟩
theorem next_wf {w : World} {hb M n : Nat} {D : DataW Value} {m : Hp} (h : HpAt w hb M n D m) {l l' : List C} (hn : nextH m l = some l') : (∀ c ∈ l', wfN (c.vn, c.vk)) ∧ ∃ x, lookH m x = some l' := by
  unfold nextH at hn
  split at hn
  · exact ⟨(h.wf _ _ hn).2, _, hn⟩
  · cases hn
set_option maxRecDepth 100000 in
set_option maxHeartbeats 4000000 in
theorem i9 (m : Hp) (hb M n : Nat) (D : DataW Value) (l : List C) (v : Value) (w : World) (hH : HpAt w hb M n D m) (hT : TermAt w v l) (hW : ∀ c ∈ l, wfN (c.vn, c.vk)) (hne : l ≠ []) (hby : l.length * 48 ≤ 140737488355328) (hbm : ∀ x l, lookH m x = some l → l.length * 48 ≤ 140737488355328) (hm : m.length ≤ 4000000000000) :
    Calls Tryd.prog 9 #[.pointer (some ⟨hb, 0, none⟩), v] w fun e w' => ∃ u, e = .returned u ∧ ChTo w m l u w' := by
  obtain ⟨i0, hi, hz, hs1, hby1⟩ := infoT
  obtain ⟨va, vc, hvf⟩ := hT.form
  subst hvf
  have hl0 : l.length ≠ 0 := fun e => hne (List.eq_nil_of_length_eq_zero e)
  have hl1 : ¬ (l.length : Int) = 0 := by omega
  have HX : Hid (HpAt w hb M n D m ∧ TermAt w (.slice va l.length vc) l ∧ (∀ c ∈ l, wfN (c.vn, c.vk)) ∧ (∀ x l, lookH m x = some l → l.length * 48 ≤ 140737488355328)) := ⟨hH, hT, hW, hbm⟩
  have H25 : Calls Tryd.prog 25 #[.slice va l.length vc] w fun e w' => ∃ a c, e = .returned (.slice a l.length c) ∧ Hid (Cl w.heap.size w' (.slice a l.length c) l ∧ Below w.heap.size w w') := i25 l _ w hT hby
  have K26 : Hid (∀ u z k, Below w.heap.size w u → TermAt u z k → (∀ c ∈ k, wfN (c.vn, c.vk)) → Calls Tryd.prog 26 #[.pointer (some ⟨hb, 0, none⟩), z] u fun e w' => ∃ a n c, e = .returned (.tuple #[.slice a n c, .bool (nextH m k).isSome]) ∧ Hid ((∀ l', nextH m k = some l' → TermAt w (.slice a n c) l') ∧ Below u.heap.size u w')) := fun u z k hu h1 h2 => by
    refine (h23b m hb M n D w k z u (HX.out.1.below hu) HX.out.1 h1 h2).mono ?_
    rintro e w' ⟨z', rfl, ⟨a, n', c, rfl⟩, k1, k2⟩
    exact ⟨a, n', c, rfl, k1, k2⟩
  clear hH hT hW hbm hne hby
  go_enter Tryd.func9, Tryd.ntmps9
  go_wp2_with fail
  refine H25.mono ?_
  rintro e w1 ⟨ta, tc, rfl, H1⟩
  clear H25
  obtain ⟨W, hWw⟩ : ∃ W, w1.alloc (.cells #[.slice ta l.length tc] 24) = W := ⟨_, rfl⟩
  have HTr : Hid (Tr w.heap.size W (.slice (some ⟨w1.heap.size, 0, none⟩) 1 1) [l] [.slice ta l.length tc] ∧ Below w.heap.size w W) := by
    obtain ⟨h1, h2⟩ := H1.out
    have hb1 : Below w1.heap.size w1 W := by rw [← hWw]; exact (Below.refl _ _).alloc (Nat.le_refl _) _
    refine ⟨⟨?_, fun i z k hz hk => ?_, rfl⟩, h2.trans (hb1.mono h2.size)⟩
    · rw [← hWw]
      exact ⟨rfl, .inr ⟨w1.heap.size, 1, _, rfl, h2.size, heap_alloc_new w1 _, Nat.le_refl _, by unfold maxLen; omega, rfl, rfl⟩⟩
    · cases i with
      | zero => simp at hz hk; subst hz hk; exact h1.below hb1
      | succ i => simp at hz
  have H26 := K26.out W (.slice va l.length vc) l HTr.out.2 (HX.out.2.1.below HTr.out.2) HX.out.2.2.1
  obtain ⟨ok0, hok0⟩ : ∃ ok0, (nextH m l).isSome = ok0 := ⟨_, rfl⟩
  have HOK : Hid ((nextH m l).isSome = ok0) := hok0
  rw [hok0] at H26
  clear hok0
  go_wp2_with fail
  refine H26.mono ?_
  rintro e w2 ⟨za, zn, zc, rfl, H2⟩
  clear H26
  have HC0 : Hid (Ci w m l (.slice (some ⟨w1.heap.size, 0, none⟩) 1 1) (.slice za zn zc) ok0 w2 [l] [.slice ta l.length tc]) := by
    obtain ⟨t1, t2⟩ := HTr.out
    obtain ⟨s1, s2⟩ := H2.out
    refine ⟨t1.below s2, trivial, rfl, HOK.out, fun l' hl' => ?_, ?_, t2.trans (s2.mono t2.size)⟩
    · obtain ⟨k1, x, k2⟩ := next_wf HX.out.1 hl'
      exact ⟨s1 l' hl', k1, HX.out.2.2.2 _ _ k2⟩
    · have := rank_le m l
      simp only [lastT, List.length_singleton]
      omega
  clear HTr H1 H2 HOK hWw
  go_wp2_with fail
  go_loopw [5, 6, 7] (fun lv zv okv wr => ∃ (L : List (List C)) (vs : List Value) (ok : Bool) (la : Option Addr) (lc : Nat) (xa : Option Addr) (xn xc : Nat), lv = .slice la L.length lc ∧ zv = .slice xa xn xc ∧ okv = .bool ok ∧ Hid (Ci w m l lv zv ok wr L vs)) (fun lv _ _ _ => m.length + 2 - lenV lv)
  case atStart => exact ⟨[l], _, ok0, _, _, _, _, _, rfl, rfl, rfl, HC0⟩
  case round =>
    clear HC0
    obtain ⟨L, vs, ok, la, lc, xa, xn, xc, rfl, rfl, rfl, HK⟩ := hrel
    cases ok
    · have HE : Hid (ChTo w m l (.slice la L.length lc) wr) := by
        obtain ⟨k1, k2, k3, k4, _, k6, k7⟩ := HK.out
        exact ⟨L, vs, k1, k2, k3, by simpa using k4, by omega, k7⟩
      go_wp2_with fail
      go_ret
      exact ⟨_, rfl, HE.out⟩
    · obtain ⟨l', hl'⟩ : ∃ l', nextH m (lastT L) = some l' := by
        have := HK.out.ok
        cases e : nextH m (lastT L) with
        | none => rw [e] at this; cases this
        | some l' => exact ⟨l', rfl⟩
      have HL : Hid (nextH m (lastT L) = some l') := hl'
      obtain ⟨q1, q2, q3⟩ := HK.out.nx l' hl'
      obtain rfl : xn = l'.length := by
        obtain ⟨a', c', e⟩ := q1.form
        simp only [Value.slice.injEq] at e
        exact e.2.1
      have hrk : L.length ≤ m.length := by
        have h1 := HK.out.rk
        have h2 := rank_falls HX.out.1.desc hl'
        omega
      have H25 : Calls Tryd.prog 25 #[.slice xa l'.length xc] wr fun e w' => ∃ a c, e = .returned (.slice a l'.length c) ∧ Hid (Cl wr.heap.size w' (.slice a l'.length c) l' ∧ Below wr.heap.size wr w') := i25 l' _ wr (q1.below HK.out.bel) q3
      have HQ : Hid (TermAt w (.slice xa l'.length xc) l' ∧ ∀ c ∈ l', wfN (c.vn, c.vk)) := ⟨q1, q2⟩
      clear q1 q2 q3 hl'
      go_wp2_with fail
      refine H25.mono ?_
      rintro e w3 ⟨ya, yc, rfl, H3⟩
      clear H25
      have HT : Hid (Tr w.heap.size (w3.alloc (.cells #[.slice ya l'.length yc] 24)) (.slice la L.length lc) L vs ∧ Cl w.heap.size (w3.alloc (.cells #[.slice ya l'.length yc] 24)) (.slice ya l'.length yc) l' ∧ Below w.heap.size w (w3.alloc (.cells #[.slice ya l'.length yc] 24))) := by
        obtain ⟨s1, s2⟩ := H3.out
        have hb3 : Below w3.heap.size w3 (w3.alloc (.cells #[.slice ya l'.length yc] 24)) := (Below.refl _ _).alloc (Nat.le_refl _) _
        have hbw : Below w.heap.size w w3 := HK.out.bel.trans (s2.mono HK.out.bel.size)
        exact ⟨(HK.out.tr.below s2).below hb3, (s1.low HK.out.bel.size).below hb3, hbw.trans (hb3.mono hbw.size)⟩
      go_wp2_with (at_builtin; refine wpList_append_own _ rfl _ _ 29 rfl w.heap.size 24 i0 _ 1 24 Tryd.underlying29 hi hz hs1 hby1 rfl (by decide) _ _ _ rfl HT.out.1.own ⟨w3.heap.size, 0, none⟩ 1 1 [.slice ya l'.length yc] rfl rfl (fun j u hu => by rw [Addr.add_mid, Nat.zero_add, cell_of_row _ w3.heap.size j _ 24 (0, 0) (heap_alloc_new w3 _)]; simpa using hu) (fun u hu => by simp at hu; subst hu; rfl) (by unfold maxLen; omega) (by omega) HT.out.2.2.size ?_)
      intro v' w4 hown hgr _
      obtain ⟨la', lc', rfl, HF⟩ : ∃ la' lc', v' = .slice la' (L ++ [l']).length lc' ∧ Hid (Tr w.heap.size w4 (.slice la' (L ++ [l']).length lc') (L ++ [l']) (vs ++ [.slice ya l'.length yc]) ∧ Below w.heap.size w w4) := by
        obtain ⟨a, c, e, _⟩ := own_sl hown
        subst e
        refine ⟨a, c, by simp, ?_, HT.out.2.2.grown hgr HT.out.2.2.size (fun g hg => (HT.out.1.own.lt g hg).1)⟩
        have := HT.out.1.more HT.out.2.1 hown hgr
        simpa using this
      clear hown hgr HT H3
      have H26 := K26.out w4 (.slice xa l'.length xc) l' HF.out.2 (HQ.out.1.below HF.out.2) HQ.out.2
      obtain ⟨ok1, hok1⟩ : ∃ ok1, (nextH m l').isSome = ok1 := ⟨_, rfl⟩
      have HOK : Hid ((nextH m l').isSome = ok1) := hok1
      rw [hok1] at H26
      clear hok1
      go_wp2_with fail
      refine H26.mono ?_
      rintro e w5 ⟨pa, pn, pc, rfl, H5⟩
      clear H26
      have HN : Hid (Ci w m l (.slice la' (L ++ [l']).length lc') (.slice pa pn pc) ok1 w5 (L ++ [l']) (vs ++ [.slice ya l'.length yc])) := by
        obtain ⟨t1, t2⟩ := HF.out
        obtain ⟨s1, s2⟩ := H5.out
        have hLne : L ≠ [] := fun e => by have := HK.out.hd; rw [e] at this; cases this
        refine ⟨t1.below s2, links_snoc HK.out.lk hLne HL.out, ?_, by rw [lastT_snoc]; exact HOK.out, fun l2 hl2 => ?_, ?_, t2.trans (s2.mono t2.size)⟩
        · cases L with
          | nil => exact absurd rfl hLne
          | cons a r => exact HK.out.hd
        · rw [lastT_snoc] at hl2
          obtain ⟨k1, x, k2⟩ := next_wf HX.out.1 hl2
          exact ⟨s1 l2 hl2, k1, HX.out.2.2.2 _ _ k2⟩
        · rw [lastT_snoc]
          have h1 := HK.out.rk
          have h2 := rank_falls HX.out.1.desc HL.out
          simp
          omega
      clear HF H5 HOK
      go_wp2_with fail
      go_roundw
      case rel => exact ⟨L ++ [l'], vs ++ [.slice ya l'.length yc], ok1, la', lc', pa, pn, pc, by simp, rfl, rfl, by simpa using HN⟩
      case measure => simp [lenV]; omega
/-- Two terms of a chain, one behind the other. -/
def Twin (a b : List C) : Prop := ∃ (c d : C) (r : List C), a = [c] ∧ c.k = 4 ∧ b = d :: r ∧ (d.k = 4 → lsB d.vn d.vk c.vn c.vk = true)
theorem pair_of {m : Hp} (hD : DescH m) (hl : ∀ x l, lookH m x = some l → l ≠ [] ∧ rightB l = true) {a b : List C} (h : nextH m a = some b) : Twin a b := by
  unfold nextH at h
  split at h
  · next hv =>
    match a, hv with
    | [c], hv =>
      have hk : c.k = 4 := by simpa [isVarL] using hv
      obtain ⟨h1, h2⟩ := hl _ _ h
      cases b with
      | nil => exact absurd rfl h1
      | cons d r =>
        refine ⟨c, d, r, rfl, hk, rfl, fun hd => ?_⟩
        obtain rfl := var_one h2 hd
        have h3 := hD _ _ h (by simp [isVarL, hd])
        exact (lsB_N (d.vn, d.vk) (c.vn, c.vk)).trans h3
  · cases h
theorem links_at {m : Hp} : ∀ {L : List (List C)}, Links m L → ∀ i a b, L[i]? = some a → L[i + 1]? = some b → nextH m a = some b
  | [], _, i, a, b, h, _ => by simp at h
  | [_], _, i, a, b, _, h => by simp at h
  | x :: y :: r, hL, 0, a, b, h1, h2 => by
    simp at h1 h2
    subst h1 h2
    exact hL.1
  | x :: y :: r, hL, i + 1, a, b, h1, h2 => links_at (L := y :: r) hL.2 i a b (by simpa using h1) (by simpa using h2)
/-- What the law asks of a chain. -/
structure ChF (w : World) (m : Hp) (t : List C) (v : Value) (w' : World) (L : List (List C)) (vs : List Value) : Prop where
  tr : Tr w.heap.size w' v L vs
  pr : ∀ i a b, L[i]? = some a → L[i + 1]? = some b → Twin a b
  len : L.length ≤ m.length + 1
  nil : decide (L.length = 0) = decide (t.length = 0)
  bel : Below w.heap.size w w'
theorem i9f (m : Hp) (hb M n : Nat) (D : DataW Value) (l : List C) (va : Option Addr) (vc : Nat) (w : World) (hH : HpAt w hb M n D m) (hT : TermAt w (.slice va l.length vc) l) (hW : ∀ c ∈ l, wfN (c.vn, c.vk)) (hby : l.length * 48 ≤ 140737488355328) (hbm : ∀ x l, lookH m x = some l → l.length * 48 ≤ 140737488355328 ∧ l ≠ [] ∧ rightB l = true) (hm : m.length ≤ 4000000000000) :
    Calls Tryd.prog 9 #[.pointer (some ⟨hb, 0, none⟩), .slice va l.length vc] w fun e w' => ∃ la k lc, e = .returned (.slice la k lc) ∧ Hid (∃ L vs, ChF w m l (.slice la k lc) w' L vs ∧ L.length = k) := by
  cases l with
  | nil =>
    clear hT hH hW hby hbm hm
    simp only [List.length_nil]
    go_enter Tryd.func9, Tryd.ntmps9
    go_wp2_with fail
    go_ret
    refine ⟨none, 0, 0, rfl, [], [], ⟨⟨?_, fun i z l hz => by simp at hz, rfl⟩, fun i a b h => by simp at h, by simp, rfl, Below.refl _ _⟩, rfl⟩
    exact ⟨by simp, .inl ⟨rfl, rfl⟩⟩
  | cons c r =>
    refine (i9 m hb M n D (c :: r) _ w hH hT hW (by simp) hby (fun x l h => (hbm x l h).1) hm).mono ?_
    rintro e w' ⟨u, rfl, L, vs, h1, h2, h3, h4, h5, h6⟩
    obtain ⟨la, lc, rfl, _⟩ := own_sl h1.own
    refine ⟨la, L.length, lc, rfl, L, vs, ⟨h1, fun i a b ha hb => pair_of hH.desc (fun x l h => (hbm x l h).2) (links_at h2 i a b ha hb), h5, ?_, h6⟩, rfl⟩
    cases L with
    | nil => cases h3
    | cons x y => simp
/-- What a round reads. -/
theorem ch_cells {w : World} {m : Hp} {t : List C} {w' wr : World} {la : Option Addr} {k lc : Nat} {L : List (List C)} {vs : List Value} (h : ChF w m t (.slice la k lc) w' L vs) (hk : L.length = k) (hb : Below w'.heap.size w' wr) (i : Nat) (hi : i + 1 < k) :
    ∃ (bL oL b1 o1 c1 b2 o2 c2 n2 : Nat) (x1 x2 y1 y2 d : Int), la = some ⟨bL, oL, none⟩ ∧ (d = 4 → lsB y1 y2 x1 x2 = true) ∧ (∀ u, Below wr.heap.size wr u → u.cell? ⟨bL, oL + i, none⟩ = some (.slice (some ⟨b1, o1, none⟩) 1 c1) ∧ u.cell? ⟨bL, oL + (i + 1), none⟩ = some (.slice (some ⟨b2, o2, none⟩) (n2 + 1) c2) ∧
      u.cell? ⟨b1, o1, none⟩ = some (.int .u8 4) ∧ u.cell? ⟨b1, o1 + 3, none⟩ = some (.int .i64 x1) ∧ u.cell? ⟨b1, o1 + 4, none⟩ = some (.int .i64 x2) ∧ u.cell? ⟨b2, o2, none⟩ = some (.int .u8 d) ∧ u.cell? ⟨b2, o2 + 3, none⟩ = some (.int .i64 y1) ∧ u.cell? ⟨b2, o2 + 4, none⟩ = some (.int .i64 y2)) := by
  have hT := h.tr.below hb
  obtain ⟨a', c', e', _, hr⟩ := own_sl hT.own
  simp only [Value.slice.injEq] at e'
  obtain ⟨rfl, -, -⟩ := e'
  rcases hr with hr | ⟨bL, oL, rfl, hbL, hrg⟩
  · omega
  obtain ⟨A, hA⟩ : ∃ A, L[i]? = some A := ⟨_, List.getElem?_eq_getElem (by omega)⟩
  obtain ⟨B, hB⟩ : ∃ B, L[i + 1]? = some B := ⟨_, List.getElem?_eq_getElem (by omega)⟩
  obtain ⟨c, d, r, rfl, hc4, rfl, hls⟩ := h.pr i A B hA hB
  obtain ⟨z1, hz1⟩ : ∃ z, vs[i]? = some z := ⟨_, List.getElem?_eq_getElem (by have := h.tr.len; omega)⟩
  obtain ⟨z2, hz2⟩ : ∃ z, vs[i + 1]? = some z := ⟨_, List.getElem?_eq_getElem (by have := h.tr.len; omega)⟩
  have t1 := (hT.el i z1 _ hz1 hA).1
  have t2 := (hT.el (i + 1) z2 _ hz2 hB).1
  obtain ⟨_, ⟨e, _⟩ | ⟨b1, o1, c1, rfl, _, _, g1, hb1⟩⟩ := t1
  · cases e
  obtain ⟨_, ⟨e, _⟩ | ⟨b2, o2, c2, rfl, _, _, g2, hb2⟩⟩ := t2
  · cases e
  obtain ⟨p0, _, _, p3, p4⟩ := term_cells g1 0 (by simp)
  obtain ⟨q0, _, _, q3, q4⟩ := term_cells g2 0 (by simp)
  simp only [Nat.zero_mul, Nat.add_zero, List.getElem_cons_zero] at p0 p3 p4 q0 q3 q4
  refine ⟨bL, oL, b1, o1, c1, b2, o2, c2, r.length, c.vn, c.vk, d.vn, d.vk, d.k, rfl, hls, fun u hu => ?_⟩
  have kp : ∀ (g j : Nat) (z : Value), g < wr.heap.size → wr.cell? ⟨g, j, none⟩ = some z → u.cell? ⟨g, j, none⟩ = some z := fun g j z hg hz => by
    rw [← hz]
    unfold World.cell?
    simp only [hu.block g hg]
  refine ⟨kp _ _ _ hbL (hrg i _ hz1), kp _ _ _ hbL (hrg (i + 1) _ hz2), kp _ _ _ hb1 (hc4 ▸ p0), kp _ _ _ hb1 p3, kp _ _ _ hb1 p4, kp _ _ _ hb2 q0, kp _ _ _ hb2 q3, kp _ _ _ hb2 q4⟩
set_option maxRecDepth 100000 in
set_option maxHeartbeats 8000000 in
theorem i3 (a : Option Addr) (n c : Nat) (bs0 : List Bn) (t : List C) (v : Value) (w : World) (hA : BdRow w a n bs0) (hT : TermAt w v t) (hW : ∀ c ∈ t, wfN (c.vn, c.vk)) (hby : t.length * 48 ≤ 140737488355328) (hn : n ≤ 3518437208780) (hS : Signs w) :
    Calls Tryd.prog 3 #[.slice a n c, v] w fun e w' => e = .returned (.bool true) ∧ Below w.heap.size w w' := by
  obtain ⟨va, vc, hvf⟩ := hT.form
  subst hvf
  have HV : Hid (TermAt w (.slice va t.length vc) t ∧ (∀ c ∈ t, wfN (c.vn, c.vk)) ∧ t.length * 48 ≤ 140737488355328 ∧ Signs w) := ⟨hT, hW, hby, hS⟩
  have H8 : Calls Tryd.prog 8 #[.slice a n c] w fun e w' => ∃ hb M rt, e = .returned (.tuple #[.pointer (some ⟨hb, 0, none⟩), .pointer (some ⟨rt, 0, none⟩), .bool true]) ∧ Hid (BoTo w w' hb M rt n) := i8 a n c bs0 w hA hn hS
  have HN : Hid (n ≤ 3518437208780) := hn
  have htl : t.length ≤ 4000000000000 := by omega
  clear hA hT hW hS hn hby
  go_enter Tryd.func3, Tryd.ntmps3
  go_wp2_with fail
  refine H8.mono ?_
  rintro e w1 ⟨hb, M, rt, rfl, H1⟩
  clear H8
  obtain ⟨nn, D, m, HB⟩ : ∃ nn D m, Hid (HpAt w1 hb M nn D m ∧ RisesH m ∧ (∀ x l, lookH m x = some l → l.length * 48 ≤ 140737488355328 ∧ l ≠ [] ∧ rightB l = true) ∧ nn ≤ n ∧ m.length ≤ n ∧ Below w.heap.size w w1) := by
    obtain ⟨nn, D, m, V, G, bs, hB⟩ := H1.out
    refine ⟨nn, D, m, hB.hp, hB.up, hB.len, hB.nk.1, ?_, hB.bel⟩
    have := congrArg List.length hB.eq
    have h2 := hB.nk.2
    simp [hpOf] at this
    omega
  clear H1
  have H9 : Calls Tryd.prog 9 #[.pointer (some ⟨hb, 0, none⟩), .slice va t.length vc] w1 fun e w' => ∃ la k lc, e = .returned (.slice la k lc) ∧ Hid (∃ L vs, ChF w1 m t (.slice la k lc) w' L vs ∧ L.length = k) := by
    obtain ⟨h1, h2, h3, h4, h5, h6⟩ := HB.out
    obtain ⟨g1, g2, g3, g4⟩ := HV.out
    have := HN.out
    exact i9f m hb M nn D t va vc w1 h1 (g1.below h6) g2 g3 h3 (by omega)
  go_wp2_with fail
  refine H9.mono ?_
  rintro e w2 ⟨la, k, lc, rfl, H2⟩
  clear H9
  obtain ⟨L, vs, HC⟩ : ∃ L vs, Hid (ChF w1 m t (.slice la k lc) w2 L vs ∧ L.length = k) := H2.out
  clear H2
  have hk : k ≤ 3518437208781 := by
    have := HC.out.1.len
    have := HC.out.2
    have := HB.out.2.2.2.2.1
    have := HN.out
    omega
  have HKT : Hid (((k : Int) == 0) = ((t.length : Int) == 0)) := by
    have h1 := HC.out.1.nil
    rw [HC.out.2] at h1
    show _ = _
    by_cases h2 : k = 0
    · have h3 : t.length = 0 := by simpa [h2] using h1
      rw [h2, h3]
    · have h3 : ¬ t.length = 0 := by simpa [h2] using h1
      have e1 : ((k : Int) == 0) = false := by simp [h2]
      have e2 : ((t.length : Int) == 0) = false := by
        rw [beq_eq_false_iff_ne]
        omega
      rw [e1, e2]
  go_wp2_with fail
  go_loopw [9] (fun i wr => ∃ j : Nat, j ≤ k ∧ i = .int .i64 j ∧ Hid (Below w2.heap.size w2 wr)) (fun i _ => k - (intOf i).toNat)
  case atStart => exact ⟨0, Nat.zero_le _, rfl, Below.refl _ _⟩
  case round =>
    obtain ⟨j, hj, rfl, HJ⟩ := hrel
    by_cases hlt : j + 1 < k
    · have hltI : (j : Int) + 1 < (k : Int) := by omega
      have hj0 : (0 : Int) ≤ (j : Int) := by omega
      have hj1 : (0 : Int) ≤ (j : Int) + 1 := by omega
      have hjk : (j : Int) < (k : Int) := by omega
      obtain ⟨bL, oL, b1, o1, c1, b2, o2, c2, n2, x1, x2, y1, y2, d, rfl, hls, hcl⟩ := ch_cells HC.out.1 HC.out.2 HJ.out j hlt
      obtain ⟨q, hq⟩ : ∃ q, j + 1 = q := ⟨_, rfl⟩
      have hq1 : IntKind.i64.wrap ((j : Int) + 1) = (q : Int) := by rw [IntKind.wrap_i64]; omega
      have hq2 : (q : Int) < (k : Int) := by omega
      have hq0 : (0 : Int) ≤ (q : Int) := by omega
      rw [hq] at hcl
      have HCL : Hid (∀ u, Below wr.heap.size wr u → u.cell? ⟨bL, oL + j, none⟩ = some (.slice (some ⟨b1, o1, none⟩) 1 c1) ∧ u.cell? ⟨bL, oL + q, none⟩ = some (.slice (some ⟨b2, o2, none⟩) (n2 + 1) c2) ∧ u.cell? ⟨b1, o1, none⟩ = some (.int .u8 4) ∧ u.cell? ⟨b1, o1 + 3, none⟩ = some (.int .i64 x1) ∧ u.cell? ⟨b1, o1 + 4, none⟩ = some (.int .i64 x2) ∧ u.cell? ⟨b2, o2, none⟩ = some (.int .u8 d) ∧ u.cell? ⟨b2, o2 + 3, none⟩ = some (.int .i64 y1) ∧ u.cell? ⟨b2, o2 + 4, none⟩ = some (.int .i64 y2)) := hcl
      clear hcl
      have HJQ : Hid (j + 1 = q ∧ q < k) := ⟨hq, by omega⟩
      clear hq hlt hltI hj1
      by_cases hd : d = 4
      · subst hd
        have K10 : ∀ u : World, Calls Tryd.prog 10 #[.agg #[.int .i64 y1, .int .i64 y2], .agg #[.int .i64 x1, .int .i64 x2]] u fun e w' => e = .returned (.bool true) ∧ Hid (Below u.heap.size u w') := fun u => by
          have h := i10 y1 y2 x1 x2 u
          rw [hls rfl] at h
          exact h
        clear hls
        go_wp2_with fail
        refine wp_region_noPanic ?_
        refine wp_region_held_drew (S := fun u => u.cell? ⟨bL, oL + j, none⟩ = some (.slice (some ⟨b1, o1, none⟩) 1 c1) ∧ u.cell? ⟨bL, oL + q, none⟩ = some (.slice (some ⟨b2, o2, none⟩) (n2 + 1) c2) ∧ u.cell? ⟨b1, o1, none⟩ = some (.int .u8 4) ∧ u.cell? ⟨b1, o1 + 3, none⟩ = some (.int .i64 x1) ∧ u.cell? ⟨b1, o1 + 4, none⟩ = some (.int .i64 x2) ∧ u.cell? ⟨b2, o2, none⟩ = some (.int .u8 4) ∧ u.cell? ⟨b2, o2 + 3, none⟩ = some (.int .i64 y1) ∧ u.cell? ⟨b2, o2 + 4, none⟩ = some (.int .i64 y2)) (by kernel_rfl) (HCL.out _ (Below.refl _ _).drew) (fun hHeld => ?_)
        (refine wpAnyH_take (i := 0) (v := ?_) (by simp only [List.getElem?_toArray, List.getElem?_cons_zero]; rfl) (by kernel_rfl) (by kernel_rfl) (by kernel_rfl) (fun _ _ _ h => h) (Or.inl ⟨by rfl, ?_⟩) (by assumption) ?_; rotate_left; (· (intro w hSw; (try dsimp only at hSw); go_simp <;> with_reducible rfl)); try simp only [Act.put, List.setIfInBounds_toArray, List.set_cons_zero, List.set_cons_succ])
        (refine wpAnyH_take (i := 1) (v := ?_) (by simp only [List.getElem?_toArray, List.getElem?_cons_zero, List.getElem?_cons_succ]; rfl) (by kernel_rfl) (by kernel_rfl) (by kernel_rfl) (fun _ _ _ h => h) (Or.inl ⟨by rfl, ?_⟩) (by assumption) ?_; rotate_left; (· (intro w hSw; (try dsimp only at hSw); go_simp <;> with_reducible rfl)); try simp only [Act.put, List.setIfInBounds_toArray, List.set_cons_zero, List.set_cons_succ])
        (refine wpAnyH_take (i := 2) (v := ?_) (by simp only [List.getElem?_toArray, List.getElem?_cons_zero, List.getElem?_cons_succ]; rfl) (by kernel_rfl) (by kernel_rfl) (by kernel_rfl) (fun _ _ _ h => h) (Or.inl ⟨by rfl, ?_⟩) (by assumption) ?_; rotate_left; (· (intro w hSw; (try dsimp only at hSw); go_simp <;> with_reducible rfl)); try simp only [Act.put, List.setIfInBounds_toArray, List.set_cons_zero, List.set_cons_succ])
        (refine wpAnyH_take (i := 3) (v := ?_) (by simp only [List.getElem?_toArray, List.getElem?_cons_zero, List.getElem?_cons_succ]; rfl) (by kernel_rfl) (by kernel_rfl) (by kernel_rfl) (fun _ _ _ h => h) (Or.inl ⟨by rfl, ?_⟩) (by assumption) ?_; rotate_left; (· (intro w hSw; (try dsimp only at hSw); go_simp <;> with_reducible rfl)); try simp only [Act.put, List.setIfInBounds_toArray, List.set_cons_zero, List.set_cons_succ])
        (refine wpAnyH_take (i := 4) (v := ?_) (by simp only [List.getElem?_toArray, List.getElem?_cons_zero, List.getElem?_cons_succ]; rfl) (by kernel_rfl) (by kernel_rfl) (by kernel_rfl) (fun _ _ _ h => h) (Or.inl ⟨by rfl, ?_⟩) (by assumption) ?_; rotate_left; (· (intro w hSw; (try dsimp only at hSw); go_simp <;> with_reducible rfl)); try simp only [Act.put, List.setIfInBounds_toArray, List.set_cons_zero, List.set_cons_succ])
        (refine wpAnyH_take (i := 5) (v := ?_) (by simp only [List.getElem?_toArray, List.getElem?_cons_zero, List.getElem?_cons_succ]; rfl) (by kernel_rfl) (by kernel_rfl) (by kernel_rfl) (fun _ _ _ h => h) (Or.inl ⟨by rfl, ?_⟩) (by assumption) ?_; rotate_left; (· (intro w hSw; (try dsimp only at hSw); go_simp <;> with_reducible rfl)); try simp only [Act.put, List.setIfInBounds_toArray, List.set_cons_zero, List.set_cons_succ])
        (refine wpAnyH_take (i := 6) (v := ?_) (by simp only [List.getElem?_toArray, List.getElem?_cons_zero, List.getElem?_cons_succ]; rfl) (by kernel_rfl) (by kernel_rfl) (by kernel_rfl) (fun _ _ _ h => h) (Or.inl ⟨by rfl, ?_⟩) (by assumption) ?_; rotate_left; (· (intro w hSw; (try dsimp only at hSw); go_simp <;> with_reducible rfl)); try simp only [Act.put, List.setIfInBounds_toArray, List.set_cons_zero, List.set_cons_succ])
        (refine wpAnyH_take (i := 7) (v := ?_) (by simp only [List.getElem?_toArray, List.getElem?_cons_zero, List.getElem?_cons_succ]; rfl) (by kernel_rfl) (by kernel_rfl) (by kernel_rfl) (fun _ _ _ h => h) (Or.inl ⟨by rfl, ?_⟩) (by assumption) ?_; rotate_left; (· (intro w hSw; (try dsimp only at hSw); go_simp <;> with_reducible rfl)); try simp only [Act.put, List.setIfInBounds_toArray, List.set_cons_zero, List.set_cons_succ])
        (refine wpAnyH_take (i := 8) (v := ?_) (by simp only [List.getElem?_toArray, List.getElem?_cons_zero, List.getElem?_cons_succ]; rfl) (by kernel_rfl) (by kernel_rfl) (by kernel_rfl) (fun _ _ _ h => h) (Or.inl ⟨by rfl, ?_⟩) (by assumption) ?_; rotate_left; (· (intro w hSw; (try dsimp only at hSw); go_simp <;> with_reducible rfl)); try simp only [Act.put, List.setIfInBounds_toArray, List.set_cons_zero, List.set_cons_succ])
        (refine wpAnyH_take (i := 9) (v := ?_) (by simp only [List.getElem?_toArray, List.getElem?_cons_zero, List.getElem?_cons_succ]; rfl) (by kernel_rfl) (by kernel_rfl) (by kernel_rfl) (fun _ _ _ h => h) (Or.inl ⟨by rfl, ?_⟩) (by assumption) ?_; rotate_left; (· (intro w hSw; (try dsimp only at hSw); go_simp <;> with_reducible rfl)); try simp only [Act.put, List.setIfInBounds_toArray, List.set_cons_zero, List.set_cons_succ])
        (refine wpAnyH_take (i := 10) (v := ?_) (by simp only [List.getElem?_toArray, List.getElem?_cons_zero, List.getElem?_cons_succ]; rfl) (by kernel_rfl) (by kernel_rfl) (by kernel_rfl) (fun _ _ _ h => h) (Or.inl ⟨by rfl, ?_⟩) (by assumption) ?_; rotate_left; (· (intro w hSw; (try dsimp only at hSw); go_simp <;> with_reducible rfl)); try simp only [Act.put, List.setIfInBounds_toArray, List.set_cons_zero, List.set_cons_succ])
        (refine wpAnyH_take (i := 11) (v := ?_) (by simp only [List.getElem?_toArray, List.getElem?_cons_zero, List.getElem?_cons_succ]; rfl) (by kernel_rfl) (by kernel_rfl) (by kernel_rfl) (fun _ _ _ h => h) (Or.inl ⟨by rfl, ?_⟩) (by assumption) ?_; rotate_left; (· (intro w hSw; (try dsimp only at hSw); go_simp <;> with_reducible rfl)); try simp only [Act.put, List.setIfInBounds_toArray, List.set_cons_zero, List.set_cons_succ])
        (refine wpAnyH_take (i := 12) (v := ?_) (by simp only [List.getElem?_toArray, List.getElem?_cons_zero, List.getElem?_cons_succ]; rfl) (by kernel_rfl) (by kernel_rfl) (by kernel_rfl) (fun _ _ _ h => h) (Or.inl ⟨by rfl, ?_⟩) (by assumption) ?_; rotate_left; (· (intro w hSw; (try dsimp only at hSw); go_simp <;> with_reducible rfl)); try simp only [Act.put, List.setIfInBounds_toArray, List.set_cons_zero, List.set_cons_succ])
        (refine wpAnyH_take (i := 13) (v := ?_) (by simp only [List.getElem?_toArray, List.getElem?_cons_zero, List.getElem?_cons_succ]; rfl) (by kernel_rfl) (by kernel_rfl) (by kernel_rfl) (fun _ _ _ h => h) (Or.inl ⟨by rfl, ?_⟩) (by assumption) ?_; rotate_left; (· (intro w hSw; (try dsimp only at hSw); go_simp <;> with_reducible rfl)); try simp only [Act.put, List.setIfInBounds_toArray, List.set_cons_zero, List.set_cons_succ])
        (refine wpAnyH_take (i := 14) (v := ?_) (by simp only [List.getElem?_toArray, List.getElem?_cons_zero, List.getElem?_cons_succ]; rfl) (by kernel_rfl) (by kernel_rfl) (by kernel_rfl) (fun _ _ _ h => h) (Or.inl ⟨by rfl, ?_⟩) (by assumption) ?_; rotate_left; (· (intro w hSw; (try dsimp only at hSw); go_simp <;> with_reducible rfl)); try simp only [Act.put, List.setIfInBounds_toArray, List.set_cons_zero, List.set_cons_succ])
        (refine wpAnyH_take (i := 15) (v := ?_) (by simp only [List.getElem?_toArray, List.getElem?_cons_zero, List.getElem?_cons_succ]; rfl) (by kernel_rfl) (by kernel_rfl) (by kernel_rfl) (fun _ _ _ h => h) (Or.inl ⟨by rfl, ?_⟩) (by assumption) ?_; rotate_left; (· (intro w hSw; (try dsimp only at hSw); go_simp <;> with_reducible rfl)); try simp only [Act.put, List.setIfInBounds_toArray, List.set_cons_zero, List.set_cons_succ])
        (refine wpAnyH_take (i := 16) (v := ?_) (by simp only [List.getElem?_toArray, List.getElem?_cons_zero, List.getElem?_cons_succ]; rfl) (by kernel_rfl) (by kernel_rfl) (by kernel_rfl) (fun _ _ _ h => h) (Or.inl ⟨by rfl, ?_⟩) (by assumption) ?_; rotate_left; (· (intro w hSw; (try dsimp only at hSw); go_simp <;> with_reducible rfl)); try simp only [Act.put, List.setIfInBounds_toArray, List.set_cons_zero, List.set_cons_succ])
        (refine wpAnyH_take (i := 17) (v := ?_) (by simp only [List.getElem?_toArray, List.getElem?_cons_zero, List.getElem?_cons_succ]; rfl) (by kernel_rfl) (by kernel_rfl) (by kernel_rfl) (fun _ _ _ h => h) (Or.inl ⟨by rfl, ?_⟩) (by assumption) ?_; rotate_left; (· (intro w hSw; (try dsimp only at hSw); go_simp <;> with_reducible rfl)); try simp only [Act.put, List.setIfInBounds_toArray, List.set_cons_zero, List.set_cons_succ])
        (refine wpAnyH_take (i := 18) (v := ?_) (by simp only [List.getElem?_toArray, List.getElem?_cons_zero, List.getElem?_cons_succ]; rfl) (by kernel_rfl) (by kernel_rfl) (by kernel_rfl) (fun _ _ _ h => h) (Or.inl ⟨by rfl, ?_⟩) (by assumption) ?_; rotate_left; (· (intro w hSw; (try dsimp only at hSw); go_simp <;> with_reducible rfl)); try simp only [Act.put, List.setIfInBounds_toArray, List.set_cons_zero, List.set_cons_succ])
        (refine wpAnyH_take (i := 19) (v := ?_) (by simp only [List.getElem?_toArray, List.getElem?_cons_zero, List.getElem?_cons_succ]; rfl) (by kernel_rfl) (by kernel_rfl) (by kernel_rfl) (fun _ _ _ h => h) (Or.inl ⟨by rfl, ?_⟩) (by assumption) ?_; rotate_left; (· (intro w hSw; (try dsimp only at hSw); go_simp <;> with_reducible rfl)); try simp only [Act.put, List.setIfInBounds_toArray, List.set_cons_zero, List.set_cons_succ])
        (refine wpAnyH_take (i := 20) (v := ?_) (by simp only [List.getElem?_toArray, List.getElem?_cons_zero, List.getElem?_cons_succ]; rfl) (by kernel_rfl) (by kernel_rfl) (by kernel_rfl) (fun _ _ _ h => h) (Or.inl ⟨by rfl, ?_⟩) (by assumption) ?_; rotate_left; (· (intro w hSw; (try dsimp only at hSw); go_simp <;> with_reducible rfl)); try simp only [Act.put, List.setIfInBounds_toArray, List.set_cons_zero, List.set_cons_succ])
        (refine wpAnyH_take (i := 21) (v := ?_) (by simp only [List.getElem?_toArray, List.getElem?_cons_zero, List.getElem?_cons_succ]; rfl) (by kernel_rfl) (by kernel_rfl) (by kernel_rfl) (fun _ _ _ h => h) (Or.inl ⟨by rfl, ?_⟩) (by assumption) ?_; rotate_left; (· (intro w hSw; (try dsimp only at hSw); go_simp <;> with_reducible rfl)); try simp only [Act.put, List.setIfInBounds_toArray, List.set_cons_zero, List.set_cons_succ])
        (refine wpAnyH_take (i := 22) (v := ?_) (by simp only [List.getElem?_toArray, List.getElem?_cons_zero, List.getElem?_cons_succ]; rfl) (by kernel_rfl) (by kernel_rfl) (by kernel_rfl) (fun _ _ _ h => h) (Or.inl ⟨by rfl, ?_⟩) (by assumption) ?_; rotate_left; (· (intro w hSw; (try dsimp only at hSw); go_simp <;> with_reducible rfl)); try simp only [Act.put, List.setIfInBounds_toArray, List.set_cons_zero, List.set_cons_succ])
        (refine wpAnyH_take (i := 23) (v := ?_) (by simp only [List.getElem?_toArray, List.getElem?_cons_zero, List.getElem?_cons_succ]; rfl) (by kernel_rfl) (by kernel_rfl) (by kernel_rfl) (fun _ _ _ h => h) (Or.inl ⟨by rfl, ?_⟩) (by assumption) ?_; rotate_left; (· (intro w hSw; (try dsimp only at hSw); go_simp <;> with_reducible rfl)); try simp only [Act.put, List.setIfInBounds_toArray, List.set_cons_zero, List.set_cons_succ])
        (refine wpAnyH_take (i := 24) (v := ?_) (by simp only [List.getElem?_toArray, List.getElem?_cons_zero, List.getElem?_cons_succ]; rfl) (by kernel_rfl) (by kernel_rfl) (by kernel_rfl) (fun _ _ _ h => h) (Or.inl ⟨by rfl, ?_⟩) (by assumption) ?_; rotate_left; (· (intro w hSw; (try dsimp only at hSw); go_simp <;> with_reducible rfl)); try simp only [Act.put, List.setIfInBounds_toArray, List.set_cons_zero, List.set_cons_succ])
        (refine wpAnyH_take (i := 25) (v := ?_) (by simp only [List.getElem?_toArray, List.getElem?_cons_zero, List.getElem?_cons_succ]; rfl) (by kernel_rfl) (by kernel_rfl) (by kernel_rfl) (fun _ _ _ h => h) (Or.inl ⟨by rfl, ?_⟩) (by assumption) ?_; rotate_left; (· (intro w hSw; (try dsimp only at hSw); go_simp <;> with_reducible rfl)); try simp only [Act.put, List.setIfInBounds_toArray, List.set_cons_zero, List.set_cons_succ])
        (refine wpAnyH_take (i := 26) (v := ?_) (by simp only [List.getElem?_toArray, List.getElem?_cons_zero, List.getElem?_cons_succ]; rfl) (by kernel_rfl) (by kernel_rfl) (by kernel_rfl) (fun _ _ _ h => h) (Or.inl ⟨by rfl, ?_⟩) (by assumption) ?_; rotate_left; (· (intro w hSw; (try dsimp only at hSw); go_simp <;> with_reducible rfl)); try simp only [Act.put, List.setIfInBounds_toArray, List.set_cons_zero, List.set_cons_succ])
        (refine wpAnyH_take (i := 27) (v := ?_) (by simp only [List.getElem?_toArray, List.getElem?_cons_zero, List.getElem?_cons_succ]; rfl) (by kernel_rfl) (by kernel_rfl) (by kernel_rfl) (fun _ _ _ h => h) (Or.inl ⟨by rfl, ?_⟩) (by assumption) ?_; rotate_left; (· (intro w hSw; (try dsimp only at hSw); go_simp <;> with_reducible rfl)); try simp only [Act.put, List.setIfInBounds_toArray, List.set_cons_zero, List.set_cons_succ])
        (refine wpAnyH_take (i := 28) (v := ?_) (by simp only [List.getElem?_toArray, List.getElem?_cons_zero, List.getElem?_cons_succ]; rfl) (by kernel_rfl) (by kernel_rfl) (by kernel_rfl) (fun _ _ _ h => h) (Or.inl ⟨by rfl, ?_⟩) (by assumption) ?_; rotate_left; (· (intro w hSw; (try dsimp only at hSw); go_simp <;> with_reducible rfl)); try simp only [Act.put, List.setIfInBounds_toArray, List.set_cons_zero, List.set_cons_succ])
        (refine wpAnyH_take (i := 29) (v := ?_) (by simp only [List.getElem?_toArray, List.getElem?_cons_zero, List.getElem?_cons_succ]; rfl) (by kernel_rfl) (by kernel_rfl) (by kernel_rfl) (fun _ _ _ h => h) (Or.inl ⟨by rfl, ?_⟩) (by assumption) ?_; rotate_left; (· (intro w hSw; (try dsimp only at hSw); go_simp <;> with_reducible rfl)); try simp only [Act.put, List.setIfInBounds_toArray, List.set_cons_zero, List.set_cons_succ])
        (refine wpAnyH_take (i := 30) (v := ?_) (by simp only [List.getElem?_toArray, List.getElem?_cons_zero, List.getElem?_cons_succ]; rfl) (by kernel_rfl) (by kernel_rfl) (by kernel_rfl) (fun _ _ _ h => h) (Or.inl ⟨by rfl, ?_⟩) (by assumption) ?_; rotate_left; (· (intro w hSw; (try dsimp only at hSw); go_simp <;> with_reducible rfl)); try simp only [Act.put, List.setIfInBounds_toArray, List.set_cons_zero, List.set_cons_succ])
        (refine wpAnyH_take (i := 31) (v := ?_) (by simp only [List.getElem?_toArray, List.getElem?_cons_zero, List.getElem?_cons_succ]; rfl) (by kernel_rfl) (by kernel_rfl) (by kernel_rfl) (fun _ _ _ h => h) (Or.inl ⟨by rfl, ?_⟩) (by assumption) ?_; rotate_left; (· (intro w hSw; (try dsimp only at hSw); go_simp <;> with_reducible rfl)); try simp only [Act.put, List.setIfInBounds_toArray, List.set_cons_zero, List.set_cons_succ])
        (refine wpAnyH_take (i := 32) (v := ?_) (by simp only [List.getElem?_toArray, List.getElem?_cons_zero, List.getElem?_cons_succ]; rfl) (by kernel_rfl) (by kernel_rfl) (by kernel_rfl) (fun _ _ _ h => h) (Or.inl ⟨by rfl, ?_⟩) (by assumption) ?_; rotate_left; (· (intro w hSw; (try dsimp only at hSw); go_simp <;> with_reducible rfl)); try simp only [Act.put, List.setIfInBounds_toArray, List.set_cons_zero, List.set_cons_succ])
        (refine wpAnyH_take (i := 33) (v := ?_) (by simp only [List.getElem?_toArray, List.getElem?_cons_zero, List.getElem?_cons_succ]; rfl) (by kernel_rfl) (by kernel_rfl) (by kernel_rfl) (fun _ _ _ h => h) (Or.inl ⟨by rfl, ?_⟩) (by assumption) ?_; rotate_left; (· (intro w hSw; (try dsimp only at hSw); go_simp <;> with_reducible rfl)); try simp only [Act.put, List.setIfInBounds_toArray, List.set_cons_zero, List.set_cons_succ])
        (refine wpAnyH_take (i := 34) (v := ?_) (by simp only [List.getElem?_toArray, List.getElem?_cons_zero, List.getElem?_cons_succ]; rfl) (by kernel_rfl) (by kernel_rfl) (by kernel_rfl) (fun _ _ _ h => h) (Or.inl ⟨by rfl, ?_⟩) (by assumption) ?_; rotate_left; (· (intro w hSw; (try dsimp only at hSw); go_simp <;> with_reducible rfl)); try simp only [Act.put, List.setIfInBounds_toArray, List.set_cons_zero, List.set_cons_succ])
        (refine wpAnyH_take (i := 35) (v := ?_) (by simp only [List.getElem?_toArray, List.getElem?_cons_zero, List.getElem?_cons_succ]; rfl) (by kernel_rfl) (by kernel_rfl) (by kernel_rfl) (fun _ _ _ h => h) (Or.inl ⟨by rfl, ?_⟩) (by assumption) ?_; rotate_left; (· (intro w hSw; (try dsimp only at hSw); go_simp <;> with_reducible rfl)); try simp only [Act.put, List.setIfInBounds_toArray, List.set_cons_zero, List.set_cons_succ])
        (refine wpAnyH_take (i := 36) (v := ?_) (by simp only [List.getElem?_toArray, List.getElem?_cons_zero, List.getElem?_cons_succ]; rfl) (by kernel_rfl) (by kernel_rfl) (by kernel_rfl) (fun _ _ _ h => h) (Or.inl ⟨by rfl, ?_⟩) (by assumption) ?_; rotate_left; (· (intro w hSw; (try dsimp only at hSw); go_simp <;> with_reducible rfl)); try simp only [Act.put, List.setIfInBounds_toArray, List.set_cons_zero, List.set_cons_succ])
        (refine wpAnyH_take (i := 37) (v := ?_) (by simp only [List.getElem?_toArray, List.getElem?_cons_zero, List.getElem?_cons_succ]; rfl) (by kernel_rfl) (by kernel_rfl) (by kernel_rfl) (fun _ _ _ h => h) (Or.inl ⟨by rfl, ?_⟩) (by assumption) ?_; rotate_left; (· (intro w hSw; (try dsimp only at hSw); go_simp <;> with_reducible rfl)); try simp only [Act.put, List.setIfInBounds_toArray, List.set_cons_zero, List.set_cons_succ])
        (refine wpAnyH_take (i := 38) (v := ?_) (by simp only [List.getElem?_toArray, List.getElem?_cons_zero, List.getElem?_cons_succ]; rfl) (by kernel_rfl) (by kernel_rfl) (by kernel_rfl) (fun _ _ _ h => h) (Or.inl ⟨by rfl, ?_⟩) (by assumption) ?_; rotate_left; (· (intro w hSw; (try dsimp only at hSw); go_simp <;> with_reducible rfl)); try simp only [Act.put, List.setIfInBounds_toArray, List.set_cons_zero, List.set_cons_succ])
        (refine wpAnyH_take (i := 39) (v := ?_) (by simp only [List.getElem?_toArray, List.getElem?_cons_zero, List.getElem?_cons_succ]; rfl) (by kernel_rfl) (by kernel_rfl) (by kernel_rfl) (fun _ _ _ h => h) (Or.inl ⟨by rfl, ?_⟩) (by assumption) ?_; rotate_left; (· (intro w hSw; (try dsimp only at hSw); go_simp <;> with_reducible rfl)); try simp only [Act.put, List.setIfInBounds_toArray, List.set_cons_zero, List.set_cons_succ])
        (refine wpAnyH_take (i := 40) (v := ?_) (by simp only [List.getElem?_toArray, List.getElem?_cons_zero, List.getElem?_cons_succ]; rfl) (by kernel_rfl) (by kernel_rfl) (by kernel_rfl) (fun _ _ _ h => h) (Or.inl ⟨by rfl, ?_⟩) (by assumption) ?_; rotate_left; (· (intro w hSw; (try dsimp only at hSw); go_simp <;> with_reducible rfl)); try simp only [Act.put, List.setIfInBounds_toArray, List.set_cons_zero, List.set_cons_succ])
        (refine wpAnyH_take (i := 41) (v := ?_) (by simp only [List.getElem?_toArray, List.getElem?_cons_zero, List.getElem?_cons_succ]; rfl) (by kernel_rfl) (by kernel_rfl) (by kernel_rfl) (fun _ _ _ h => h) (Or.inl ⟨by rfl, ?_⟩) (by assumption) ?_; rotate_left; (· (intro w hSw; (try dsimp only at hSw); go_simp <;> with_reducible rfl)); try simp only [Act.put, List.setIfInBounds_toArray, List.set_cons_zero, List.set_cons_succ])
        (refine wpAnyH_take (i := 42) (v := ?_) (by simp only [List.getElem?_toArray, List.getElem?_cons_zero, List.getElem?_cons_succ]; rfl) (by kernel_rfl) (by kernel_rfl) (by kernel_rfl) (fun _ _ _ h => h) (Or.inl ⟨by rfl, ?_⟩) (by assumption) ?_; rotate_left; (· (intro w hSw; (try dsimp only at hSw); go_simp <;> with_reducible rfl)); try simp only [Act.put, List.setIfInBounds_toArray, List.set_cons_zero, List.set_cons_succ])
        (refine wpAnyH_take (i := 43) (v := ?_) (by simp only [List.getElem?_toArray, List.getElem?_cons_zero, List.getElem?_cons_succ]; rfl) (by kernel_rfl) (by kernel_rfl) (by kernel_rfl) (fun _ _ _ h => h) (Or.inl ⟨by rfl, ?_⟩) (by assumption) ?_; rotate_left; (· (intro w hSw; (try dsimp only at hSw); go_simp <;> with_reducible rfl)); try simp only [Act.put, List.setIfInBounds_toArray, List.set_cons_zero, List.set_cons_succ])
        (refine wpAnyH_take (i := 44) (v := ?_) (by simp only [List.getElem?_toArray, List.getElem?_cons_zero, List.getElem?_cons_succ]; rfl) (by kernel_rfl) (by kernel_rfl) (by kernel_rfl) (fun _ _ _ h => h) (Or.inl ⟨by rfl, ?_⟩) (by assumption) ?_; rotate_left; (· (intro w hSw; (try dsimp only at hSw); go_simp <;> with_reducible rfl)); try simp only [Act.put, List.setIfInBounds_toArray, List.set_cons_zero, List.set_cons_succ])
        (refine wpAnyH_take (i := 45) (v := ?_) (by simp only [List.getElem?_toArray, List.getElem?_cons_zero, List.getElem?_cons_succ]; rfl) (by kernel_rfl) (by kernel_rfl) (by kernel_rfl) (fun _ _ _ h => h) (Or.inl ⟨by rfl, ?_⟩) (by assumption) ?_; rotate_left; (· (intro w hSw; (try dsimp only at hSw); go_simp <;> with_reducible rfl)); try simp only [Act.put, List.setIfInBounds_toArray, List.set_cons_zero, List.set_cons_succ])
        (refine wpAnyH_take (i := 46) (v := ?_) (by simp only [List.getElem?_toArray, List.getElem?_cons_zero, List.getElem?_cons_succ]; rfl) (by kernel_rfl) (by kernel_rfl) (by kernel_rfl) (fun _ _ _ h => h) (Or.inl ⟨by rfl, ?_⟩) (by assumption) ?_; rotate_left; (· (intro w hSw; (try dsimp only at hSw); go_simp <;> with_reducible rfl)); try simp only [Act.put, List.setIfInBounds_toArray, List.set_cons_zero, List.set_cons_succ])
        (refine wpAnyH_take (i := 47) (v := ?_) (by simp only [List.getElem?_toArray, List.getElem?_cons_zero, List.getElem?_cons_succ]; rfl) (by kernel_rfl) (by kernel_rfl) (by kernel_rfl) (fun _ _ _ h => h) (Or.inl ⟨by rfl, ?_⟩) (by assumption) ?_; rotate_left; (· (intro w hSw; (try dsimp only at hSw); go_simp <;> with_reducible rfl)); try simp only [Act.put, List.setIfInBounds_toArray, List.set_cons_zero, List.set_cons_succ])
        (refine wpAnyH_take (i := 48) (v := ?_) (by simp only [List.getElem?_toArray, List.getElem?_cons_zero, List.getElem?_cons_succ]; rfl) (by kernel_rfl) (by kernel_rfl) (by kernel_rfl) (fun _ _ _ h => h) (Or.inl ⟨by rfl, ?_⟩) (by assumption) ?_; rotate_left; (· (intro w hSw; (try dsimp only at hSw); go_simp <;> with_reducible rfl)); try simp only [Act.put, List.setIfInBounds_toArray, List.set_cons_zero, List.set_cons_succ])
        (refine wpAnyH_take (i := 49) (v := ?_) (by simp only [List.getElem?_toArray, List.getElem?_cons_zero, List.getElem?_cons_succ]; rfl) (by kernel_rfl) (by kernel_rfl) (by kernel_rfl) (fun _ _ _ h => h) (Or.inl ⟨by rfl, ?_⟩) (by assumption) ?_; rotate_left; (· (intro w hSw; (try dsimp only at hSw); go_simp <;> with_reducible rfl)); try simp only [Act.put, List.setIfInBounds_toArray, List.set_cons_zero, List.set_cons_succ])
        (refine wpAnyH_take (i := 50) (v := ?_) (by simp only [List.getElem?_toArray, List.getElem?_cons_zero, List.getElem?_cons_succ]; rfl) (by kernel_rfl) (by kernel_rfl) (by kernel_rfl) (fun _ _ _ h => h) (Or.inl ⟨by rfl, ?_⟩) (by assumption) ?_; rotate_left; (· (intro w hSw; (try dsimp only at hSw); go_simp <;> with_reducible rfl)); try simp only [Act.put, List.setIfInBounds_toArray, List.set_cons_zero, List.set_cons_succ])
        refine wpAnyH_ready (rs := [51]) (by kernel_rfl) (by simp) ?_
        refine AllReadyH.cons (by simp only [List.getElem?_toArray, List.getElem?_cons_zero, List.getElem?_cons_succ]; rfl) (fun K hK => ?_) AllReadyH.nil
        go_simp
        go_at_call 10
        refine (K10 _).mono ?_
        rintro e w3 ⟨rfl, H3⟩
        refine hK.out _ _ ?_ (fun hHeld => ?_)
        · exact HCL.out w3 ((Below.refl _ _).drew.trans H3.out)
        clear hK K
        try simp only [Act.put, List.setIfInBounds_toArray, List.set_cons_zero, List.set_cons_succ]
        (refine wpAnyH_take (i := 52) (v := ?_) (by simp only [List.getElem?_toArray, List.getElem?_cons_zero, List.getElem?_cons_succ]; rfl) (by kernel_rfl) (by kernel_rfl) (by kernel_rfl) (fun _ _ _ h => h) (Or.inl ⟨by rfl, ?_⟩) (by assumption) ?_; rotate_left; (· (intro w hSw; (try dsimp only at hSw); go_simp <;> with_reducible rfl)); try simp only [Act.put, List.setIfInBounds_toArray, List.set_cons_zero, List.set_cons_succ])
        (refine wpAnyH_take (i := 53) (v := ?_) (by simp only [List.getElem?_toArray, List.getElem?_cons_zero, List.getElem?_cons_succ]; rfl) (by kernel_rfl) (by kernel_rfl) (by kernel_rfl) (fun _ _ _ h => h) (Or.inl ⟨by rfl, ?_⟩) (by assumption) ?_; rotate_left; (· (intro w hSw; (try dsimp only at hSw); go_simp <;> with_reducible rfl)); try simp only [Act.put, List.setIfInBounds_toArray, List.set_cons_zero, List.set_cons_succ])
        (refine wpAnyH_take (i := 54) (v := ?_) (by simp only [List.getElem?_toArray, List.getElem?_cons_zero, List.getElem?_cons_succ]; rfl) (by kernel_rfl) (by kernel_rfl) (by kernel_rfl) (fun _ _ _ h => h) (Or.inl ⟨by rfl, ?_⟩) (by assumption) ?_; rotate_left; (· (intro w hSw; (try dsimp only at hSw); go_simp <;> with_reducible rfl)); try simp only [Act.put, List.setIfInBounds_toArray, List.set_cons_zero, List.set_cons_succ])
        refine wpAnyH_done (by kernel_rfl) ?_ _
        refine NoPanic.normal ?_
        clear hHeld HCL
        have HE : Hid (Below w2.heap.size w2 w3) := HJ.out.trans (((Below.refl wr.heap.size wr).drew.trans H3.out).mono HJ.out.size)
        go_wp2_with fail
        go_roundw
        case rel => exact ⟨q, by have := HJQ.out; omega, by go_num, HE⟩
        case measure => have := HJQ.out; simp [intOf]; omega
      · clear hls
        go_wp2_with fail
        refine wp_region_noPanic ?_
        refine wp_region_held_drew (S := fun u => u.cell? ⟨bL, oL + j, none⟩ = some (.slice (some ⟨b1, o1, none⟩) 1 c1) ∧ u.cell? ⟨bL, oL + q, none⟩ = some (.slice (some ⟨b2, o2, none⟩) (n2 + 1) c2) ∧ u.cell? ⟨b1, o1, none⟩ = some (.int .u8 4) ∧ u.cell? ⟨b1, o1 + 3, none⟩ = some (.int .i64 x1) ∧ u.cell? ⟨b1, o1 + 4, none⟩ = some (.int .i64 x2) ∧ u.cell? ⟨b2, o2, none⟩ = some (.int .u8 d) ∧ u.cell? ⟨b2, o2 + 3, none⟩ = some (.int .i64 y1) ∧ u.cell? ⟨b2, o2 + 4, none⟩ = some (.int .i64 y2)) (by kernel_rfl) (HCL.out _ (Below.refl _ _).drew) (fun hHeld => ?_)
        (refine wpAnyH_take (i := 0) (v := ?_) (by simp only [List.getElem?_toArray, List.getElem?_cons_zero]; rfl) (by kernel_rfl) (by kernel_rfl) (by kernel_rfl) (fun _ _ _ h => h) (Or.inl ⟨by rfl, ?_⟩) (by assumption) ?_; rotate_left; (· (intro w hSw; (try dsimp only at hSw); go_simp <;> with_reducible rfl)); try simp only [Act.put, List.setIfInBounds_toArray, List.set_cons_zero, List.set_cons_succ])
        (refine wpAnyH_take (i := 1) (v := ?_) (by simp only [List.getElem?_toArray, List.getElem?_cons_zero, List.getElem?_cons_succ]; rfl) (by kernel_rfl) (by kernel_rfl) (by kernel_rfl) (fun _ _ _ h => h) (Or.inl ⟨by rfl, ?_⟩) (by assumption) ?_; rotate_left; (· (intro w hSw; (try dsimp only at hSw); go_simp <;> with_reducible rfl)); try simp only [Act.put, List.setIfInBounds_toArray, List.set_cons_zero, List.set_cons_succ])
        (refine wpAnyH_take (i := 2) (v := ?_) (by simp only [List.getElem?_toArray, List.getElem?_cons_zero, List.getElem?_cons_succ]; rfl) (by kernel_rfl) (by kernel_rfl) (by kernel_rfl) (fun _ _ _ h => h) (Or.inl ⟨by rfl, ?_⟩) (by assumption) ?_; rotate_left; (· (intro w hSw; (try dsimp only at hSw); go_simp <;> with_reducible rfl)); try simp only [Act.put, List.setIfInBounds_toArray, List.set_cons_zero, List.set_cons_succ])
        (refine wpAnyH_take (i := 3) (v := ?_) (by simp only [List.getElem?_toArray, List.getElem?_cons_zero, List.getElem?_cons_succ]; rfl) (by kernel_rfl) (by kernel_rfl) (by kernel_rfl) (fun _ _ _ h => h) (Or.inl ⟨by rfl, ?_⟩) (by assumption) ?_; rotate_left; (· (intro w hSw; (try dsimp only at hSw); go_simp <;> with_reducible rfl)); try simp only [Act.put, List.setIfInBounds_toArray, List.set_cons_zero, List.set_cons_succ])
        (refine wpAnyH_take (i := 4) (v := ?_) (by simp only [List.getElem?_toArray, List.getElem?_cons_zero, List.getElem?_cons_succ]; rfl) (by kernel_rfl) (by kernel_rfl) (by kernel_rfl) (fun _ _ _ h => h) (Or.inl ⟨by rfl, ?_⟩) (by assumption) ?_; rotate_left; (· (intro w hSw; (try dsimp only at hSw); go_simp <;> with_reducible rfl)); try simp only [Act.put, List.setIfInBounds_toArray, List.set_cons_zero, List.set_cons_succ])
        (refine wpAnyH_take (i := 5) (v := ?_) (by simp only [List.getElem?_toArray, List.getElem?_cons_zero, List.getElem?_cons_succ]; rfl) (by kernel_rfl) (by kernel_rfl) (by kernel_rfl) (fun _ _ _ h => h) (Or.inl ⟨by rfl, ?_⟩) (by assumption) ?_; rotate_left; (· (intro w hSw; (try dsimp only at hSw); go_simp <;> with_reducible rfl)); try simp only [Act.put, List.setIfInBounds_toArray, List.set_cons_zero, List.set_cons_succ])
        (refine wpAnyH_take (i := 6) (v := ?_) (by simp only [List.getElem?_toArray, List.getElem?_cons_zero, List.getElem?_cons_succ]; rfl) (by kernel_rfl) (by kernel_rfl) (by kernel_rfl) (fun _ _ _ h => h) (Or.inl ⟨by rfl, ?_⟩) (by assumption) ?_; rotate_left; (· (intro w hSw; (try dsimp only at hSw); go_simp <;> with_reducible rfl)); try simp only [Act.put, List.setIfInBounds_toArray, List.set_cons_zero, List.set_cons_succ])
        (refine wpAnyH_take (i := 7) (v := ?_) (by simp only [List.getElem?_toArray, List.getElem?_cons_zero, List.getElem?_cons_succ]; rfl) (by kernel_rfl) (by kernel_rfl) (by kernel_rfl) (fun _ _ _ h => h) (Or.inl ⟨by rfl, ?_⟩) (by assumption) ?_; rotate_left; (· (intro w hSw; (try dsimp only at hSw); go_simp <;> with_reducible rfl)); try simp only [Act.put, List.setIfInBounds_toArray, List.set_cons_zero, List.set_cons_succ])
        (refine wpAnyH_take (i := 8) (v := ?_) (by simp only [List.getElem?_toArray, List.getElem?_cons_zero, List.getElem?_cons_succ]; rfl) (by kernel_rfl) (by kernel_rfl) (by kernel_rfl) (fun _ _ _ h => h) (Or.inl ⟨by rfl, ?_⟩) (by assumption) ?_; rotate_left; (· (intro w hSw; (try dsimp only at hSw); go_simp <;> with_reducible rfl)); try simp only [Act.put, List.setIfInBounds_toArray, List.set_cons_zero, List.set_cons_succ])
        (refine wpAnyH_take (i := 9) (v := ?_) (by simp only [List.getElem?_toArray, List.getElem?_cons_zero, List.getElem?_cons_succ]; rfl) (by kernel_rfl) (by kernel_rfl) (by kernel_rfl) (fun _ _ _ h => h) (Or.inl ⟨by rfl, ?_⟩) (by assumption) ?_; rotate_left; (· (intro w hSw; (try dsimp only at hSw); go_simp <;> with_reducible rfl)); try simp only [Act.put, List.setIfInBounds_toArray, List.set_cons_zero, List.set_cons_succ])
        (refine wpAnyH_take (i := 10) (v := ?_) (by simp only [List.getElem?_toArray, List.getElem?_cons_zero, List.getElem?_cons_succ]; rfl) (by kernel_rfl) (by kernel_rfl) (by kernel_rfl) (fun _ _ _ h => h) (Or.inl ⟨by rfl, ?_⟩) (by assumption) ?_; rotate_left; (· (intro w hSw; (try dsimp only at hSw); go_simp <;> with_reducible rfl)); try simp only [Act.put, List.setIfInBounds_toArray, List.set_cons_zero, List.set_cons_succ])
        (refine wpAnyH_take (i := 11) (v := ?_) (by simp only [List.getElem?_toArray, List.getElem?_cons_zero, List.getElem?_cons_succ]; rfl) (by kernel_rfl) (by kernel_rfl) (by kernel_rfl) (fun _ _ _ h => h) (Or.inl ⟨by rfl, ?_⟩) (by assumption) ?_; rotate_left; (· (intro w hSw; (try dsimp only at hSw); go_simp <;> with_reducible rfl)); try simp only [Act.put, List.setIfInBounds_toArray, List.set_cons_zero, List.set_cons_succ])
        (refine wpAnyH_take (i := 12) (v := ?_) (by simp only [List.getElem?_toArray, List.getElem?_cons_zero, List.getElem?_cons_succ]; rfl) (by kernel_rfl) (by kernel_rfl) (by kernel_rfl) (fun _ _ _ h => h) (Or.inl ⟨by rfl, ?_⟩) (by assumption) ?_; rotate_left; (· (intro w hSw; (try dsimp only at hSw); go_simp <;> with_reducible rfl)); try simp only [Act.put, List.setIfInBounds_toArray, List.set_cons_zero, List.set_cons_succ])
        (refine wpAnyH_take (i := 13) (v := ?_) (by simp only [List.getElem?_toArray, List.getElem?_cons_zero, List.getElem?_cons_succ]; rfl) (by kernel_rfl) (by kernel_rfl) (by kernel_rfl) (fun _ _ _ h => h) (Or.inl ⟨by rfl, ?_⟩) (by assumption) ?_; rotate_left; (· (intro w hSw; (try dsimp only at hSw); go_simp <;> with_reducible rfl)); try simp only [Act.put, List.setIfInBounds_toArray, List.set_cons_zero, List.set_cons_succ])
        (refine wpAnyH_take (i := 14) (v := ?_) (by simp only [List.getElem?_toArray, List.getElem?_cons_zero, List.getElem?_cons_succ]; rfl) (by kernel_rfl) (by kernel_rfl) (by kernel_rfl) (fun _ _ _ h => h) (Or.inl ⟨by rfl, ?_⟩) (by assumption) ?_; rotate_left; (· (intro w hSw; (try dsimp only at hSw); go_simp <;> with_reducible rfl)); try simp only [Act.put, List.setIfInBounds_toArray, List.set_cons_zero, List.set_cons_succ])
        (refine wpAnyH_take (i := 15) (v := ?_) (by simp only [List.getElem?_toArray, List.getElem?_cons_zero, List.getElem?_cons_succ]; rfl) (by kernel_rfl) (by kernel_rfl) (by kernel_rfl) (fun _ _ _ h => h) (Or.inl ⟨by rfl, ?_⟩) (by assumption) ?_; rotate_left; (· (intro w hSw; (try dsimp only at hSw); go_simp <;> with_reducible rfl)); try simp only [Act.put, List.setIfInBounds_toArray, List.set_cons_zero, List.set_cons_succ])
        (refine wpAnyH_take (i := 16) (v := ?_) (by simp only [List.getElem?_toArray, List.getElem?_cons_zero, List.getElem?_cons_succ]; rfl) (by kernel_rfl) (by kernel_rfl) (by kernel_rfl) (fun _ _ _ h => h) (Or.inl ⟨by rfl, ?_⟩) (by assumption) ?_; rotate_left; (· (intro w hSw; (try dsimp only at hSw); go_simp <;> with_reducible rfl)); try simp only [Act.put, List.setIfInBounds_toArray, List.set_cons_zero, List.set_cons_succ])
        (refine wpAnyH_take (i := 17) (v := ?_) (by simp only [List.getElem?_toArray, List.getElem?_cons_zero, List.getElem?_cons_succ]; rfl) (by kernel_rfl) (by kernel_rfl) (by kernel_rfl) (fun _ _ _ h => h) (Or.inl ⟨by rfl, ?_⟩) (by assumption) ?_; rotate_left; (· (intro w hSw; (try dsimp only at hSw); go_simp <;> with_reducible rfl)); try simp only [Act.put, List.setIfInBounds_toArray, List.set_cons_zero, List.set_cons_succ])
        (refine wpAnyH_take (i := 18) (v := ?_) (by simp only [List.getElem?_toArray, List.getElem?_cons_zero, List.getElem?_cons_succ]; rfl) (by kernel_rfl) (by kernel_rfl) (by kernel_rfl) (fun _ _ _ h => h) (Or.inl ⟨by rfl, ?_⟩) (by assumption) ?_; rotate_left; (· (intro w hSw; (try dsimp only at hSw); go_simp <;> with_reducible rfl)); try simp only [Act.put, List.setIfInBounds_toArray, List.set_cons_zero, List.set_cons_succ])
        (refine wpAnyH_take (i := 19) (v := ?_) (by simp only [List.getElem?_toArray, List.getElem?_cons_zero, List.getElem?_cons_succ]; rfl) (by kernel_rfl) (by kernel_rfl) (by kernel_rfl) (fun _ _ _ h => h) (Or.inl ⟨by rfl, ?_⟩) (by assumption) ?_; rotate_left; (· (intro w hSw; (try dsimp only at hSw); go_simp <;> with_reducible rfl)); try simp only [Act.put, List.setIfInBounds_toArray, List.set_cons_zero, List.set_cons_succ])
        (refine wpAnyH_take (i := 20) (v := ?_) (by simp only [List.getElem?_toArray, List.getElem?_cons_zero, List.getElem?_cons_succ]; rfl) (by kernel_rfl) (by kernel_rfl) (by kernel_rfl) (fun _ _ _ h => h) (Or.inl ⟨by rfl, ?_⟩) (by assumption) ?_; rotate_left; (· (intro w hSw; (try dsimp only at hSw); go_simp <;> with_reducible rfl)); try simp only [Act.put, List.setIfInBounds_toArray, List.set_cons_zero, List.set_cons_succ])
        (refine wpAnyH_take (i := 21) (v := ?_) (by simp only [List.getElem?_toArray, List.getElem?_cons_zero, List.getElem?_cons_succ]; rfl) (by kernel_rfl) (by kernel_rfl) (by kernel_rfl) (fun _ _ _ h => h) (Or.inl ⟨by rfl, ?_⟩) (by assumption) ?_; rotate_left; (· (intro w hSw; (try dsimp only at hSw); go_simp <;> with_reducible rfl)); try simp only [Act.put, List.setIfInBounds_toArray, List.set_cons_zero, List.set_cons_succ])
        (refine wpAnyH_take (i := 22) (v := ?_) (by simp only [List.getElem?_toArray, List.getElem?_cons_zero, List.getElem?_cons_succ]; rfl) (by kernel_rfl) (by kernel_rfl) (by kernel_rfl) (fun _ _ _ h => h) (Or.inl ⟨by rfl, ?_⟩) (by assumption) ?_; rotate_left; (· (intro w hSw; (try dsimp only at hSw); go_simp <;> with_reducible rfl)); try simp only [Act.put, List.setIfInBounds_toArray, List.set_cons_zero, List.set_cons_succ])
        (refine wpAnyH_take (i := 23) (v := ?_) (by simp only [List.getElem?_toArray, List.getElem?_cons_zero, List.getElem?_cons_succ]; rfl) (by kernel_rfl) (by kernel_rfl) (by kernel_rfl) (fun _ _ _ h => h) (Or.inl ⟨by rfl, ?_⟩) (by assumption) ?_; rotate_left; (· (intro w hSw; (try dsimp only at hSw); go_simp <;> with_reducible rfl)); try simp only [Act.put, List.setIfInBounds_toArray, List.set_cons_zero, List.set_cons_succ])
        (refine wpAnyH_take (i := 24) (v := ?_) (by simp only [List.getElem?_toArray, List.getElem?_cons_zero, List.getElem?_cons_succ]; rfl) (by kernel_rfl) (by kernel_rfl) (by kernel_rfl) (fun _ _ _ h => h) (Or.inl ⟨by rfl, ?_⟩) (by assumption) ?_; rotate_left; (· (intro w hSw; (try dsimp only at hSw); go_simp <;> with_reducible rfl)); try simp only [Act.put, List.setIfInBounds_toArray, List.set_cons_zero, List.set_cons_succ])
        (refine wpAnyH_take (i := 25) (v := ?_) (by simp only [List.getElem?_toArray, List.getElem?_cons_zero, List.getElem?_cons_succ]; rfl) (by kernel_rfl) (by kernel_rfl) (by kernel_rfl) (fun _ _ _ h => h) (Or.inl ⟨by rfl, ?_⟩) (by assumption) ?_; rotate_left; (· (intro w hSw; (try dsimp only at hSw); go_simp <;> with_reducible rfl)); try simp only [Act.put, List.setIfInBounds_toArray, List.set_cons_zero, List.set_cons_succ])
        (refine wpAnyH_take (i := 26) (v := ?_) (by simp only [List.getElem?_toArray, List.getElem?_cons_zero, List.getElem?_cons_succ]; rfl) (by kernel_rfl) (by kernel_rfl) (by kernel_rfl) (fun _ _ _ h => h) (Or.inl ⟨by rfl, ?_⟩) (by assumption) ?_; rotate_left; (· (intro w hSw; (try dsimp only at hSw); go_simp <;> with_reducible rfl)); try simp only [Act.put, List.setIfInBounds_toArray, List.set_cons_zero, List.set_cons_succ])
        (refine wpAnyH_take (i := 27) (v := ?_) (by simp only [List.getElem?_toArray, List.getElem?_cons_zero, List.getElem?_cons_succ]; rfl) (by kernel_rfl) (by kernel_rfl) (by kernel_rfl) (fun _ _ _ h => h) (Or.inl ⟨by rfl, ?_⟩) (by assumption) ?_; rotate_left; (· (intro w hSw; (try dsimp only at hSw); go_simp <;> with_reducible rfl)); try simp only [Act.put, List.setIfInBounds_toArray, List.set_cons_zero, List.set_cons_succ])
        (refine wpAnyH_take (i := 28) (v := ?_) (by simp only [List.getElem?_toArray, List.getElem?_cons_zero, List.getElem?_cons_succ]; rfl) (by kernel_rfl) (by kernel_rfl) (by kernel_rfl) (fun _ _ _ h => h) (Or.inl ⟨by rfl, ?_⟩) (by assumption) ?_; rotate_left; (· (intro w hSw; (try dsimp only at hSw); go_simp <;> with_reducible rfl)); try simp only [Act.put, List.setIfInBounds_toArray, List.set_cons_zero, List.set_cons_succ])
        (refine wpAnyH_take (i := 29) (v := ?_) (by simp only [List.getElem?_toArray, List.getElem?_cons_zero, List.getElem?_cons_succ]; rfl) (by kernel_rfl) (by kernel_rfl) (by kernel_rfl) (fun _ _ _ h => h) (Or.inl ⟨by rfl, ?_⟩) (by assumption) ?_; rotate_left; (· (intro w hSw; (try dsimp only at hSw); go_simp <;> with_reducible rfl)); try simp only [Act.put, List.setIfInBounds_toArray, List.set_cons_zero, List.set_cons_succ])
        (refine wpAnyH_take (i := 30) (v := ?_) (by simp only [List.getElem?_toArray, List.getElem?_cons_zero, List.getElem?_cons_succ]; rfl) (by kernel_rfl) (by kernel_rfl) (by kernel_rfl) (fun _ _ _ h => h) (Or.inl ⟨by rfl, ?_⟩) (by assumption) ?_; rotate_left; (· (intro w hSw; (try dsimp only at hSw); go_simp <;> with_reducible rfl)); try simp only [Act.put, List.setIfInBounds_toArray, List.set_cons_zero, List.set_cons_succ])
        (refine wpAnyH_take (i := 31) (v := ?_) (by simp only [List.getElem?_toArray, List.getElem?_cons_zero, List.getElem?_cons_succ]; rfl) (by kernel_rfl) (by kernel_rfl) (by kernel_rfl) (fun _ _ _ h => h) (Or.inl ⟨by rfl, ?_⟩) (by assumption) ?_; rotate_left; (· (intro w hSw; (try dsimp only at hSw); go_simp <;> with_reducible rfl)); try simp only [Act.put, List.setIfInBounds_toArray, List.set_cons_zero, List.set_cons_succ])
        (refine wpAnyH_take (i := 32) (v := ?_) (by simp only [List.getElem?_toArray, List.getElem?_cons_zero, List.getElem?_cons_succ]; rfl) (by kernel_rfl) (by kernel_rfl) (by kernel_rfl) (fun _ _ _ h => h) (Or.inl ⟨by rfl, ?_⟩) (by assumption) ?_; rotate_left; (· (intro w hSw; (try dsimp only at hSw); go_simp <;> with_reducible rfl)); try simp only [Act.put, List.setIfInBounds_toArray, List.set_cons_zero, List.set_cons_succ])
        (refine wpAnyH_take (i := 33) (v := ?_) (by simp only [List.getElem?_toArray, List.getElem?_cons_zero, List.getElem?_cons_succ]; rfl) (by kernel_rfl) (by kernel_rfl) (by kernel_rfl) (fun _ _ _ h => h) (Or.inl ⟨by rfl, ?_⟩) (by assumption) ?_; rotate_left; (· (intro w hSw; (try dsimp only at hSw); go_simp <;> with_reducible rfl)); try simp only [Act.put, List.setIfInBounds_toArray, List.set_cons_zero, List.set_cons_succ])
        (refine wpAnyH_take (i := 34) (v := .bool false) (by simp only [List.getElem?_toArray, List.getElem?_cons_zero, List.getElem?_cons_succ]; rfl) (by kernel_rfl) (by kernel_rfl) (by kernel_rfl) (fun _ _ _ h => h) (Or.inl ⟨by rfl, ?_⟩) (by assumption) ?_; (· (intro w hSw; (try dsimp only at hSw); go_simp <;> first | with_reducible rfl | simp [hd])); try simp only [Act.put, List.setIfInBounds_toArray, List.set_cons_zero, List.set_cons_succ])
        (refine wpAnyH_take (i := 35) (v := ?_) (by simp only [List.getElem?_toArray, List.getElem?_cons_zero, List.getElem?_cons_succ]; rfl) (by kernel_rfl) (by kernel_rfl) (by kernel_rfl) (fun _ _ _ h => h) (Or.inl ⟨by rfl, ?_⟩) (by assumption) ?_; rotate_left; (· (intro w hSw; (try dsimp only at hSw); go_simp <;> with_reducible rfl)); try simp only [Act.put, List.setIfInBounds_toArray, List.set_cons_zero, List.set_cons_succ])
        (refine wpAnyH_take (i := 36) (v := undef) (by simp only [List.getElem?_toArray, List.getElem?_cons_zero, List.getElem?_cons_succ]; rfl) (by kernel_rfl) (by kernel_rfl) (by kernel_rfl) (fun _ _ _ h => h) (Or.inr ⟨by rfl, rfl⟩) (by assumption) ?_; try simp only [Act.put, List.setIfInBounds_toArray, List.set_cons_zero, List.set_cons_succ])
        (refine wpAnyH_take (i := 37) (v := undef) (by simp only [List.getElem?_toArray, List.getElem?_cons_zero, List.getElem?_cons_succ]; rfl) (by kernel_rfl) (by kernel_rfl) (by kernel_rfl) (fun _ _ _ h => h) (Or.inr ⟨by rfl, rfl⟩) (by assumption) ?_; try simp only [Act.put, List.setIfInBounds_toArray, List.set_cons_zero, List.set_cons_succ])
        (refine wpAnyH_take (i := 38) (v := undef) (by simp only [List.getElem?_toArray, List.getElem?_cons_zero, List.getElem?_cons_succ]; rfl) (by kernel_rfl) (by kernel_rfl) (by kernel_rfl) (fun _ _ _ h => h) (Or.inr ⟨by rfl, rfl⟩) (by assumption) ?_; try simp only [Act.put, List.setIfInBounds_toArray, List.set_cons_zero, List.set_cons_succ])
        (refine wpAnyH_take (i := 39) (v := undef) (by simp only [List.getElem?_toArray, List.getElem?_cons_zero, List.getElem?_cons_succ]; rfl) (by kernel_rfl) (by kernel_rfl) (by kernel_rfl) (fun _ _ _ h => h) (Or.inr ⟨by rfl, rfl⟩) (by assumption) ?_; try simp only [Act.put, List.setIfInBounds_toArray, List.set_cons_zero, List.set_cons_succ])
        (refine wpAnyH_take (i := 40) (v := undef) (by simp only [List.getElem?_toArray, List.getElem?_cons_zero, List.getElem?_cons_succ]; rfl) (by kernel_rfl) (by kernel_rfl) (by kernel_rfl) (fun _ _ _ h => h) (Or.inr ⟨by rfl, rfl⟩) (by assumption) ?_; try simp only [Act.put, List.setIfInBounds_toArray, List.set_cons_zero, List.set_cons_succ])
        (refine wpAnyH_take (i := 41) (v := undef) (by simp only [List.getElem?_toArray, List.getElem?_cons_zero, List.getElem?_cons_succ]; rfl) (by kernel_rfl) (by kernel_rfl) (by kernel_rfl) (fun _ _ _ h => h) (Or.inr ⟨by rfl, rfl⟩) (by assumption) ?_; try simp only [Act.put, List.setIfInBounds_toArray, List.set_cons_zero, List.set_cons_succ])
        (refine wpAnyH_take (i := 42) (v := undef) (by simp only [List.getElem?_toArray, List.getElem?_cons_zero, List.getElem?_cons_succ]; rfl) (by kernel_rfl) (by kernel_rfl) (by kernel_rfl) (fun _ _ _ h => h) (Or.inr ⟨by rfl, rfl⟩) (by assumption) ?_; try simp only [Act.put, List.setIfInBounds_toArray, List.set_cons_zero, List.set_cons_succ])
        (refine wpAnyH_take (i := 43) (v := undef) (by simp only [List.getElem?_toArray, List.getElem?_cons_zero, List.getElem?_cons_succ]; rfl) (by kernel_rfl) (by kernel_rfl) (by kernel_rfl) (fun _ _ _ h => h) (Or.inr ⟨by rfl, rfl⟩) (by assumption) ?_; try simp only [Act.put, List.setIfInBounds_toArray, List.set_cons_zero, List.set_cons_succ])
        (refine wpAnyH_take (i := 44) (v := undef) (by simp only [List.getElem?_toArray, List.getElem?_cons_zero, List.getElem?_cons_succ]; rfl) (by kernel_rfl) (by kernel_rfl) (by kernel_rfl) (fun _ _ _ h => h) (Or.inr ⟨by rfl, rfl⟩) (by assumption) ?_; try simp only [Act.put, List.setIfInBounds_toArray, List.set_cons_zero, List.set_cons_succ])
        (refine wpAnyH_take (i := 45) (v := undef) (by simp only [List.getElem?_toArray, List.getElem?_cons_zero, List.getElem?_cons_succ]; rfl) (by kernel_rfl) (by kernel_rfl) (by kernel_rfl) (fun _ _ _ h => h) (Or.inr ⟨by rfl, rfl⟩) (by assumption) ?_; try simp only [Act.put, List.setIfInBounds_toArray, List.set_cons_zero, List.set_cons_succ])
        (refine wpAnyH_take (i := 46) (v := undef) (by simp only [List.getElem?_toArray, List.getElem?_cons_zero, List.getElem?_cons_succ]; rfl) (by kernel_rfl) (by kernel_rfl) (by kernel_rfl) (fun _ _ _ h => h) (Or.inr ⟨by rfl, rfl⟩) (by assumption) ?_; try simp only [Act.put, List.setIfInBounds_toArray, List.set_cons_zero, List.set_cons_succ])
        (refine wpAnyH_take (i := 47) (v := undef) (by simp only [List.getElem?_toArray, List.getElem?_cons_zero, List.getElem?_cons_succ]; rfl) (by kernel_rfl) (by kernel_rfl) (by kernel_rfl) (fun _ _ _ h => h) (Or.inr ⟨by rfl, rfl⟩) (by assumption) ?_; try simp only [Act.put, List.setIfInBounds_toArray, List.set_cons_zero, List.set_cons_succ])
        (refine wpAnyH_take (i := 48) (v := undef) (by simp only [List.getElem?_toArray, List.getElem?_cons_zero, List.getElem?_cons_succ]; rfl) (by kernel_rfl) (by kernel_rfl) (by kernel_rfl) (fun _ _ _ h => h) (Or.inr ⟨by rfl, rfl⟩) (by assumption) ?_; try simp only [Act.put, List.setIfInBounds_toArray, List.set_cons_zero, List.set_cons_succ])
        (refine wpAnyH_take (i := 49) (v := undef) (by simp only [List.getElem?_toArray, List.getElem?_cons_zero, List.getElem?_cons_succ]; rfl) (by kernel_rfl) (by kernel_rfl) (by kernel_rfl) (fun _ _ _ h => h) (Or.inr ⟨by rfl, rfl⟩) (by assumption) ?_; try simp only [Act.put, List.setIfInBounds_toArray, List.set_cons_zero, List.set_cons_succ])
        (refine wpAnyH_take (i := 50) (v := undef) (by simp only [List.getElem?_toArray, List.getElem?_cons_zero, List.getElem?_cons_succ]; rfl) (by kernel_rfl) (by kernel_rfl) (by kernel_rfl) (fun _ _ _ h => h) (Or.inr ⟨by rfl, rfl⟩) (by assumption) ?_; try simp only [Act.put, List.setIfInBounds_toArray, List.set_cons_zero, List.set_cons_succ])
        (refine wpAnyH_take (i := 51) (v := undef) (by simp only [List.getElem?_toArray, List.getElem?_cons_zero, List.getElem?_cons_succ]; rfl) (by kernel_rfl) (by kernel_rfl) (by kernel_rfl) (fun _ _ _ h => h) (Or.inr ⟨by rfl, rfl⟩) (by assumption) ?_; try simp only [Act.put, List.setIfInBounds_toArray, List.set_cons_zero, List.set_cons_succ])
        (refine wpAnyH_take (i := 52) (v := undef) (by simp only [List.getElem?_toArray, List.getElem?_cons_zero, List.getElem?_cons_succ]; rfl) (by kernel_rfl) (by kernel_rfl) (by kernel_rfl) (fun _ _ _ h => h) (Or.inr ⟨by rfl, rfl⟩) (by assumption) ?_; try simp only [Act.put, List.setIfInBounds_toArray, List.set_cons_zero, List.set_cons_succ])
        (refine wpAnyH_take (i := 53) (v := ?_) (by simp only [List.getElem?_toArray, List.getElem?_cons_zero, List.getElem?_cons_succ]; rfl) (by kernel_rfl) (by kernel_rfl) (by kernel_rfl) (fun _ _ _ h => h) (Or.inl ⟨by rfl, ?_⟩) (by assumption) ?_; rotate_left; (· (intro w hSw; (try dsimp only at hSw); go_simp <;> with_reducible rfl)); try simp only [Act.put, List.setIfInBounds_toArray, List.set_cons_zero, List.set_cons_succ])
        (refine wpAnyH_take (i := 54) (v := ?_) (by simp only [List.getElem?_toArray, List.getElem?_cons_zero, List.getElem?_cons_succ]; rfl) (by kernel_rfl) (by kernel_rfl) (by kernel_rfl) (fun _ _ _ h => h) (Or.inl ⟨by rfl, ?_⟩) (by assumption) ?_; rotate_left; (· (intro w hSw; (try dsimp only at hSw); go_simp <;> with_reducible rfl)); try simp only [Act.put, List.setIfInBounds_toArray, List.set_cons_zero, List.set_cons_succ])
        refine wpAnyH_done (by kernel_rfl) ?_ _
        refine NoPanic.normal ?_
        clear hHeld HCL
        have HE : Hid (Below w2.heap.size w2 wr.drew) := HJ.out.drew
        go_wp2_with fail
        go_roundw
        case rel => exact ⟨q, by have := HJQ.out; omega, by go_num, HE⟩
        case measure => have := HJQ.out; simp [intOf]; omega
    · have hltI : ¬ (j : Int) + 1 < (k : Int) := by omega
      go_wp2_with fail
      refine (h10 wr (HV.out.2.2.2.below ((HB.out.2.2.2.2.2.trans (HC.out.1.bel.mono HB.out.2.2.2.2.2.size)).trans (HJ.out.mono (Nat.le_trans HB.out.2.2.2.2.2.size HC.out.1.bel.size))))).mono ?_
      rintro e w4 ⟨rfl, hw4⟩
      have H4 : Hid (Below w1.heap.size w1 w4 ∧ Below w.heap.size w w1) := ⟨(HC.out.1.bel.trans (HJ.out.mono HC.out.1.bel.size)).trans (hw4.mono (Nat.le_trans HC.out.1.bel.size HJ.out.size)), HB.out.2.2.2.2.2⟩
      clear hw4
      have H12 : Calls Tryd.prog 12 #[.pointer (some ⟨hb, 0, none⟩)] w4 fun e w' => ∃ (aW : Option Addr) (kW cW : Nat), e = .returned (.slice aW kW cW) ∧ Hid (k ≤ kW + 1 ∧ kW ≤ 3518437208780 ∧ Below w4.heap.size w4 w') := by
        obtain ⟨h1, h2, h3, h4, h5, h6⟩ := HB.out
        have := HN.out
        refine (h12b m hb M nn D w4 (h1.below H4.out.1) (by omega) h2 (fun x l hl => (h3 x l hl).1)).mono ?_
        rintro e w' ⟨aW, kW, cW, rfl, bsW, k1, k2, k3, k4, k5⟩
        have e1 := k2.len
        have e2 : bsW.length = m.length := by
          have := congrArg List.length k1
          simpa [hpOf] using this
        have e3 := HC.out.1.len
        have e4 := HC.out.2
        exact ⟨aW, kW, cW, rfl, by omega, by omega, k5⟩
      go_wp2_with fail
      refine H12.mono ?_
      rintro e w5 ⟨aW, kW, cW, rfl, H5⟩
      clear H12
      have hkW : (k : Int) ≤ (kW : Int) + 1 := by have := H5.out; omega
      have hkW2 : kW ≤ 3518437208780 := H5.out.2.1
      have HE : Hid (Below w.heap.size w w5) := by
        obtain ⟨g1, g2⟩ := H4.out
        exact (g2.trans (g1.mono g2.size)).trans (H5.out.2.2.mono (Nat.le_trans g2.size g1.size))
      go_wp2_with fail
      all_goals go_ret
      all_goals exact ⟨by have h := HKT.out; simp [h], HE.out⟩
/-- A term whose cells may be written. -/
def Wv (B : Nat) (u : World) (a : Option Addr) (n : Nat) : Prop := n = 0 ∨ ∃ g o cur, a = some ⟨g, o, none⟩ ∧ B ≤ g ∧ u.heap[g]? = some (.cells cur 35 (0, 0)) ∧ o + n * 5 ≤ cur.size
theorem Wv.set {B : Nat} {u : World} {a : Option Addr} {n : Nat} (h : Wv B u a n) (b j : Nat) (v : Value) : Wv B (u.setCell ⟨b, j, none⟩ v) a n := by
  rcases h with e | ⟨g, o, cur, e, h0, h1, h2⟩
  · exact .inl e
  · by_cases hb : b = g
    · subst hb
      exact .inr ⟨b, o, _, e, h0, heap_setCell_same u b j _ _ v h1, by simpa using h2⟩
    · exact .inr ⟨g, o, cur, e, h0, by rw [heap_setCell_other u ⟨b, j, none⟩ g v (Ne.symm hb)]; exact h1, h2⟩
theorem Wv.below {B : Nat} {u u' : World} {a : Option Addr} {n : Nat} (h : Wv B u a n) (hb : Below u.heap.size u u') : Wv B u' a n := by
  rcases h with e | ⟨g, o, cur, e, h0, h1, h2⟩
  · exact .inl e
  · exact .inr ⟨g, o, cur, e, h0, (hb.block g (Array.getElem?_eq_some_iff.1 h1).1).trans h1, h2⟩
theorem Wv.at {B : Nat} {u : World} {a : Option Addr} {n : Nat} (h : Wv B u a n) {k : Nat} (hk : k < n) : ∃ g o v, a = some ⟨g, o, none⟩ ∧ B ≤ g ∧ (∃ cu : Array Value, u.heap[g]? = some (.cells cu 35 (0, 0))) ∧ u.cell? ⟨g, o + k * 5 + 2, none⟩ = some v ∧ u.frozen? ⟨g, o + k * 5 + 2, none⟩ = false := by
  rcases h with e | ⟨g, o, cur, e, h0, h1, h2⟩
  · omega
  · have hj : o + k * 5 + 2 < cur.size := by omega
    refine ⟨g, o, cur[o + k * 5 + 2], e, h0, ⟨cur, h1⟩, ?_, frozen_of_row u g _ _ _ h1⟩
    rw [cell_of_row u g _ _ _ (0, 0) h1, Array.getElem?_eq_getElem hj]
theorem flat_len : ∀ l : List C, (flat l).length = l.length * 5
  | [] => rfl
  | c :: r => by
    have := flat_len r
    simp only [flat, List.flatMap_cons, List.length_append, List.length_cons] at this ⊢
    rw [this]
    simp [C.vals]
    omega
theorem wv_of {B : Nat} {u : World} {a : Option Addr} {n c : Nat} {l : List C} (h : TermAt u (.slice a n c) l) (hg : ∀ g, (Value.slice a n c).ownBlock = some g → B ≤ g ∧ ∃ cu : Array Value, u.heap[g]? = some (.cells cu 35 (0, 0))) : Wv B u a n := by
  by_cases hn : n = 0
  · exact .inl hn
  obtain ⟨_, ⟨rfl, ad, e⟩ | ⟨b, o, cap, e, _, _, hr, hb⟩⟩ := h
  · cases e
    exact absurd rfl hn
  · simp only [Value.slice.injEq] at e
    obtain ⟨rfl, rfl, rfl⟩ := e
    obtain ⟨k1, cu, k2⟩ := hg b rfl
    refine .inr ⟨b, o, cu, rfl, k1, k2, ?_⟩
    have hl := flat_len l
    obtain ⟨z, hz⟩ : ∃ z, (flat l)[l.length * 5 - 1]? = some z := ⟨_, List.getElem?_eq_getElem (by omega)⟩
    have h2 := hr _ _ hz
    rw [cell_of_row u b _ _ _ (0, 0) k2] at h2
    have := (Array.getElem?_eq_some_iff.1 h2).1
    omega
set_option maxRecDepth 100000 in
set_option maxHeartbeats 4000000 in
theorem i14o (m : Hp) (hb M n : Nat) (D : DataW Value) (x : Nm) (l : List C) (w : World) (hH : HpAt w hb M n D m) (hx : wfN x) (hl : lookH m x = some l) (hby : l.length * 48 ≤ 140737488355328) :
    Calls Tryd.prog 14 #[.pointer (some ⟨hb, 0, none⟩), .agg #[.int .i64 x.1, .int .i64 x.2]] w fun e w' => ∃ a c, e = .returned (.tuple #[.slice a l.length c, .bool true]) ∧ Hid (Cl w.heap.size w' (.slice a l.length c) l ∧ Below w.heap.size w w') := by
  obtain ⟨W, hW⟩ : ∃ W, w.alloc (.cells #[.int .i64 x.1, .int .i64 x.2] 33) = W := ⟨_, rfl⟩
  obtain ⟨vb, hvb⟩ : ∃ vb, w.heap.size = vb := ⟨_, rfl⟩
  have hbW : Below w.heap.size w W := by rw [← hW]; exact (Below.refl _ w).alloc (Nat.le_refl _) _
  have hc : W.heap[vb]? = some (.cells #[.int .i64 x.1, .int .i64 x.2] 33 (0, 0)) := by rw [← hW, ← hvb]; exact heap_alloc_new w _
  obtain ⟨v0, v1⟩ := box_cells hc
  have hvl : vb < W.heap.size := (Array.getElem?_eq_some_iff.1 hc).1
  have H30 : Calls Tryd.prog 30 #[.pointer (some ⟨hb, 0, none⟩), .agg #[.int .i64 x.1, .int .i64 x.2]] W fun e w' => e = .returned (.bool true) ∧ Hid (Below W.heap.size W w') := by
    refine (h21 m hb M n D x W (hH.below hbW) hx).mono ?_
    rintro e w' ⟨rfl, hb'⟩
    exact ⟨by rw [hl]; rfl, hb'⟩
  have HH : Hid (∀ u, Below W.heap.size W u → u.cell? ⟨hb, 0, none⟩ = some (.map (some M)) ∧ u.cell? ⟨vb, 0, none⟩ = some (.int .i64 x.1) ∧ u.cell? ⟨vb, 1, none⟩ = some (.int .i64 x.2) ∧ ∃ uv, (Instr.lookup 61 (.map (some M)) (.agg #[.int .i64 x.1, .int .i64 x.2]) false).run Tryd.prog u.drew = .ok uv u.drew ∧ Calls Tryd.prog 25 #[uv] u.drew fun e w' => ∃ a c, e = .returned (.slice a l.length c) ∧ Hid (Cl w.heap.size w' (.slice a l.length c) l ∧ Below w.heap.size w w')) := fun u hu => by
    have h1 := (hH.below hbW).below hu
    have h2 := box_cells ((hu.block vb hvl).trans hc)
    have hd : Below u.heap.size u u.drew := (Below.refl _ u).drew
    have hhas : Maps.has D (kLit x) = true := by
      obtain ⟨v, k1, _⟩ := hH.yes x l hx hl
      exact Maps.has_true_of_atKey k1
    obtain ⟨uv, l', k1, k2, k3⟩ := (h1.below hd).look1 x hx hhas
    rw [hl] at k2
    cases k2
    refine ⟨h1.cell, h2.1, h2.2, uv, k1, ?_⟩
    refine (i25 l uv u.drew k3 hby).mono ?_
    rintro e w' ⟨a, c, rfl, q1, q3⟩
    have hbu : Below w.heap.size w u.drew := (hbW.trans (hu.mono hbW.size)).drew
    exact ⟨a, c, rfl, q1.low hbu.size, hbu.trans (q3.mono hbu.size)⟩
  clear hH hl hbW hc hvl hx hby
  obtain ⟨x1, x2⟩ := x
  simp only at *
  go_enter Tryd.func14, Tryd.ntmps14
  go_wp2_with fail
  refine H30.mono ?_
  rintro e w1 ⟨rfl, HB1⟩
  clear H30 v0 v1
  obtain ⟨q0, v0, v1, uv, hlk, H25⟩ := HH.out w1 HB1.out
  go_wp2_with fail
  go_region_with (go_at_call 25; refine H25.mono ?_; rintro e w3 ⟨a3, c3, rfl, H3⟩)
  all_goals (
    go_wp2_with fail
    refine bodyPost_ret (v := .tuple #[.slice a3 l.length c3, .bool true]) (by simp [results, Tryd.results14, go_sem]) rfl ⟨a3, c3, rfl, H3⟩)
set_option maxRecDepth 100000 in
set_option maxHeartbeats 8000000 in
theorem i21 (a a' : Option Addr) (n c c' : Nat) (bs bs' : List Bn) (w : World) (h : Bs w a n bs) (h' : Bs w a' n bs') (ht : ∀ b ∈ bs, TermAt w b.v b.l) (ht' : ∀ b ∈ bs', TermAt w b.v b.l) (he : hpOf bs = hpOf bs') (hn : n ≤ 4000000000000) :
    Calls Tryd.prog 21 #[.slice a n c, .slice a' n c'] w fun e w' => e = .returned (.bool true) ∧ Below w.heap.size w w' := by
  have HH : Hid (Bs w a n bs ∧ Bs w a' n bs' ∧ (∀ b ∈ bs, TermAt w b.v b.l) ∧ (∀ b ∈ bs', TermAt w b.v b.l) ∧ hpOf bs = hpOf bs') := ⟨h, h', ht, ht', he⟩
  clear h h' ht ht' he
  go_enter Tryd.func21, Tryd.ntmps21
  go_wp2_with fail
  go_loopw [5] (fun i wr => ∃ k : Nat, k ≤ n ∧ i = .int .i64 k ∧ Hid (Below w.heap.size w wr)) (fun i _ => n - (intOf i).toNat)
  case atStart => exact ⟨0, Nat.zero_le _, rfl, Below.refl _ _⟩
  case round =>
    obtain ⟨k, hk, rfl, HK⟩ := hrel
    by_cases hlt : k < n
    · have hltI : (k : Int) < (n : Int) := by omega
      have hk0 : (0 : Int) ≤ (k : Int) := by omega
      obtain ⟨b, o, b', o', x1, x2, la, lc, la', lc', ll, rfl, rfl, HC, K15⟩ : ∃ b o b' o' x1 x2 la lc la' lc' ll, a = some ⟨b, o, none⟩ ∧ a' = some ⟨b', o', none⟩ ∧ Hid (∀ u, Below wr.heap.size wr u → (fun u => u.cell? ⟨b, o + k * 3, none⟩ = some (.int .i64 x1) ∧ u.cell? ⟨b, o + k * 3 + 1, none⟩ = some (.int .i64 x2) ∧ u.cell? ⟨b, o + k * 3 + 2, none⟩ = some (.slice la ll.length lc) ∧ u.cell? ⟨b', o' + k * 3, none⟩ = some (.int .i64 x1) ∧ u.cell? ⟨b', o' + k * 3 + 1, none⟩ = some (.int .i64 x2) ∧ u.cell? ⟨b', o' + k * 3 + 2, none⟩ = some (.slice la' ll.length lc')) u) ∧ Hid (∀ u, Below wr.heap.size wr u → Calls Tryd.prog 15 #[.slice la (List.length (α := C) ll) lc, .slice la' ll.length lc'] u fun e w' => e = .returned (.bool true) ∧ Hid (Below wr.heap.size wr w')) := by
        obtain ⟨h1, h2, h3, h4, h5⟩ := HH.out
        obtain ⟨b, o, hx, e1, hb, c0, c1, c2⟩ := h1.at hlt
        obtain ⟨b', o', hx', e1', hb', c0', c1', c2'⟩ := h2.at hlt
        have t1 := h3 _ (List.getElem_mem hx)
        have t2 := h4 _ (List.getElem_mem hx')
        have e2 : (bs[k].x, bs[k].l) = (bs'[k].x, bs'[k].l) := by
          have := congrArg (fun l => l[k]?) h5
          simpa [hpOf, hx, hx'] using this
        simp only [Prod.mk.injEq] at e2
        obtain ⟨fa, fc, f1⟩ := t1.form
        obtain ⟨fa', fc', f1'⟩ := t2.form
        have hbw := HK.out
        have n1 : bs[k].n = bs[k].l.length := by
          simp only [Bn.v, Value.slice.injEq] at f1
          exact f1.2.1
        have n2 : bs'[k].n = bs'[k].l.length := by
          simp only [Bn.v, Value.slice.injEq] at f1'
          exact f1'.2.1
        simp only [Bn.v] at t1 t2
        rw [n1] at c2 t1
        rw [← e2.1] at c0' c1'
        rw [n2, ← e2.2] at c2' t2
        refine ⟨b, o, b', o', bs[k].x.1, bs[k].x.2, bs[k].a, bs[k].c, bs'[k].a, bs'[k].c, bs[k].l, e1, e1', fun u hu => ?_, fun u hu => ?_⟩
        · have hw : Below w.heap.size w u := hbw.trans (hu.mono hbw.size)
          exact ⟨(hw.cell (p := ⟨b, o + k * 3, none⟩) hb).trans c0, (hw.cell (p := ⟨b, o + k * 3 + 1, none⟩) hb).trans c1, (hw.cell (p := ⟨b, o + k * 3 + 2, none⟩) hb).trans c2, (hw.cell (p := ⟨b', o' + k * 3, none⟩) hb').trans c0', (hw.cell (p := ⟨b', o' + k * 3 + 1, none⟩) hb').trans c1', (hw.cell (p := ⟨b', o' + k * 3 + 2, none⟩) hb').trans c2'⟩
        · have hw : Below w.heap.size w u := hbw.trans (hu.mono hbw.size)
          refine (c13 bs[k].l bs[k].l _ _ u (t1.below hw) (t2.below hw)).mono ?_
          rintro e w' ⟨rfl, hb2⟩
          exact ⟨by rw [eqT_refl], hu.trans (hb2.mono hu.size)⟩
      go_wp2_with fail
      refine wp_region_noPanic ?_
      refine wp_region_held_drew (S := fun u => u.cell? ⟨b, o + k * 3, none⟩ = some (.int .i64 x1) ∧ u.cell? ⟨b, o + k * 3 + 1, none⟩ = some (.int .i64 x2) ∧ u.cell? ⟨b, o + k * 3 + 2, none⟩ = some (.slice la ll.length lc) ∧ u.cell? ⟨b', o' + k * 3, none⟩ = some (.int .i64 x1) ∧ u.cell? ⟨b', o' + k * 3 + 1, none⟩ = some (.int .i64 x2) ∧ u.cell? ⟨b', o' + k * 3 + 2, none⟩ = some (.slice la' ll.length lc')) (by kernel_rfl) (HC.out _ (Below.refl _ _).drew) (fun hHeld => ?_)
      (refine wpAnyH_take (i := 0) (v := ?_) (by simp only [List.getElem?_toArray, List.getElem?_cons_zero]; rfl) (by kernel_rfl) (by kernel_rfl) (by kernel_rfl) (fun _ _ _ h => h) (Or.inl ⟨by rfl, ?_⟩) (by assumption) ?_; rotate_left; (· (intro w hSw; (try dsimp only at hSw); go_simp <;> with_reducible rfl)); try simp only [Act.put, List.setIfInBounds_toArray, List.set_cons_zero, List.set_cons_succ])
      (refine wpAnyH_take (i := 1) (v := ?_) (by simp only [List.getElem?_toArray, List.getElem?_cons_zero, List.getElem?_cons_succ]; rfl) (by kernel_rfl) (by kernel_rfl) (by kernel_rfl) (fun _ _ _ h => h) (Or.inl ⟨by rfl, ?_⟩) (by assumption) ?_; rotate_left; (· (intro w hSw; (try dsimp only at hSw); go_simp <;> with_reducible rfl)); try simp only [Act.put, List.setIfInBounds_toArray, List.set_cons_zero, List.set_cons_succ])
      (refine wpAnyH_take (i := 2) (v := ?_) (by simp only [List.getElem?_toArray, List.getElem?_cons_zero, List.getElem?_cons_succ]; rfl) (by kernel_rfl) (by kernel_rfl) (by kernel_rfl) (fun _ _ _ h => h) (Or.inl ⟨by rfl, ?_⟩) (by assumption) ?_; rotate_left; (· (intro w hSw; (try dsimp only at hSw); go_simp <;> with_reducible rfl)); try simp only [Act.put, List.setIfInBounds_toArray, List.set_cons_zero, List.set_cons_succ])
      (refine wpAnyH_take (i := 3) (v := ?_) (by simp only [List.getElem?_toArray, List.getElem?_cons_zero, List.getElem?_cons_succ]; rfl) (by kernel_rfl) (by kernel_rfl) (by kernel_rfl) (fun _ _ _ h => h) (Or.inl ⟨by rfl, ?_⟩) (by assumption) ?_; rotate_left; (· (intro w hSw; (try dsimp only at hSw); go_simp <;> with_reducible rfl)); try simp only [Act.put, List.setIfInBounds_toArray, List.set_cons_zero, List.set_cons_succ])
      (refine wpAnyH_take (i := 4) (v := ?_) (by simp only [List.getElem?_toArray, List.getElem?_cons_zero, List.getElem?_cons_succ]; rfl) (by kernel_rfl) (by kernel_rfl) (by kernel_rfl) (fun _ _ _ h => h) (Or.inl ⟨by rfl, ?_⟩) (by assumption) ?_; rotate_left; (· (intro w hSw; (try dsimp only at hSw); go_simp <;> with_reducible rfl)); try simp only [Act.put, List.setIfInBounds_toArray, List.set_cons_zero, List.set_cons_succ])
      (refine wpAnyH_take (i := 5) (v := ?_) (by simp only [List.getElem?_toArray, List.getElem?_cons_zero, List.getElem?_cons_succ]; rfl) (by kernel_rfl) (by kernel_rfl) (by kernel_rfl) (fun _ _ _ h => h) (Or.inl ⟨by rfl, ?_⟩) (by assumption) ?_; rotate_left; (· (intro w hSw; (try dsimp only at hSw); go_simp <;> with_reducible rfl)); try simp only [Act.put, List.setIfInBounds_toArray, List.set_cons_zero, List.set_cons_succ])
      (refine wpAnyH_take (i := 6) (v := ?_) (by simp only [List.getElem?_toArray, List.getElem?_cons_zero, List.getElem?_cons_succ]; rfl) (by kernel_rfl) (by kernel_rfl) (by kernel_rfl) (fun _ _ _ h => h) (Or.inl ⟨by rfl, ?_⟩) (by assumption) ?_; rotate_left; (· (intro w hSw; (try dsimp only at hSw); go_simp <;> with_reducible rfl)); try simp only [Act.put, List.setIfInBounds_toArray, List.set_cons_zero, List.set_cons_succ])
      (refine wpAnyH_take (i := 7) (v := ?_) (by simp only [List.getElem?_toArray, List.getElem?_cons_zero, List.getElem?_cons_succ]; rfl) (by kernel_rfl) (by kernel_rfl) (by kernel_rfl) (fun _ _ _ h => h) (Or.inl ⟨by rfl, ?_⟩) (by assumption) ?_; rotate_left; (· (intro w hSw; (try dsimp only at hSw); go_simp <;> with_reducible rfl)); try simp only [Act.put, List.setIfInBounds_toArray, List.set_cons_zero, List.set_cons_succ])
      (refine wpAnyH_take (i := 8) (v := ?_) (by simp only [List.getElem?_toArray, List.getElem?_cons_zero, List.getElem?_cons_succ]; rfl) (by kernel_rfl) (by kernel_rfl) (by kernel_rfl) (fun _ _ _ h => h) (Or.inl ⟨by rfl, ?_⟩) (by assumption) ?_; rotate_left; (· (intro w hSw; (try dsimp only at hSw); go_simp <;> with_reducible rfl)); try simp only [Act.put, List.setIfInBounds_toArray, List.set_cons_zero, List.set_cons_succ])
      (refine wpAnyH_take (i := 9) (v := ?_) (by simp only [List.getElem?_toArray, List.getElem?_cons_zero, List.getElem?_cons_succ]; rfl) (by kernel_rfl) (by kernel_rfl) (by kernel_rfl) (fun _ _ _ h => h) (Or.inl ⟨by rfl, ?_⟩) (by assumption) ?_; rotate_left; (· (intro w hSw; (try dsimp only at hSw); go_simp <;> with_reducible rfl)); try simp only [Act.put, List.setIfInBounds_toArray, List.set_cons_zero, List.set_cons_succ])
      (refine wpAnyH_take (i := 10) (v := ?_) (by simp only [List.getElem?_toArray, List.getElem?_cons_zero, List.getElem?_cons_succ]; rfl) (by kernel_rfl) (by kernel_rfl) (by kernel_rfl) (fun _ _ _ h => h) (Or.inl ⟨by rfl, ?_⟩) (by assumption) ?_; rotate_left; (· (intro w hSw; (try dsimp only at hSw); go_simp <;> with_reducible rfl)); try simp only [Act.put, List.setIfInBounds_toArray, List.set_cons_zero, List.set_cons_succ])
      (refine wpAnyH_take (i := 11) (v := ?_) (by simp only [List.getElem?_toArray, List.getElem?_cons_zero, List.getElem?_cons_succ]; rfl) (by kernel_rfl) (by kernel_rfl) (by kernel_rfl) (fun _ _ _ h => h) (Or.inl ⟨by rfl, ?_⟩) (by assumption) ?_; rotate_left; (· (intro w hSw; (try dsimp only at hSw); go_simp <;> with_reducible rfl)); try simp only [Act.put, List.setIfInBounds_toArray, List.set_cons_zero, List.set_cons_succ])
      (refine wpAnyH_take (i := 12) (v := ?_) (by simp only [List.getElem?_toArray, List.getElem?_cons_zero, List.getElem?_cons_succ]; rfl) (by kernel_rfl) (by kernel_rfl) (by kernel_rfl) (fun _ _ _ h => h) (Or.inl ⟨by rfl, ?_⟩) (by assumption) ?_; rotate_left; (· (intro w hSw; (try dsimp only at hSw); go_simp <;> with_reducible rfl)); try simp only [Act.put, List.setIfInBounds_toArray, List.set_cons_zero, List.set_cons_succ])
      (refine wpAnyH_take (i := 13) (v := ?_) (by simp only [List.getElem?_toArray, List.getElem?_cons_zero, List.getElem?_cons_succ]; rfl) (by kernel_rfl) (by kernel_rfl) (by kernel_rfl) (fun _ _ _ h => h) (Or.inl ⟨by rfl, ?_⟩) (by assumption) ?_; rotate_left; (· (intro w hSw; (try dsimp only at hSw); go_simp <;> with_reducible rfl)); try simp only [Act.put, List.setIfInBounds_toArray, List.set_cons_zero, List.set_cons_succ])
      (refine wpAnyH_take (i := 14) (v := ?_) (by simp only [List.getElem?_toArray, List.getElem?_cons_zero, List.getElem?_cons_succ]; rfl) (by kernel_rfl) (by kernel_rfl) (by kernel_rfl) (fun _ _ _ h => h) (Or.inl ⟨by rfl, ?_⟩) (by assumption) ?_; rotate_left; (· (intro w hSw; (try dsimp only at hSw); go_simp <;> with_reducible rfl)); try simp only [Act.put, List.setIfInBounds_toArray, List.set_cons_zero, List.set_cons_succ])
      (refine wpAnyH_take (i := 15) (v := ?_) (by simp only [List.getElem?_toArray, List.getElem?_cons_zero, List.getElem?_cons_succ]; rfl) (by kernel_rfl) (by kernel_rfl) (by kernel_rfl) (fun _ _ _ h => h) (Or.inl ⟨by rfl, ?_⟩) (by assumption) ?_; rotate_left; (· (intro w hSw; (try dsimp only at hSw); go_simp <;> with_reducible rfl)); try simp only [Act.put, List.setIfInBounds_toArray, List.set_cons_zero, List.set_cons_succ])
      (refine wpAnyH_take (i := 16) (v := ?_) (by simp only [List.getElem?_toArray, List.getElem?_cons_zero, List.getElem?_cons_succ]; rfl) (by kernel_rfl) (by kernel_rfl) (by kernel_rfl) (fun _ _ _ h => h) (Or.inl ⟨by rfl, ?_⟩) (by assumption) ?_; rotate_left; (· (intro w hSw; (try dsimp only at hSw); go_simp <;> with_reducible rfl)); try simp only [Act.put, List.setIfInBounds_toArray, List.set_cons_zero, List.set_cons_succ])
      (refine wpAnyH_take (i := 17) (v := ?_) (by simp only [List.getElem?_toArray, List.getElem?_cons_zero, List.getElem?_cons_succ]; rfl) (by kernel_rfl) (by kernel_rfl) (by kernel_rfl) (fun _ _ _ h => h) (Or.inl ⟨by rfl, ?_⟩) (by assumption) ?_; rotate_left; (· (intro w hSw; (try dsimp only at hSw); go_simp <;> with_reducible rfl)); try simp only [Act.put, List.setIfInBounds_toArray, List.set_cons_zero, List.set_cons_succ])
      (refine wpAnyH_take (i := 18) (v := ?_) (by simp only [List.getElem?_toArray, List.getElem?_cons_zero, List.getElem?_cons_succ]; rfl) (by kernel_rfl) (by kernel_rfl) (by kernel_rfl) (fun _ _ _ h => h) (Or.inl ⟨by rfl, ?_⟩) (by assumption) ?_; rotate_left; (· (intro w hSw; (try dsimp only at hSw); go_simp <;> with_reducible rfl)); try simp only [Act.put, List.setIfInBounds_toArray, List.set_cons_zero, List.set_cons_succ])
      (refine wpAnyH_take (i := 19) (v := ?_) (by simp only [List.getElem?_toArray, List.getElem?_cons_zero, List.getElem?_cons_succ]; rfl) (by kernel_rfl) (by kernel_rfl) (by kernel_rfl) (fun _ _ _ h => h) (Or.inl ⟨by rfl, ?_⟩) (by assumption) ?_; rotate_left; (· (intro w hSw; (try dsimp only at hSw); go_simp <;> with_reducible rfl)); try simp only [Act.put, List.setIfInBounds_toArray, List.set_cons_zero, List.set_cons_succ])
      (refine wpAnyH_take (i := 20) (v := ?_) (by simp only [List.getElem?_toArray, List.getElem?_cons_zero, List.getElem?_cons_succ]; rfl) (by kernel_rfl) (by kernel_rfl) (by kernel_rfl) (fun _ _ _ h => h) (Or.inl ⟨by rfl, ?_⟩) (by assumption) ?_; rotate_left; (· (intro w hSw; (try dsimp only at hSw); go_simp <;> with_reducible rfl)); try simp only [Act.put, List.setIfInBounds_toArray, List.set_cons_zero, List.set_cons_succ])
      (refine wpAnyH_take (i := 21) (v := ?_) (by simp only [List.getElem?_toArray, List.getElem?_cons_zero, List.getElem?_cons_succ]; rfl) (by kernel_rfl) (by kernel_rfl) (by kernel_rfl) (fun _ _ _ h => h) (Or.inl ⟨by rfl, ?_⟩) (by assumption) ?_; rotate_left; (· (intro w hSw; (try dsimp only at hSw); go_simp <;> with_reducible rfl)); try simp only [Act.put, List.setIfInBounds_toArray, List.set_cons_zero, List.set_cons_succ])
      refine wpAnyH_ready (rs := [22]) (by kernel_rfl) (by simp) ?_
      refine AllReadyH.cons (by simp only [List.getElem?_toArray, List.getElem?_cons_zero, List.getElem?_cons_succ]; rfl) (fun K hK => ?_) AllReadyH.nil
      go_simp
      go_at_call 15
      refine (K15.out _ (by first | exact Below.refl _ _ | exact (Below.refl _ _).drew)).mono ?_
      rintro e w3 ⟨rfl, H3⟩
      refine hK.out _ _ ?_ (fun hHeld => ?_)
      · exact HC.out w3 H3.out
      clear hK K
      try simp only [Act.put, List.setIfInBounds_toArray, List.set_cons_zero, List.set_cons_succ]
      (refine wpAnyH_take (i := 23) (v := ?_) (by simp only [List.getElem?_toArray, List.getElem?_cons_zero, List.getElem?_cons_succ]; rfl) (by kernel_rfl) (by kernel_rfl) (by kernel_rfl) (fun _ _ _ h => h) (Or.inl ⟨by rfl, ?_⟩) (by assumption) ?_; rotate_left; (· (intro w hSw; (try dsimp only at hSw); go_simp <;> with_reducible rfl)); try simp only [Act.put, List.setIfInBounds_toArray, List.set_cons_zero, List.set_cons_succ])
      (refine wpAnyH_take (i := 24) (v := ?_) (by simp only [List.getElem?_toArray, List.getElem?_cons_zero, List.getElem?_cons_succ]; rfl) (by kernel_rfl) (by kernel_rfl) (by kernel_rfl) (fun _ _ _ h => h) (Or.inl ⟨by rfl, ?_⟩) (by assumption) ?_; rotate_left; (· (intro w hSw; (try dsimp only at hSw); go_simp <;> with_reducible rfl)); try simp only [Act.put, List.setIfInBounds_toArray, List.set_cons_zero, List.set_cons_succ])
      refine wpAnyH_done (by kernel_rfl) ?_ _
      refine NoPanic.normal ?_
      clear hHeld K15 HC
      have HE : Hid (Below w.heap.size w w3) := HK.out.trans (H3.out.mono HK.out.size)
      go_wp2_with fail
      go_roundw
      case rel => exact ⟨k + 1, by omega, by go_num, HE⟩
      case measure => simp [intOf]; omega
    · have hltI : ¬ (k : Int) < (n : Int) := by omega
      go_wp2_with fail
      go_ret
      exact ⟨rfl, HK.out⟩
/-- What Bindings told, while it is written over. -/
structure Ow (w1 u : World) (aW : Option Addr) (kW : Nat) (bsW : List Bn) : Prop where
  bel : Below w1.heap.size w1 u
  row : Bs u aW kW bsW
  blk : ∀ g, bkA aW = some g → ∃ cu : Array Value, u.heap[g]? = some (.cells cu 43 (0, 0))
  el : ∀ b ∈ bsW, Wv w1.heap.size u b.a b.n
theorem Ow.set {w1 u : World} {aW : Option Addr} {kW : Nat} {bsW : List Bn} (h : Ow w1 u aW kW bsW) {g : Nat} (hg : w1.heap.size ≤ g) (ht : ∃ cu : Array Value, u.heap[g]? = some (.cells cu 35 (0, 0))) (j : Nat) (v : Value) : Ow w1 (u.setCell ⟨g, j, none⟩ v) aW kW bsW := by
  have hne : ∀ g', bkA aW = some g' → g' ≠ g := fun g' hg' e => by
    subst e
    obtain ⟨cu, h1⟩ := h.blk g' hg'
    obtain ⟨cu', h2⟩ := ht
    rw [h1] at h2
    cases h2
  have hk : ∀ g', bkA aW = some g' → (u.setCell ⟨g, j, none⟩ v).heap[g']? = u.heap[g']? := fun g' hg' => heap_setCell_other u ⟨g, j, none⟩ g' v (hne g' hg')
  exact ⟨h.bel.setCell (p := ⟨g, j, none⟩) hg v, h.row.keeps hk, fun g' hg' => by rw [hk g' hg']; exact h.blk g' hg', fun b hb => (h.el b hb).set g j v⟩
/-- What Chain told, while it is written over. -/
structure Oc (w1 u : World) (la : Option Addr) (k : Nat) (vs : List Value) : Prop where
  bel : Below w1.heap.size w1 u
  len : vs.length = k
  row : k = 0 ∨ ∃ g o, la = some ⟨g, o, none⟩ ∧ (∃ cu : Array Value, u.heap[g]? = some (.cells cu 24 (0, 0))) ∧ u.rangeAt g o vs
  el : ∀ z ∈ vs, ∃ a n c, z = .slice a n c ∧ Wv w1.heap.size u a n ∧ n ≤ maxLen
theorem Oc.set {w1 u : World} {la : Option Addr} {k : Nat} {vs : List Value} (h : Oc w1 u la k vs) {g : Nat} (hg : w1.heap.size ≤ g) (ht : ∃ cu : Array Value, u.heap[g]? = some (.cells cu 35 (0, 0))) (j : Nat) (v : Value) : Oc w1 (u.setCell ⟨g, j, none⟩ v) la k vs := by
  refine ⟨h.bel.setCell (p := ⟨g, j, none⟩) hg v, h.len, ?_, fun z hz => ?_⟩
  · rcases h.row with e | ⟨g', o, e, ⟨cu, h1⟩, h2⟩
    · exact .inl e
    · have hne : g' ≠ g := fun e => by
        subst e
        obtain ⟨cu', h3⟩ := ht
        rw [h1] at h3
        cases h3
      have hk := heap_setCell_other u ⟨g, j, none⟩ g' v hne
      refine .inr ⟨g', o, e, ⟨cu, by rw [hk]; exact h1⟩, fun i z hz => ?_⟩
      rw [← h2 i z hz]
      unfold World.cell?
      simp only [hk]
  · obtain ⟨a, n, c, e, h1, h2⟩ := h.el z hz
    exact ⟨a, n, c, e, h1.set g j v, h2⟩
theorem Oc.at {w1 u : World} {la : Option Addr} {k : Nat} {vs : List Value} (h : Oc w1 u la k vs) {i : Nat} (hi : i < k) : ∃ g o a n c, la = some ⟨g, o, none⟩ ∧ n ≤ maxLen ∧ vs[i]? = some (.slice a n c) := by
  rcases h.row with e | ⟨g, o, e, _, h2⟩
  · omega
  · have hl := h.len
    have hz : vs[i]? = some vs[i] := List.getElem?_eq_getElem (by omega)
    obtain ⟨a, n, c, e2, h3, h4⟩ := h.el _ (List.mem_of_getElem? hz)
    exact ⟨g, o, a, n, c, e, h4, by rw [hz, e2]⟩
set_option maxRecDepth 100000 in
set_option maxHeartbeats 8000000 in
theorem i7 (a : Option Addr) (n c : Nat) (bs0 : List Bn) (t : List C) (v : Value) (w : World) (hA : BdRow w a n bs0) (hT : TermAt w v t) (hW : ∀ c ∈ t, wfN (c.vn, c.vk)) (hby : t.length * 48 ≤ 140737488355328) (hn : n ≤ 3518437208780) (hS : Signs w) :
    Calls Tryd.prog 7 #[.slice a n c, v] w fun e w' => e = .returned (.bool true) ∧ Below w.heap.size w w' := by
  obtain ⟨va, vc, hvf⟩ := hT.form
  subst hvf
  have HV : Hid (TermAt w (.slice va t.length vc) t ∧ (∀ c ∈ t, wfN (c.vn, c.vk)) ∧ t.length * 48 ≤ 140737488355328 ∧ Signs w) := ⟨hT, hW, hby, hS⟩
  have H8 : Calls Tryd.prog 8 #[.slice a n c] w fun e w' => ∃ hb M rt, e = .returned (.tuple #[.pointer (some ⟨hb, 0, none⟩), .pointer (some ⟨rt, 0, none⟩), .bool true]) ∧ Hid (BoTo w w' hb M rt n) := i8 a n c bs0 w hA hn hS
  have HN : Hid (n ≤ 3518437208780) := hn
  clear hA hT hW hS hn hby
  go_enter Tryd.func7, Tryd.ntmps7
  go_wp2_with fail
  refine H8.mono ?_
  rintro e w1 ⟨hb, M, rt, rfl, H1⟩
  clear H8
  obtain ⟨nn, D, m, V, G, bs, ra, rc, HB⟩ : ∃ nn D m V G bs ra rc, Hid (Bo w w1 hb M rt n nn D m V G bs ∧ w1.heap[rt]? = some (.cells #[.slice ra bs.length rc] 57 (0, 0)) ∧ Bs w1 ra bs.length bs ∧ ∀ g, bkA ra = some g → g < w1.heap.size) := by
    obtain ⟨nn, D, m, V, G, bs, hB⟩ := H1.out
    obtain ⟨ra, rc, h1, h2, h3⟩ := hB.rf.ex
    exact ⟨nn, D, m, V, G, bs, ra, rc, hB, h1, h2, fun g hg => hB.rf.lt g (h3 g hg)⟩
  clear H1
  have hbl : bs.length ≤ 3518437208780 := by
    have h1 := HB.out.1.nk.2
    have h2 := HN.out
    omega
  have H12 : Calls Tryd.prog 12 #[.pointer (some ⟨hb, 0, none⟩)] w1 fun e w' => ∃ (aW : Option Addr) (kW cW : Nat), e = .returned (.slice aW kW cW) ∧ Hid (∃ bsW, Ow w1 w' aW kW bsW ∧ kW ≤ 3518437208780 ∧ ∀ b ∈ bsW, b.n ≤ maxLen) := by
    obtain ⟨hB, _⟩ := HB.out
    have hnk := hB.nk
    have := HN.out
    refine (h12b m hb M nn D w1 hB.hp (by omega) hB.up (fun x l hl => (hB.len x l hl).1)).mono ?_
    rintro e w' ⟨aW, kW, cW, rfl, bsW, k1, k2, k3, k4, k5⟩
    have e1 := k2.len
    have e2 : bsW.length = bs.length := by
      have := congrArg List.length (k1.trans hB.eq.symm)
      simpa [hpOf] using this
    refine ⟨aW, kW, cW, rfl, bsW, ⟨k5, k2, fun g hg => (k3 g hg).2.2, fun b hb => wv_of (k4 b hb).1 (k4 b hb).2.2⟩, by omega, fun b hb => ?_⟩
    obtain ⟨fa, fc, f1⟩ := (k4 b hb).1.form
    have h3 := (k4 b hb).1.1.1
    simp only [Bn.v, Value.slice.injEq] at f1
    omega
  go_wp2_with fail
  refine H12.mono ?_
  rintro e w2 ⟨aW, kW, cW, rfl, H2⟩
  clear H12
  obtain ⟨bsW, H2'⟩ : ∃ bsW, Hid (Ow w1 w2 aW kW bsW ∧ kW ≤ 3518437208780 ∧ ∀ b ∈ bsW, b.n ≤ maxLen) := H2.out
  have hkW : kW ≤ 3518437208780 := H2'.out.2.1
  have HO0 : Hid (Ow w1 w2 aW kW bsW) := H2'.out.1
  have HNB : Hid (∀ b ∈ bsW, b.n ≤ maxLen) := H2'.out.2.2
  clear H2 H2'
  go_wp2_with fail
  go_loopw [9, 10] (fun i _ wr => ∃ j : Nat, j ≤ kW ∧ i = .int .i64 j ∧ Hid (Ow w1 wr aW kW bsW)) (fun i _ _ => kW - (intOf i).toNat)
  case atStart => exact ⟨0, Nat.zero_le _, rfl, HO0⟩
  case round =>
    clear HO0
    obtain ⟨j, hj, rfl, HJ⟩ := hrel
    by_cases hlt : j < kW
    · have hltI : (j : Int) < (kW : Int) := by omega
      have hj0 : (0 : Int) ≤ (j : Int) := by omega
      obtain ⟨bR, oR, fa, fn, fc, rfl, hfn, HF⟩ : ∃ bR oR fa fn fc, aW = some ⟨bR, oR, none⟩ ∧ fn ≤ maxLen ∧ Hid (∀ u, Ow w1 u aW kW bsW → u.cell? ⟨bR, oR + j * 3 + 2, none⟩ = some (.slice fa fn fc) ∧ Wv w1.heap.size u fa fn) := by
        obtain ⟨b, o, hx, e1, _⟩ := HJ.out.row.at hlt
        refine ⟨b, o, bsW[j].a, bsW[j].n, bsW[j].c, e1, HNB.out _ (List.getElem_mem hx), fun u hu => ?_⟩
        obtain ⟨b2, o2, hx2, e2, _, _, _, c2⟩ := hu.row.at hlt
        rw [e1] at e2
        cases e2
        exact ⟨c2, hu.el _ (List.getElem_mem hx)⟩
      have hfn2 : fn ≤ 9223372036854775807 := hfn
      clear hfn
      go_wp2_with fail
      go_loopw [10] (fun i wx => ∃ q : Nat, q ≤ fn ∧ i = .int .i64 q ∧ Hid (Ow w1 wx (some ⟨bR, oR, none⟩) kW bsW)) (fun i _ => fn - (intOf i).toNat)
      case atStart => exact ⟨0, Nat.zero_le _, rfl, HJ⟩
      case round =>
        clear HJ
        obtain ⟨q, hq, rfl, HQ⟩ := hrel
        obtain ⟨c2, hwv⟩ := HF.out _ HQ.out
        by_cases hql : q < fn
        · have hqlI : (q : Int) < (fn : Int) := by omega
          have hq0 : (0 : Int) ≤ (q : Int) := by omega
          obtain ⟨g, o, z, rfl, hg, ht, q0, q1⟩ := hwv.at hql
          have HE : Hid (Ow w1 (wr.setCell ⟨g, o + q * 5 + 2, none⟩ (.int .i64 55)) (some ⟨bR, oR, none⟩) kW bsW) := HQ.out.set hg ht _ _
          clear hg ht hwv HQ
          go_wp2_with fail
          go_roundw
          case rel => exact ⟨q + 1, by omega, by go_num, HE⟩
          case measure => simp [intOf]; omega
        · have hqlI : ¬ (q : Int) < (fn : Int) := by omega
          clear hwv
          go_wp2_with fail
          go_roundw
          case rel => exact ⟨j + 1, by omega, by go_num, HQ⟩
          case measure => simp [intOf]; omega
    · have hltI : ¬ (j : Int) < (kW : Int) := by omega
      have HBB : Hid (Below w1.heap.size w1 wr) := HJ.out.bel
      clear HJ HNB
      have H9 : Calls Tryd.prog 9 #[.pointer (some ⟨hb, 0, none⟩), .slice va t.length vc] wr fun e w' => ∃ la k lc, e = .returned (.slice la k lc) ∧ Hid (∃ vs, Oc w1 w' la k vs ∧ k ≤ 3518437208781) := by
        obtain ⟨hB, _⟩ := HB.out
        obtain ⟨g1, g2, g3, g4⟩ := HV.out
        have := HN.out
        have hnk := hB.nk
        have hml : m.length = bs.length := by
          have := congrArg List.length hB.eq
          simpa [hpOf] using this.symm
        refine (i9f m hb M nn D t va vc wr (hB.hp.below HBB.out) ((g1.below hB.bel).below HBB.out) g2 g3 hB.len (by omega)).mono ?_
        rintro e w' ⟨la, k, lc, rfl, L, vs, h1, h2⟩
        refine ⟨la, k, lc, rfl, vs, ⟨HBB.out.trans (h1.bel.mono HBB.out.size), by rw [h1.tr.len, h2], ?_, fun z hz => ?_⟩, by have := h1.len; omega⟩
        · obtain ⟨a', c', e', k1, k2⟩ := own_sl h1.tr.own
          simp only [Value.slice.injEq] at e'
          obtain ⟨rfl, e3, rfl⟩ := e'
          rcases k2 with e | ⟨b, o, rfl, _, hr⟩
          · exact .inl (by omega)
          · have hown := h1.tr.own
            rw [h2] at hown
            exact .inr ⟨b, o, rfl, own_ty hown rfl, hr⟩
        · obtain ⟨i, hi, rfl⟩ := List.getElem_of_mem hz
          obtain ⟨l, hl⟩ : ∃ l, L[i]? = some l := ⟨_, List.getElem?_eq_getElem (by rw [← h1.tr.len]; exact hi)⟩
          obtain ⟨q1, q2, q3⟩ := h1.tr.el i _ l (List.getElem?_eq_getElem hi) hl
          obtain ⟨fa, fc, f1⟩ := q1.form
          rw [f1] at q1 q3
          refine ⟨fa, l.length, fc, f1, wv_of q1 fun g hg => ⟨Nat.le_trans HBB.out.size (q3 g hg).1, (q3 g hg).2⟩, ?_⟩
          exact q1.1.1
      go_wp2_with fail
      refine H9.mono ?_
      rintro e w3 ⟨la, k, lc, rfl, H3⟩
      clear H9
      obtain ⟨vs, H3'⟩ : ∃ vs, Hid (Oc w1 w3 la k vs ∧ k ≤ 3518437208781) := H3.out
      have hk : k ≤ 3518437208781 := H3'.out.2
      have HC0 : Hid (Oc w1 w3 la k vs) := H3'.out.1
      clear H3 H3' hlt hltI hj
      go_wp2_with fail
      go_loopw [12, 13] (fun i _ wr => ∃ j : Nat, j ≤ k + 1 ∧ i = .int .i64 j ∧ Hid (Oc w1 wr la k vs)) (fun i _ _ => k + 1 - (intOf i).toNat)
      case atStart => exact ⟨1, by omega, rfl, HC0⟩
      case round =>
        clear HC0
        obtain ⟨j2, hj2, rfl, HJ⟩ := hrel
        by_cases hlt : j2 < k
        · have hltI : (j2 : Int) < (k : Int) := by omega
          have hj0 : (0 : Int) ≤ (j2 : Int) := by omega
          obtain ⟨bR, oR, fa, fn, fc, rfl, hfn, HF⟩ : ∃ bR oR fa fn fc, la = some ⟨bR, oR, none⟩ ∧ fn ≤ maxLen ∧ Hid (∀ u, Oc w1 u la k vs → u.cell? ⟨bR, oR + j2, none⟩ = some (.slice fa fn fc) ∧ Wv w1.heap.size u fa fn) := by
            obtain ⟨b, o, fa, fn, fc, e1, hfn, hz⟩ := HJ.out.at hlt
            refine ⟨b, o, fa, fn, fc, e1, hfn, fun u hu => ?_⟩
            rcases hu.row with e | ⟨b2, o2, e2, _, hr⟩
            · omega
            · rw [e1] at e2
              cases e2
              obtain ⟨a', n', c', e3, h3, _⟩ := hu.el _ (List.mem_of_getElem? hz)
              cases e3
              exact ⟨hr _ _ hz, h3⟩
          have hfn2 : fn ≤ 9223372036854775807 := hfn
          clear hfn
          go_wp2_with fail
          go_loopw [13] (fun i wx => ∃ q : Nat, q ≤ fn ∧ i = .int .i64 q ∧ Hid (Oc w1 wx (some ⟨bR, oR, none⟩) k vs)) (fun i _ => fn - (intOf i).toNat)
          case atStart => exact ⟨0, Nat.zero_le _, rfl, HJ⟩
          case round =>
            clear HJ
            obtain ⟨q, hq, rfl, HQ⟩ := hrel
            obtain ⟨c2, hwv⟩ := HF.out _ HQ.out
            by_cases hql : q < fn
            · have hqlI : (q : Int) < (fn : Int) := by omega
              have hq0 : (0 : Int) ≤ (q : Int) := by omega
              obtain ⟨g, o, z, rfl, hg, ht, q0, q1⟩ := hwv.at hql
              have HE : Hid (Oc w1 (wr.setCell ⟨g, o + q * 5 + 2, none⟩ (.int .i64 55)) (some ⟨bR, oR, none⟩) k vs) := HQ.out.set hg ht _ _
              clear hg ht hwv HQ
              go_wp2_with fail
              go_roundw
              case rel => exact ⟨q + 1, by omega, by go_num, HE⟩
              case measure => simp [intOf]; omega
            · have hqlI : ¬ (q : Int) < (fn : Int) := by omega
              clear hwv
              go_wp2_with fail
              go_roundw
              case rel => exact ⟨j2 + 1, by omega, by go_num, HQ⟩
              case measure => simp [intOf]; omega
        · have hltI : ¬ (j2 : Int) < (k : Int) := by omega
          have HX0 : Hid (Below w1.heap.size w1 wr) := HJ.out.bel
          clear HJ HBB hlt
          have HR : Hid (∀ u, Below w1.heap.size w1 u → u.cell? ⟨rt, 0, none⟩ = some (.slice ra bs.length rc)) := fun u hu => by
            obtain ⟨hB, h1, h2, h5⟩ := HB.out
            rw [cell_of_row u rt 0 _ 57 (0, 0) ((hu.block rt hB.rf.rlt).trans h1)]
            rfl
          go_wp2_with fail
          go_loopw [14, 15, 16, 17] (fun i _ _ _ wr => ∃ j : Nat, j ≤ bs.length ∧ i = .int .i64 j ∧ Hid (Below w1.heap.size w1 wr)) (fun i _ _ _ _ => bs.length - (intOf i).toNat)
          case atStart => exact ⟨0, Nat.zero_le _, rfl, HX0⟩
          case round =>
            clear HX0
            obtain ⟨j3, hj3, rfl, HJ⟩ := hrel
            have r0 := HR.out wr HJ.out
            by_cases hlt : j3 < bs.length
            · have hlt3 : (j3 : Int) < (bs.length : Int) := by omega
              have hj0 : (0 : Int) ≤ (j3 : Int) := by omega
              obtain ⟨bR, oR, x1, x2, l, rfl, c0, c1, K14⟩ : ∃ bR oR x1 x2 l, ra = some ⟨bR, oR, none⟩ ∧ wr.cell? ⟨bR, oR + j3 * 3, none⟩ = some (.int .i64 x1) ∧ wr.cell? ⟨bR, oR + j3 * 3 + 1, none⟩ = some (.int .i64 x2) ∧ Calls Tryd.prog 14 #[.pointer (some ⟨hb, 0, none⟩), .agg #[.int .i64 x1, .int .i64 x2]] wr fun e w' => ∃ a4 c4, e = .returned (.tuple #[.slice a4 (List.length (α := C) l) c4, .bool true]) ∧ Hid (Below w1.heap.size w1 w' ∧ Wv w1.heap.size w' a4 l.length ∧ l.length ≤ maxLen) := by
                obtain ⟨hB, h1, h2, h5⟩ := HB.out
                obtain ⟨b, o, hx, e1, hbb, c0, c1, _⟩ := h2.at hlt
                have hlk : lookH m bs[j3].x = some bs[j3].l := by
                  refine (look_mem_iff m hB.up _ _).2 ?_
                  rw [← hB.eq]
                  exact List.mem_map.2 ⟨bs[j3], List.getElem_mem hx, rfl⟩
                refine ⟨b, o, bs[j3].x.1, bs[j3].x.2, bs[j3].l, e1, (HJ.out.cell (p := ⟨b, o + j3 * 3, none⟩) hbb).trans c0, (HJ.out.cell (p := ⟨b, o + j3 * 3 + 1, none⟩) hbb).trans c1, ?_⟩
                refine (i14o m hb M nn D bs[j3].x bs[j3].l wr (hB.hp.below HJ.out) (hB.hp.wf _ _ hlk).1 hlk (hB.len _ _ hlk).1).mono ?_
                rintro e w' ⟨a4, c4, rfl, k1, k2⟩
                exact ⟨a4, c4, rfl, HJ.out.trans (k2.mono HJ.out.size), wv_of k1.1 fun g hg => ⟨Nat.le_trans HJ.out.size (k1.2.2 g hg).1, (k1.2.2 g hg).2⟩, k1.1.1.1⟩
              go_wp2_with fail
              refine K14.mono ?_
              rintro e w4 ⟨a4, c4, rfl, H4⟩
              clear K14 c0 c1 r0 HJ
              have HX : Hid (Below w1.heap.size w1 w4 ∧ Wv w1.heap.size w4 a4 l.length) := ⟨H4.out.1, H4.out.2.1⟩
              have hll : l.length ≤ 9223372036854775807 := H4.out.2.2
              clear H4
              obtain ⟨ln, hln⟩ : ∃ ln, l.length = ln := ⟨_, rfl⟩
              rw [hln] at HX hll ⊢
              clear hln
              go_wp2_with fail
              go_loopw [17] (fun i wx => ∃ q : Nat, q ≤ ln ∧ i = .int .i64 q ∧ Hid (Below w1.heap.size w1 wx ∧ Wv w1.heap.size wx a4 ln)) (fun i _ => ln - (intOf i).toNat)
              case atStart => exact ⟨0, Nat.zero_le _, rfl, HX⟩
              case round =>
                clear HX
                obtain ⟨q, hq, rfl, HQ⟩ := hrel
                by_cases hql : q < ln
                · have hqlI : (q : Int) < (ln : Int) := by omega
                  have hq0 : (0 : Int) ≤ (q : Int) := by omega
                  obtain ⟨g, o, z, rfl, hg, ht, q0, q1⟩ := HQ.out.2.at hql
                  have HE : Hid (Below w1.heap.size w1 (wr.setCell ⟨g, o + q * 5 + 2, none⟩ (.int .i64 55)) ∧ Wv w1.heap.size (wr.setCell ⟨g, o + q * 5 + 2, none⟩ (.int .i64 55)) (some ⟨g, o, none⟩) ln) := ⟨HQ.out.1.setCell (p := ⟨g, o + q * 5 + 2, none⟩) hg _, HQ.out.2.set _ _ _⟩
                  clear hg ht HQ
                  go_wp2_with fail
                  go_roundw
                  case rel => exact ⟨q + 1, by omega, by go_num, HE⟩
                  case measure => simp [intOf]; omega
                · have hqlI : ¬ (q : Int) < (ln : Int) := by omega
                  have HE : Hid (Below w1.heap.size w1 wr) := HQ.out.1
                  clear HQ
                  go_wp2_with fail
                  go_roundw
                  case rel => exact ⟨j3 + 1, by omega, by go_num, HE⟩
                  case measure => simp [intOf]; omega
            · have hlt3 : ¬ (j3 : Int) < (bs.length : Int) := by omega
              have K11 : Hid (∀ u, Below wr.heap.size wr u → Calls Tryd.prog 11 #[] u fun e w' => e = .returned (.bool true) ∧ Hid (Below w1.heap.size w1 w')) := fun u hu => by
                have h1 : Below w1.heap.size w1 u := HJ.out.trans (hu.mono HJ.out.size)
                refine (h10 u ((HV.out.2.2.2.below HB.out.1.bel).below h1)).mono ?_
                rintro e w' ⟨rfl, hb'⟩
                exact ⟨rfl, h1.trans (hb'.mono h1.size)⟩
              have K12 : Hid (∀ u, Hid (Below w1.heap.size w1 u) → Calls Tryd.prog 12 #[.pointer (some ⟨hb, 0, none⟩)] u fun e w' => ∃ aB kB cB, e = .returned (.slice aB kB cB) ∧ Hid (kB = bs.length ∧ Below w1.heap.size w1 w' ∧ Calls Tryd.prog 21 #[.slice aB bs.length cB, .slice ra bs.length rc] w' fun e w2 => e = .returned (.bool true) ∧ Below w'.heap.size w' w2)) := fun u hu => by
                obtain ⟨hB, h1, h2, h5⟩ := HB.out
                have hnk := hB.nk
                have := HN.out
                refine (h12b m hb M nn D u (hB.hp.below hu.out) (by omega) hB.up (fun x l hl => (hB.len x l hl).1)).mono ?_
                rintro e w' ⟨aB, kB, cB, rfl, bsB, k1, k2, k3, k4, k5⟩
                have hw' : Below w1.heap.size w1 w' := hu.out.trans (k5.mono hu.out.size)
                have e1 := k2.len
                have e2 : bsB.length = bs.length := by
                  have := congrArg List.length (k1.trans hB.eq.symm)
                  simpa [hpOf] using this
                obtain rfl : kB = bs.length := by omega
                refine ⟨aB, _, cB, rfl, rfl, hw', ?_⟩
                exact i21 aB ra bs.length cB rc bsB bs w' k2 (h2.keeps fun g hg => hw'.block g (h5 g hg)) (fun b hb => (k4 b hb).1) (fun b hb => (hB.rf.lst b hb).1.below hw') (k1.trans hB.eq.symm) (by omega)
              have HBW : Hid (Below w.heap.size w w1) := HB.out.1.bel
              have HJD : Hid (Below w1.heap.size w1 wr.drew) := HJ.out.drew
              clear HB HJ
              go_wp2_with fail
              refine wp_region_noPanic ?_
              refine wp_region_held_drew (S := fun u => u.cell? ⟨rt, 0, none⟩ = some (.slice ra bs.length rc)) (by kernel_rfl) (HR.out _ (HJD.out)) (fun hHeld => ?_)
              refine wpAnyH_ready (rs := [0]) (by kernel_rfl) (by simp) ?_
              refine AllReadyH.cons (by simp only [List.getElem?_toArray, List.getElem?_cons_zero]; rfl) (fun K hK => ?_) AllReadyH.nil
              go_simp
              go_at_call 11
              refine (K11.out _ (by first | exact Below.refl _ _ | exact (Below.refl _ _).drew | exact below_dN (Below.refl _ _) _)).mono ?_
              rintro e w5 ⟨rfl, H5⟩
              refine hK.out _ _ ?_ (fun hHeld => ?_)
              · exact HR.out w5 H5.out
              clear hK K
              try simp only [Act.put, List.setIfInBounds_toArray, List.set_cons_zero, List.set_cons_succ]
              (refine wpAnyH_take (i := 1) (v := ?_) (by simp only [List.getElem?_toArray, List.getElem?_cons_zero, List.getElem?_cons_succ]; rfl) (by kernel_rfl) (by kernel_rfl) (by kernel_rfl) (fun _ _ _ h => h) (Or.inl ⟨by rfl, ?_⟩) (by assumption) ?_; rotate_left; (· (intro w hSw; (try dsimp only at hSw); go_simp <;> with_reducible rfl)); try simp only [Act.put, List.setIfInBounds_toArray, List.set_cons_zero, List.set_cons_succ])
              (refine wpAnyH_take (i := 2) (v := ?_) (by simp only [List.getElem?_toArray, List.getElem?_cons_zero, List.getElem?_cons_succ]; rfl) (by kernel_rfl) (by kernel_rfl) (by kernel_rfl) (fun _ _ _ h => h) (Or.inl ⟨by rfl, ?_⟩) (by assumption) ?_; rotate_left; (· (intro w hSw; (try dsimp only at hSw); go_simp <;> with_reducible rfl)); try simp only [Act.put, List.setIfInBounds_toArray, List.set_cons_zero, List.set_cons_succ])
              (refine wpAnyH_take (i := 3) (v := ?_) (by simp only [List.getElem?_toArray, List.getElem?_cons_zero, List.getElem?_cons_succ]; rfl) (by kernel_rfl) (by kernel_rfl) (by kernel_rfl) (fun _ _ _ h => h) (Or.inl ⟨by rfl, ?_⟩) (by assumption) ?_; rotate_left; (· (intro w hSw; (try dsimp only at hSw); go_simp <;> with_reducible rfl)); try simp only [Act.put, List.setIfInBounds_toArray, List.set_cons_zero, List.set_cons_succ])
              (refine wpAnyH_take (i := 4) (v := ?_) (by simp only [List.getElem?_toArray, List.getElem?_cons_zero, List.getElem?_cons_succ]; rfl) (by kernel_rfl) (by kernel_rfl) (by kernel_rfl) (fun _ _ _ h => h) (Or.inl ⟨by rfl, ?_⟩) (by assumption) ?_; rotate_left; (· (intro w hSw; (try dsimp only at hSw); go_simp <;> with_reducible rfl)); try simp only [Act.put, List.setIfInBounds_toArray, List.set_cons_zero, List.set_cons_succ])
              (refine wpAnyH_take (i := 5) (v := ?_) (by simp only [List.getElem?_toArray, List.getElem?_cons_zero, List.getElem?_cons_succ]; rfl) (by kernel_rfl) (by kernel_rfl) (by kernel_rfl) (fun _ _ _ h => h) (Or.inl ⟨by rfl, ?_⟩) (by assumption) ?_; rotate_left; (· (intro w hSw; (try dsimp only at hSw); go_simp <;> with_reducible rfl)); try simp only [Act.put, List.setIfInBounds_toArray, List.set_cons_zero, List.set_cons_succ])
              (refine wpAnyH_take (i := 7) (v := ?_) (by simp only [List.getElem?_toArray, List.getElem?_cons_zero, List.getElem?_cons_succ]; rfl) (by kernel_rfl) (by kernel_rfl) (by kernel_rfl) (fun _ _ _ h => h) (Or.inl ⟨by rfl, ?_⟩) (by assumption) ?_; rotate_left; (· (intro w hSw; (try dsimp only at hSw); go_simp <;> with_reducible rfl)); try simp only [Act.put, List.setIfInBounds_toArray, List.set_cons_zero, List.set_cons_succ])
              (refine wpAnyH_take (i := 8) (v := ?_) (by simp only [List.getElem?_toArray, List.getElem?_cons_zero, List.getElem?_cons_succ]; rfl) (by kernel_rfl) (by kernel_rfl) (by kernel_rfl) (fun _ _ _ h => h) (Or.inl ⟨by rfl, ?_⟩) (by assumption) ?_; rotate_left; (· (intro w hSw; (try dsimp only at hSw); go_simp <;> with_reducible rfl)); try simp only [Act.put, List.setIfInBounds_toArray, List.set_cons_zero, List.set_cons_succ])
              (refine wpAnyH_take (i := 9) (v := ?_) (by simp only [List.getElem?_toArray, List.getElem?_cons_zero, List.getElem?_cons_succ]; rfl) (by kernel_rfl) (by kernel_rfl) (by kernel_rfl) (fun _ _ _ h => h) (Or.inl ⟨by rfl, ?_⟩) (by assumption) ?_; rotate_left; (· (intro w hSw; (try dsimp only at hSw); go_simp <;> with_reducible rfl)); try simp only [Act.put, List.setIfInBounds_toArray, List.set_cons_zero, List.set_cons_succ])
              (refine wpAnyH_take (i := 10) (v := ?_) (by simp only [List.getElem?_toArray, List.getElem?_cons_zero, List.getElem?_cons_succ]; rfl) (by kernel_rfl) (by kernel_rfl) (by kernel_rfl) (fun _ _ _ h => h) (Or.inl ⟨by rfl, ?_⟩) (by assumption) ?_; rotate_left; (· (intro w hSw; (try dsimp only at hSw); go_simp <;> with_reducible rfl)); try simp only [Act.put, List.setIfInBounds_toArray, List.set_cons_zero, List.set_cons_succ])
              refine wpAnyH_ready (rs := [6]) (by kernel_rfl) (by simp) ?_
              refine AllReadyH.cons (by simp only [List.getElem?_toArray, List.getElem?_cons_zero, List.getElem?_cons_succ]; rfl) (fun K hK => ?_) AllReadyH.nil
              go_simp
              go_at_call 12
              refine (K12.out _ H5).mono ?_
              rintro e w6 ⟨aB, kB, cB, rfl, H6⟩
              obtain rfl : kB = bs.length := H6.out.1
              have K21 := H6.out.2.2
              refine hK.out _ _ ?_ (fun hHeld => ?_)
              · exact HR.out w6 H6.out.2.1
              clear hK K
              try simp only [Act.put, List.setIfInBounds_toArray, List.set_cons_zero, List.set_cons_succ]
              refine wpAnyH_ready (rs := [11]) (by kernel_rfl) (by simp) ?_
              refine AllReadyH.cons (by simp only [List.getElem?_toArray, List.getElem?_cons_zero, List.getElem?_cons_succ]; rfl) (fun K hK => ?_) AllReadyH.nil
              go_simp
              go_at_call 21
              refine (K21).mono ?_
              rintro e w7 ⟨rfl, H7⟩
              refine hK.out _ _ ?_ (fun hHeld => ?_)
              · exact HR.out w7 (H6.out.2.1.trans (H7.mono H6.out.2.1.size))
              clear hK K
              try simp only [Act.put, List.setIfInBounds_toArray, List.set_cons_zero, List.set_cons_succ]
              (refine wpAnyH_take (i := 12) (v := ?_) (by simp only [List.getElem?_toArray, List.getElem?_cons_zero, List.getElem?_cons_succ]; rfl) (by kernel_rfl) (by kernel_rfl) (by kernel_rfl) (fun _ _ _ h => h) (Or.inl ⟨by rfl, ?_⟩) (by assumption) ?_; rotate_left; (· (intro w hSw; (try dsimp only at hSw); go_simp <;> with_reducible rfl)); try simp only [Act.put, List.setIfInBounds_toArray, List.set_cons_zero, List.set_cons_succ])
              (refine wpAnyH_take (i := 13) (v := ?_) (by simp only [List.getElem?_toArray, List.getElem?_cons_zero, List.getElem?_cons_succ]; rfl) (by kernel_rfl) (by kernel_rfl) (by kernel_rfl) (fun _ _ _ h => h) (Or.inl ⟨by rfl, ?_⟩) (by assumption) ?_; rotate_left; (· (intro w hSw; (try dsimp only at hSw); go_simp <;> with_reducible rfl)); try simp only [Act.put, List.setIfInBounds_toArray, List.set_cons_zero, List.set_cons_succ])
              refine wpAnyH_done (by kernel_rfl) ?_ _
              refine NoPanic.normal ?_
              clear hHeld
              have HE : Hid (Below w.heap.size w w7) := by
                have h1 := HBW.out
                have h2 := H6.out.2.1
                exact (h1.trans (h2.mono h1.size)).trans (H7.mono (Nat.le_trans h1.size h2.size))
              go_wp2_with fail
              go_ret
              exact ⟨rfl, HE.out⟩
end Go.Proofs.YtgcpkkeonameeaaDoor
