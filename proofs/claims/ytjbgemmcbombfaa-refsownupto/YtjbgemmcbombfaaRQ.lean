/- Contract of rising, whatever the map holds. -/
import Derived.Test.YtjbgemmcbombfaaRP
import Derived.Test.YtjbgemmcbombfaaSh1
import Derived.Sort.OwnSorted
namespace Go.Proofs.Ytjbgemmcbombfaa
open Go.RowKit Go.Sort
attribute [local go_sem ↓] Go.wp_at_zero Go.wp_at_succ
theorem enc_one (x : Ct) : ∀ v ∈ encC x, v.oneCell' = true := fun v hv => by
  simp [encC] at hv
  rcases hv with rfl | rfl | rfl | rfl <;> rfl
/-- Sorting a row of counts of the call's own. -/
theorem r61g (g cap : Nat) (cur : Array Value) (l : List Ct) (w : World) (hb : w.heap[g]? = some (.cells cur 74 (0, 0))) (ht : cur.toList.take (l.length * 4) = l.flatMap encC) (hsz : l.length < 4611686018427387904) :
    Calls Try.prog 61 #[.slice (some ⟨g, 0, none⟩) l.length cap, .func (.func 62) #[] #[]] w fun e w' => e = .returned (.tuple #[]) ∧ ∃ d' n os, PermIn 0 l.toArray.size l.toArray d' ∧ SortedIn (ltOf cfC) 0 l.toArray.size d' ∧ w' = sortWorldK encC 4 w g 0 n d' os := by
  have eg : ∀ args w, (callFunc 62 args).run Try.prog w = .ok (.enter 62 args) w := enters_of Try.func62 (by kernel_rfl) rfl
  have hcon := AnyQ.slices_SortFunc Try.sortC 4 Try.isAgg74 Try.sizeOf74 encC encC_len enc_one cfC swoC 62 #[] g 0 cap l.toArray w eg (cmpLays62 g 0 l.toArray.size w) (holdsK_of_row encC_len hb ht) (Array.getElem?_eq_some_iff.1 hb).1 (by simpa using hsz)
  change Calls Try.prog 61 _ _ _ at hcon
  simpa using hcon
theorem ranges_le {w : World} {P : Program} {k : TypeId} {R : Value → Option (DataW Value × List MemPlace)} {b r n : Nat} {D : DataW Value} {left : Lit → Bool} {cnt : Nat} (h : w.ranges P k R b r n D left cnt) : cnt ≤ n := by
  obtain ⟨es, clock, since, seen, c0, _, _, h3, _, _, _, h7, _⟩ := h
  rw [← h7]
  refine Nat.le_trans ?_ h3
  unfold leftOf
  simp
  try exact Array.size_filter_le
/-- What rising tells. -/
def RiseTo2 (w : World) (f : Hk → Int) (L : List Ct) (v : Value) (w' : World) : Prop := Rises f L ∧ w'.ownsRow w.heap.size 74 4 v L.length (L.flatMap encC) ∧ Below w.heap.size w w'
/-- While the map is gone through. -/
structure RiseG (w : World) (b r n : Nat) (D : DataW Value) (f : Hk → Int) (l : List Ct) (left : Lit → Bool) (cnt : Nat) (lv : Value) (wr : World) : Prop where
  rg : wr.ranges Try.prog 87 heldElem b r n D left cnt
  bel : Below w.heap.size w wr
  low : w.heap.size ≤ r
  apart : lv.ownBlock ≠ some r
  row : wr.ownsRow w.heap.size 74 4 lv l.length (l.flatMap encC)
  el : ∀ e ∈ l, wfK e.1 ∧ f e.1 = e.2 ∧ e.2 ≠ 0 ∧ left (kLit e.1) = false
  all : ∀ k, wfK k → f k ≠ 0 → left (kLit k) = true ∨ (k, f k) ∈ l
  here : ∀ k, wfK k → left (kLit k) = true → f k ≠ 0
  nd : (l.map (·.1)).Nodup
  len : l.length + cnt ≤ n
/-- What was gathered, handed to the sort. -/
theorem r61r (w wr : World) (f : Hk → Int) (l : List Ct) (a : Option Addr) (c : Nat) (hB : Below w.heap.size w wr) (hrow : wr.ownsRow w.heap.size 74 4 (.slice a l.length c) l.length (l.flatMap encC)) (hel : ∀ e ∈ l, wfK e.1 ∧ f e.1 = e.2 ∧ e.2 ≠ 0) (hall : ∀ k, wfK k → f k ≠ 0 → (k, f k) ∈ l) (hnd : (l.map (·.1)).Nodup) (hn : l.length ≤ 1000000000) :
    Calls Try.prog 61 #[.slice a l.length c, .func (.func 62) #[] #[]] wr fun e w' => e = .returned (.tuple #[]) ∧ Hid (∃ L, L.length = l.length ∧ RiseTo2 w f L (.slice a l.length c) w') := by
  rcases hrow.2 with ⟨e, h0⟩ | ⟨g, cap, cur, e, h1, h2, h3, h4, h5, h6⟩
  · simp only [Value.slice.injEq] at e
    obtain ⟨rfl, _, rfl⟩ := e
    obtain rfl : l = [] := List.length_eq_zero_iff.1 h0
    refine (r61 none 0 0 (by omega) _ wr).mono ?_
    rintro e w' ⟨rfl, rfl⟩
    exact ⟨rfl, [], rfl, ⟨⟨(fun e he => by cases he), hall, List.Pairwise.nil⟩, hrow, hB⟩⟩
  · simp only [Value.slice.injEq] at e
    obtain ⟨rfl, _, rfl⟩ := e
    refine (r61g g c cur l wr h2 h6 (by omega)).mono ?_
    rintro e w' ⟨rfl, d', n, os, hp, hs, rfl⟩
    obtain ⟨hR, hl⟩ := rises_of hp hs hel hall hnd
    have hl' : d'.toList.length = l.length := by simpa using hl
    refine ⟨rfl, d'.toList, hl', hR, ?_, ?_⟩
    · have := ownsRow_sortedK (n := n) (os := os) encC_len (l := d'.toList) hl' h1 h2 h3 h4 h5
      rw [hl']
      simpa using this
    · exact hB.grown (grownBy_sortedK (enc := encC) (k := 4) d') hB.size (fun j hj => by cases hj; exact h1)
set_option maxRecDepth 100000 in
set_option maxHeartbeats 4000000 in
theorem r49g (b n : Nat) (f : Hk → Int) (w : World) (h : MpAt hkK w b n (cF f)) (hn : n ≤ 1000000000) :
    Calls Try.prog 49 #[.map (some b)] w fun e w' => ∃ a c L, e = .returned (.slice a L.length c) ∧ RiseTo2 w f L (.slice a L.length c) w' := by
  obtain ⟨i0, hi0, hz0, hsz0, hby0⟩ := info74
  obtain ⟨D, hown, hD⟩ := h
  have HD : Hid ((∀ x, wfK x → Maps.has D (kLit x) = (cF f x).isSome ∧ ∀ v, cF f x = some v → ∀ z, D.atKey (kLit x) z = .held v) ∧ b < w.heap.size) := ⟨hD, hown.lt⟩
  have HN : Hid (n ≤ 1000000000) := hn
  clear hD hn
  go_enter Try.func49, Try.ntmps49
  go_wp2_with (first | (at_range; refine wpList_range_own _ rfl _ 79 rfl 87 3 (Maps.Keyed.of_law law87) Try.underlying79 _ b n D rfl hown ?_; intro w0 hrg0 hg0 hs0) | fail)
  have hhas : ∀ k, wfK k → (Maps.has D (kLit k) = true ↔ f k ≠ 0) := fun k hk => by
    rw [(HD.out.1 k hk).1]
    unfold cF
    split <;> simp_all
  have HI0 : Hid (RiseG w b w.heap.size n D f [] (Maps.has D) (Maps.size D) (.slice none 0 0) w0) :=
    ⟨hrg0, ⟨hg0.os, hg0.tape, hg0.output, hg0.size, fun j hj => hg0.block j hj (by simp)⟩, Nat.le_refl _, fun e => by (cases e), World.ownsRow_nil _ _ _ _, (fun e he => by cases he), (fun k hk h0 => .inl ((hhas k hk).2 h0)), (fun k hk h0 => (hhas k hk).1 h0), List.Pairwise.nil, by simpa using ranges_le hrg0⟩
  obtain ⟨r, hr⟩ : ∃ r, w.heap.size = r := ⟨_, rfl⟩
  have HR : Hid (w.heap.size = r) := hr
  rw [hr] at HI0
  clear hrg0 hg0 hs0 hown hhas
  go_frame
  go_loopw [3] (fun lv wr => ∃ (l : List Ct) (a : Option Addr) (c : Nat), lv = .slice a l.length c ∧ ∃ left cnt, Hid (RiseG w b r n D f l left cnt lv wr)) (fun _ wr => wr.rangeLeft b r)
  case atStart => exact ⟨[], none, 0, rfl, _, _, HI0⟩
  case round =>
    clear HI0
    obtain ⟨l, la, lc, rfl, left, cnt, HK⟩ := hrel
    have hrg := HK.out.rg
    have HLE : Hid (wr.rangeLeft b r = cnt) := hrg.left_eq
    go_wp2_with (first | (at_next; refine wpList_next_ranges (α := Value) (β := Value) _ rfl _ rfl 87 (Maps.Keyed.of_law law87) heldElem (fun x => x) (fun x => x) (fun key _ _ => ⟨key, rfl⟩) (fun v _ _ => ⟨v, rfl⟩) b r n D left cnt (by rw [← HR.out]; rfl) hrg ?_ ?_) | fail)
    · intro hc0 hl0
      have H61 : Calls Try.prog 61 #[.slice la l.length lc, .func (.func 62) #[] #[]] wr fun e w' => e = .returned (.tuple #[]) ∧ Hid (∃ L, L.length = l.length ∧ RiseTo2 w f L (.slice la l.length lc) w') := by
        obtain ⟨_, k2, _, _, k5, k6, k7, _, k9, k10⟩ := HK.out
        refine r61r w wr f l la lc k2 k5 (fun e he => ⟨(k6 e he).1, (k6 e he).2.1, (k6 e he).2.2.1⟩) (fun k hk h0 => ?_) k9 (by have := HN.out; omega)
        rcases k7 k hk h0 with h | h
        · rw [hl0] at h; cases h
        · exact h
      clear hrg HK HLE hc0 hl0
      go_wp2_with fail
      refine H61.mono ?_
      rintro e w' ⟨rfl, H9⟩
      go_wp2_with fail
      go_ret
      obtain ⟨L, h1, h2⟩ := H9.out
      refine ⟨la, lc, L, ?_, ?_⟩
      · rw [h1]; rfl
      · rw [h1]; exact h2
    · intro x c kl y1 y2 w1 cnt1 hkey hlk hv hat hrg1 hlt hg1 hs1 hen
      obtain ⟨k', hwk, hxk, hkl⟩ := key_inv hkey
      subst hxk hkl
      have hfk : f k' ≠ 0 := HK.out.here k' hwk hlk
      have hcv : c = .int .i64 (f k') := by
        have h5 := (HD.out.1 k' hwk).2 (.int .i64 (f k')) (by simp [cF, hfk]) (.held (.bool true))
        rw [hat] at h5
        have h6 : heldElem c = some (.held c, []) := rfl
        rw [h6] at hv
        simp only [Option.some.injEq, Prod.mk.injEq] at hv
        rw [← hv.1] at h5
        simp only [DataW.held.injEq] at h5
        exact h5
      subst hcv
      have HG : Hid (w1.ranges Try.prog 87 heldElem b r n D (fun z => left z && !z.sameKey (kLit k')) cnt1 ∧ Below w.heap.size w w1 ∧ f k' ≠ 0 ∧ wfK k' ∧ left (kLit k') = true ∧ cnt1 < cnt ∧ w1.ownsRow w.heap.size 74 4 (.slice la l.length lc) l.length (l.flatMap encC)) := by
        have hbel := HK.out.bel
        refine ⟨hrg1, ⟨hg1.os.trans hbel.os, hg1.tape.trans hbel.tape, hg1.output.trans hbel.output, Nat.le_trans hbel.size hg1.size, fun j hj => (hg1.block j (Nat.lt_of_lt_of_le hj hbel.size) (by have := HK.out.low; simp; omega)).trans (hbel.block j hj)⟩, hfk, hwk, hlk, hlt, ?_⟩
        rcases HK.out.row.2 with ⟨e, h0⟩ | ⟨g, cap, cur, e, t1, t2, t3, t4, t5, t6⟩
        · exact ⟨HK.out.row.1, .inl ⟨e, h0⟩⟩
        · have hne : g ≠ r := fun e2 => HK.out.apart (by rw [e]; simp [Value.ownBlock, e2])
          have hg : w1.heap[g]? = wr.heap[g]? := hg1.block g (Array.getElem?_eq_some_iff.1 t2).1 (by simpa using hne)
          exact ⟨HK.out.row.1, .inr ⟨g, cap, cur, e, t1, hg.trans t2, t3, t4, t5, t6⟩⟩
      obtain ⟨⟨k1, k2⟩, k3⟩ := k'
      have hen' : (Instr.entry (.pointer (some ⟨r, 0, none⟩))).run Try.prog w1 = .ok (.tuple #[.agg #[.int .i64 k1, .int .i64 k2, .int .i64 k3], .int .i64 (f ((k1, k2), k3))]) w1 := hen
      obtain ⟨W2, hW2⟩ : ∃ W2, w1.alloc (.cells #[.int .i64 0, .int .i64 0, .int .i64 0] 87) = W2 := ⟨_, rfl⟩
      obtain ⟨vb, hvb⟩ : ∃ vb, w1.heap.size = vb := ⟨_, rfl⟩
      have hc : W2.heap[vb]? = some (.cells #[.int .i64 0, .int .i64 0, .int .i64 0] 87 (0, 0)) := by rw [← hW2, ← hvb]; exact heap_alloc_new w1 _
      obtain ⟨c0, c1, c2⟩ := box3 hc
      have g0 := frozen_of_row W2 vb 0 _ 87 hc
      have g1 := frozen_of_row W2 vb 1 _ 87 hc
      have g2 := frozen_of_row W2 vb 2 _ 87 hc
      obtain ⟨V, hV⟩ : ∃ V, ((W2.setCell ⟨vb, 0, none⟩ (.int .i64 k1)).setCell ⟨vb, 1, none⟩ (.int .i64 k2)).setCell ⟨vb, 2, none⟩ (.int .i64 k3) = V := ⟨_, rfl⟩
      have HV : Hid (Below w1.heap.size w1 V ∧ V.heap[vb]? = some (.cells #[.int .i64 k1, .int .i64 k2, .int .i64 k3] 87 (0, 0)) ∧ w1.heap.size ≤ V.heap.size) := by
        have h1 : Below w1.heap.size w1 W2 := by rw [← hW2]; exact (Below.refl _ _).alloc (Nat.le_refl _) _
        have h0 : w1.heap.size ≤ vb := by omega
        have e1 := heap_setCell_same W2 vb 0 _ 87 (.int .i64 k1) hc
        have e2 := heap_setCell_same _ vb 1 _ 87 (.int .i64 k2) e1
        have e3 := heap_setCell_same _ vb 2 _ 87 (.int .i64 k3) e2
        have hb : Below w1.heap.size w1 V := by
          rw [← hV]
          exact ((h1.setCell (p := ⟨vb, 0, none⟩) h0 _).setCell (p := ⟨vb, 1, none⟩) h0 _).setCell (p := ⟨vb, 2, none⟩) h0 _
        exact ⟨hb, by rw [← hV]; exact e3, hb.size⟩
      obtain ⟨q0, q1, q2⟩ := box3 HV.out.2.1
      obtain ⟨fk, hfke⟩ : ∃ fk, f ((k1, k2), k3) = fk := ⟨_, rfl⟩
      have HFK : Hid (f ((k1, k2), k3) = fk) := hfke
      rw [hfke] at hen'
      obtain ⟨Z, hZ⟩ : ∃ Z, V.alloc (.cells #[.int .i64 k1, .int .i64 k2, .int .i64 k3, .int .i64 fk] 74) = Z := ⟨_, rfl⟩
      have HZ : Hid (Below w1.heap.size w1 Z ∧ Z.ownsRow w.heap.size 74 4 (.slice la l.length lc) l.length (l.flatMap encC) ∧ w.heap.size ≤ Z.heap.size ∧ l.length ≤ 1000000000 ∧ ∀ j u, (encC (((k1, k2), k3), fk))[j]? = some u → Z.cell? ((⟨V.heap.size, 0, none⟩ : Addr).add j) = some u) := by
        have h1 : Below w1.heap.size w1 Z := by rw [← hZ]; exact HV.out.1.alloc HV.out.2.2 _
        refine ⟨h1, ?_, Nat.le_trans HG.out.2.1.size h1.size, by have := HN.out; have := HK.out.len; omega, fun j u hu => ?_⟩
        · obtain ⟨r1, r2⟩ := HG.out.2.2.2.2.2.2
          refine ⟨r1, ?_⟩
          rcases r2 with e | ⟨g, cap, cur, e, t1, t2, t3⟩
          · exact .inl e
          · exact .inr ⟨g, cap, cur, e, t1, (h1.block g (Array.getElem?_eq_some_iff.1 t2).1).trans t2, t3⟩
        · have hcz : Z.heap[V.heap.size]? = some (.cells #[.int .i64 k1, .int .i64 k2, .int .i64 k3, .int .i64 fk] 74 (0, 0)) := by rw [← hZ]; exact heap_alloc_new V _
          rw [Addr.add_mid, Nat.zero_add, cell_of_row Z V.heap.size j _ 74 (0, 0) hcz]
          simpa [encC] using hu
      clear hfke hc hen hkey hlk hv hat hrg1 hlt hg1 hs1 hrg hwk hfk
      go_wp2_with (at_builtin; refine wpList_append_own_at _ rfl _ _ 43 rfl w.heap.size 74 i0 _ 4 32 Try.underlying43 hi0 hz0 hsz0 hby0 rfl (by decide) (.slice la l.length lc) l.length (l.flatMap encC) rfl HZ.out.2.1 ⟨V.heap.size, 0, none⟩ 1 1 (encC (((k1, k2), k3), fk)) rfl rfl HZ.out.2.2.2.2 (enc_one _) (by have := HZ.out.2.2.2.1; unfold maxLen; omega) (by have := HZ.out.2.2.2.1; omega) HZ.out.2.2.1 ?_)
      intro v' wf hown hgrow _ hat
      have hsl : ∃ a' c', v' = .slice a' (l.length + 1) c' := by
        rcases hown.2 with ⟨_, e⟩ | ⟨g, cap, cur, e, _⟩
        · omega
        · exact ⟨_, _, e⟩
      obtain ⟨a', c', rfl⟩ := hsl
      have HN2 : Hid (RiseG w b r n D f (l ++ [(((k1, k2), k3), fk)]) (fun z => left z && !z.sameKey (kLit ((k1, k2), k3))) cnt1 (.slice a' (l.length + 1) c') wf ∧ cnt1 < cnt) := by
        obtain ⟨q1, q2, q3, q4, q5, q6, q7⟩ := HG.out
        obtain ⟨z1, z2, z3, z4, z5⟩ := HZ.out
        have hK := HK.out
        have b1 : w1.grownBy Z none := ⟨z1.os, z1.tape, z1.output, z1.size, fun j hj _ => z1.block j hj⟩
        have q1' := q1.kept b1 (by simp) (by simp)
        have ob : some b ≠ (Value.slice la l.length lc).ownBlock := row_ne_low z2 HD.out.2
        have orr : some r ≠ (Value.slice la l.length lc).ownBlock := fun e => hK.apart e.symm
        have b2 : Below w.heap.size w Z := q2.trans (z1.mono q2.size)
        have key : ∀ x, wfK x → ((left (kLit x) && !(kLit x).sameKey (kLit ((k1, k2), k3))) = true ↔ left (kLit x) = true ∧ x ≠ ((k1, k2), k3)) := fun x hx => by
          by_cases e : x = ((k1, k2), k3)
          · subst e
            simp [WideAt.sameKey_self ((Maps.Keyed.of_law law87).key (key87 _ hx))]
          · have hne : (kLit x).sameKey (kLit ((k1, k2), k3)) = false := Maps.sameKey_ne fun e2 => e (kLit_inj hx q4 e2)
            simp [hne, e]
        refine ⟨⟨q1'.kept hgrow ob orr, ⟨hgrow.os.trans b2.os, hgrow.tape.trans b2.tape, hgrow.output.trans b2.output, Nat.le_trans b2.size hgrow.size, fun j hj => (hgrow.block j (Nat.lt_of_lt_of_le hj b2.size) (row_ne_low z2 hj)).trans (b2.block j hj)⟩, hK.low, fun e => ?_, ?_, fun e he => ?_, fun x hx h0 => ?_, fun x hx h0 => hK.here x hx ((key x hx).1 h0).1, ?_, ?_⟩, q6⟩
        · rcases hat with e1 | e1
          · rw [e1] at e; exact hK.apart e
          · rw [e1] at e
            simp only [Option.some.injEq] at e
            have : r < w1.heap.size := q1.lt
            have := z1.size
            omega
        · have : (l ++ [(((k1, k2), k3), fk)]).length = l.length + 1 := by simp
          rw [this, List.flatMap_append, HR.out]
          simpa using hown
        · rcases List.mem_append.1 he with he | he
          · obtain ⟨h1, h2, h3, h4⟩ := hK.el e he
            exact ⟨h1, h2, h3, by simp [h4]⟩
          · obtain rfl : e = (((k1, k2), k3), fk) := by simpa using he
            refine ⟨q4, HFK.out, by rw [← HFK.out]; exact q3, ?_⟩
            have := key _ q4
            cases hq : (left (kLit ((k1, k2), k3)) && !(kLit ((k1, k2), k3)).sameKey (kLit ((k1, k2), k3))) with
            | false => rfl
            | true => exact absurd rfl (this.1 hq).2
        · rcases hK.all x hx h0 with h | h
          · by_cases e : x = ((k1, k2), k3)
            · subst e
              rw [HFK.out]
              exact .inr (by simp)
            · exact .inl ((key x hx).2 ⟨h, e⟩)
          · exact .inr (List.mem_append_left _ h)
        · rw [List.map_append, List.nodup_append]
          refine ⟨hK.nd, by simp, fun x hx y hy => ?_⟩
          obtain rfl : y = ((k1, k2), k3) := by simpa using hy
          rintro rfl
          obtain ⟨e, he, h2⟩ := List.mem_map.1 hx
          have h3 := (hK.el e he).2.2.2
          rw [h2, q5] at h3
          cases h3
        · have := hK.len
          simp
          omega
      clear hown hgrow hat HG HV HZ hW2 hvb c0 c1 c2 g0 g1 g2 hV hZ q0 q1 q2 hen' HK
      go_wp2_with fail
      go_roundw
      case rel =>
        rw [HR.out]
        repeat apply Exists.intro
        refine ⟨⟨l ++ [(((k1, k2), k3), fk)], a', c', ?_, _, _, HN2.out.1⟩, ?_⟩
        · simp
        · rfl
      case measure =>
        rw [HN2.out.1.rg.left_eq, HLE.out]
        exact HN2.out.2
end Go.Proofs.Ytjbgemmcbombfaa
