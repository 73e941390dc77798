/- Contract of NetOrder. -/
import Derived.Test.YthpbfaddojcohaaNQ
import Derived.Test.YthpbfaddojcohaaNP
namespace Go.Proofs.Ythpbfaddojcohaa
open Go.RowKit
attribute [local go_sem ↓] Go.wp_at_zero Go.wp_at_succ
/-- A row of the caller's own, as one that is handed in. -/
theorem arg_of_own {w : World} {B : Nat} {a : Option Addr} {n c : Nat} {l : List Dg} {cs : List Dc} (h : w.ownsRow B 46 5 (.slice a n c) l.length (flatD l)) (hl : OwnL w B l cs) : l.length = n ∧ ArgRow w (fun k => k < w.heap.size) a n l cs := by
  obtain ⟨a', c', e⟩ := owns_slice h
  simp only [Value.slice.injEq] at e
  obtain ⟨rfl, rfl, rfl⟩ := e
  refine ⟨rfl, rfl, hl.1.symm, ?_, fun i d x h1 h2 => ⟨(hl.2 i d x h1 h2).1, byS_of (hl.2 i d x h1 h2).2.at⟩⟩
  rcases Nat.eq_zero_or_pos l.length with e0 | e0
  · exact .inl e0
  · obtain ⟨m, hm⟩ : ∃ m, l.length = m + 1 := ⟨l.length - 1, by omega⟩
    have h2 := h
    rw [hm] at h2
    obtain ⟨g, cap, e⟩ := owns_some h2
    simp only [Value.slice.injEq] at e
    obtain ⟨rfl, _, rfl⟩ := e
    exact .inr ⟨g, 0, rfl, (owns_lt h rfl).2, owns_range h⟩
theorem ArgRow.below {w w' : World} {a : Option Addr} {n : Nat} {ds : List Dg} {cs : List Dc} (h : ArgRow w (fun k => k < w.heap.size) a n ds cs) (hb : Below w.heap.size w w') : ArgRow w' (fun k => k < w'.heap.size) a n ds cs := by
  have h1 := h.kept (w' := w') fun k hk => hb.block k hk
  refine ⟨h1.len, h1.lenc, ?_, fun i d x e1 e2 => ⟨(h1.each i d x e1 e2).1, ?_⟩⟩
  · rcases h1.row with e | ⟨b, o, e, hb', hr⟩
    · exact .inl e
    · exact .inr ⟨b, o, e, Nat.lt_of_lt_of_le hb' hb.size, hr⟩
  · exact byS_of ((h1.each i d x e1 e2).2.at fun k hk => Nat.lt_of_lt_of_le hk hb.size)
theorem send_bytes {n : Int} {w : World} {S : Nat → Prop} {a : Option Addr} {k : Nat} {ds : List Dg} {cs : List Dc} (h : ArgRow w S a k ds cs) (hE : allE n ds = 0) : ∀ x ∈ cs, x.xs.length ≤ 65536 := by
  intro x hx
  obtain ⟨i, hi, rfl⟩ := List.getElem_of_mem hx
  have h1 : i < ds.length := by rw [h.len, ← h.lenc]; exact hi
  have h2 := (h.each i ds[i] cs[i] (List.getElem?_eq_getElem h1) (List.getElem?_eq_getElem hi)).1
  rw [← h2.2.2.2.2]
  exact sendE_len (allE_zero n ds hE i h1)
theorem idx (k : Int) (n : Nat) (h0 : 0 < n) (hn : n ≤ 140737488355328) : ∃ i : Nat, wrap64 ((IntKind.u64.wrap k).tmod (n : Int)) = (i : Int) ∧ i < n := by
  have h1 : 0 ≤ IntKind.u64.wrap k := by
    simp only [IntKind.wrap, IntKind.bits, IntKind.signed]
    have := Int.emod_nonneg k (show (2 ^ 64 : Int) ≠ 0 by decide)
    simp
    omega
  have h2 := Int.tmod_nonneg (n : Int) h1
  have h3 := Int.tmod_lt_of_pos (IntKind.u64.wrap k) (show (0 : Int) < (n : Int) by omega)
  refine ⟨((IntKind.u64.wrap k).tmod (n : Int)).toNat, ?_, by omega⟩
  generalize (IntKind.u64.wrap k).tmod (n : Int) = x at *
  unfold wrap64
  omega
theorem step_append_own {P : Program} {ops : Array Oper} {o : Oper} {a : Act} {w : World} {K : Act → World → Prop} {Q : Exit → Act → World → Prop} {E : Prop} (hgd : o.guard = none) (s x : Operand) (t : TypeId)
    (ho : o.op = .call { callee := .builtin .append, args := #[s, x], argTypes := #[t, t] })
    (base : Nat) (e : TypeId) (i : TypeInfo) (z : Value) (size bytes : Nat) (ht : P.underlying t = some (.slice e)) (hi : P.info? e = some i) (hz : i.zero = some z)
    (hsize : i.size = size) (hby : i.bytes = bytes) (hzs : z.cells.size = size) (hsz : 0 < size)
    (v : Value) (n : Nat) (xs : List Value) (hs : a.eval s = v) (hown : w.ownsRow base e size v n xs)
    (ad : Addr) (m c : Nat) (news : List Value) (hx : a.eval x = .slice (some ad) m c) (hl : news.length = m * size) (hnews : ∀ j u, news[j]? = some u → w.cell? (ad.add j) = some u) (h1 : ∀ u ∈ news, u.oneCell' = true)
    (h63 : n + m ≤ maxLen) (hbytes : (n + m) * bytes ≤ 140737488355328) (hbase : base ≤ w.heap.size)
    (h : ∀ v' w', w'.ownsRow base e size v' (n + m) (xs ++ news) → w.grownBy w' v.ownBlock → (v' = .slice none 0 0 ↔ v = .slice none 0 0 ∧ m = 0) → K (a.put o.dst v') w') :
    if Region.wanted o (yielded ops a.tmps) = true then Oper.wp P o a w K Q else E := by
  have hw : Region.wanted o (yielded ops a.tmps) = true := by simp [Region.wanted, hgd]
  rw [if_pos hw]
  exact wp_append_own w s x t ho base e i z size bytes ht hi hz hsize hby hzs hsz v n xs hs hown ad m c news hx hl hnews h1 h63 hbytes hbase h
theorem rest_each {Q : Dg → Dc → Prop} {k : Nat} {ds : List Dg} {cs : List Dc} (hlen : ds.length = cs.length) (h : ∀ (i : Nat) (d : Dg) (x : Dc), ds[i]? = some d → cs[i]? = some x → Q d x) : ∀ (i : Nat) (d : Dg) (x : Dc), (rest k ds)[i]? = some d → (restC k cs)[i]? = some x → Q d x := by
  intro i d x h1 h2
  unfold rest at h1
  unfold restC at h2
  by_cases hi : i < (ds.take k).length
  · rw [List.getElem?_append_left hi] at h1
    rw [List.getElem?_append_left (by simp at hi ⊢; omega)] at h2
    have hik : i < k := by simp at hi; omega
    rw [List.getElem?_take_of_lt hik] at h1 h2
    exact h i d x h1 h2
  · rw [List.getElem?_append_right (by omega), List.getElem?_drop] at h1
    rw [List.getElem?_append_right (by simp at hi ⊢; omega), List.getElem?_drop] at h2
    have hh : (ds.take k).length = (cs.take k).length := by simp [hlen]
    rw [← hh] at h2
    exact h _ d x h1 h2
theorem restC_len {k m : Nat} {cs : List Dc} (h : cs.length = m + 1) (hk : k ≤ m) : (restC k cs).length = m := by simp [restC, h]; omega
theorem rest_len {k m : Nat} {ds : List Dg} (h : ds.length = m + 1) (hk : k ≤ m) : (rest k ds).length = m := by simp [rest, h]; omega
theorem restC_mem {k : Nat} {cs : List Dc} {x : Dc} (h : x ∈ restC k cs) : x ∈ cs := by
  rcases List.mem_append.1 h with h | h
  · exact List.mem_of_mem_take h
  · exact List.mem_of_mem_drop h
theorem arg_rest {w : World} {B : Nat} {a a' : Option Addr} {n c m k : Nat} {ds : List Dg} {cs : List Dc} (h : w.ownsRow B 46 5 (.slice a' m c) m (flatD (rest k ds))) (hA : ArgRow w (fun q => q < w.heap.size) a n ds cs) (hn : n = m + 1) (hk : k ≤ m) : ArgRow w (fun q => q < w.heap.size) a' m (rest k ds) (restC k cs) := by
  have hd : ds.length = m + 1 := by rw [hA.len, hn]
  have hc : cs.length = m + 1 := by rw [hA.lenc, hn]
  refine ⟨rest_len hd hk, restC_len hc hk, ?_, rest_each (by omega) hA.each⟩
  rcases Nat.eq_zero_or_pos m with e0 | e0
  · exact .inl e0
  · obtain ⟨m', hm⟩ : ∃ m', m = m' + 1 := ⟨m - 1, by omega⟩
    have h2 := h
    rw [hm] at h2
    obtain ⟨g, cap, e⟩ := owns_some h2
    simp only [Value.slice.injEq] at e
    obtain ⟨rfl, _, rfl⟩ := e
    exact .inr ⟨g, 0, rfl, (owns_lt h rfl).2, owns_range h⟩
set_option maxRecDepth 100000 in
set_option maxHeartbeats 4000000 in
theorem n5 (a : Option Addr) (n c : Nat) (ds : List Dg) (cs : List Dc) (k : Int) (w : World) (hA : ArgRow w (fun q => q < w.heap.size) a n ds cs) (hn : n * 56 ≤ 140737488355328) (hnc : n ≤ c) (hcm : c ≤ maxLen) :
    Calls Try.prog 5 #[.slice a n c, .int .i64 k] w fun e w' => e = .returned (.bool true) ∧ Below w.heap.size w w' := by
  have HA : Hid (ArgRow w (fun q => q < w.heap.size) a n ds cs) := hA
  have hdl : ds.length = n := hA.len
  clear hA
  go_enter Try.func5, Try.ntmps5
  go_wp2_with fail
  refine (n10 w).mono ?_
  rintro e w1 ⟨rfl, hb1⟩
  have HB1 : Hid (Below w.heap.size w w1) := hb1
  clear hb1
  go_wp2_with fail
  refine (n8 4 (by decide) (by decide) w1).mono ?_
  rintro e w2 ⟨rfl, hw2⟩
  have hN2 : NtC w2 w1.heap.size w1.heap.size (.slice none 0 0) ⟨[], 0, 0, 0, 0, 4⟩ [] := ⟨⟨by rw [hw2]; exact heap_alloc_new w1 _, World.ownsRow_nil _ _ _ _⟩, rfl, fun i d x h => by simp at h⟩
  have hb2 : Below w1.heap.size w1 w2 := by rw [hw2]; exact (Below.refl _ w1).alloc (Nat.le_refl _) _
  have hs2 : w2.heap.size = w1.heap.size + 1 := by rw [hw2]; simp
  have hb02 : Below w.heap.size w w2 := HB1.out.trans (hb2.mono HB1.out.size)
  clear hw2
  have hs1 := HB1.out.size
  have H16 := n16 w1.heap.size w1.heap.size (.slice none 0 0) ⟨[], 0, 0, 0, 0, 4⟩ [] (fun q => q < w.heap.size) a n c ds cs w2 hN2 (by omega) (HA.out.kept fun q hq => hb02.block q hq) (fun q hq => ⟨by omega, by omega, by simp [Value.ownBlock]⟩) (by simpa using hn) (show (0 : Int) ≤ 0 by decide) (show (0 : Int) ≤ 1000000000000 by decide)
  have HN2 : Hid (NtC w2 w1.heap.size w1.heap.size (.slice none 0 0) ⟨[], 0, 0, 0, 0, 4⟩ [] ∧ Below w.heap.size w w2 ∧ w2.heap.size = w1.heap.size + 1) := ⟨hN2, hb02, hs2⟩
  generalize hnb : w1.heap.size = nb at *
  clear hN2 hb02 hb2 hs2
  simp only at H16
  obtain ⟨q, hq⟩ : ∃ q, allE 4 ds = q := ⟨_, rfl⟩
  rw [hq] at H16
  by_cases hq0 : q = 0
  · subst hq0
    have HE : Hid (allE 4 ds = 0) := hq
    clear hq
    go_wp2_with fail
    refine H16.mono ?_
    rintro e w3 ⟨rfl, hp3⟩
    clear H16
    obtain ⟨v3, l3, hN3, hb3⟩ : ∃ v3 l3, NtC w3 nb nb v3 ⟨l3, 0 + ds.length, 0, 0, 0, 4⟩ cs ∧ Below nb w2 w3 := by
      rcases hp3 with ⟨_, v', l', h1, h2⟩ | ⟨h1, _⟩
      · exact ⟨v', l', h1, h2.under HN2.out.1.at_ (Nat.le_refl _) (by have := HN2.out.2.2; omega)⟩
      · exact absurd HE.out h1
    clear hp3
    have hb03 : Below w.heap.size w w3 := HN2.out.2.1.trans (hb3.mono hs1)
    have hl3 : l3.length = n := by have := hN3.own.1; rw [HA.out.lenc] at this; exact this
    have HX : Hid (∀ x ∈ cs, x.xs.length ≤ 65536) := send_bytes HA.out HE.out
    have H15 := n15 nb nb v3 ⟨l3, 0 + ds.length, 0, 0, 0, 4⟩ cs w3 hN3 (by show l3.length * 56 ≤ _; omega) (fun x hx => by have := HX.out x hx; omega)
    have HN3 : Hid (NtC w3 nb nb v3 ⟨l3, 0 + ds.length, 0, 0, 0, 4⟩ cs ∧ Below w.heap.size w w3 ∧ l3.length = n ∧ nb ≤ w3.heap.size) := ⟨hN3, hb03, hl3, by have := HN2.out.2.2; have := hb3.size; omega⟩
    clear hN3 hb03 hl3 hb3 HN2
    go_wp2_with fail
    refine H15.mono ?_
    rintro e w4 ⟨u4, rfl, l4, ho4, hl4, hb4⟩
    clear H15
    obtain ⟨a4, c4, hu4⟩ := owns_slice ho4
    subst hu4
    have hl4n : l4.length = n := by have := hl4.1; rw [HA.out.lenc] at this; exact this
    have hA4 := (arg_of_own ho4 hl4).2
    have hb04 : Below w.heap.size w w4 := HN3.out.2.1.trans (hb4.mono HN3.out.2.1.size)
    have hAw4 := HA.out.below hb04
    rw [hl4n] at hA4 ⊢
    have H22 := n22 _ _ a4 n c4 l4 a c ds cs w4 hA4 hAw4 (fun _ h => h) (fun _ h => h) (fun x hx => by have := HX.out x hx; unfold maxLen; omega) (by unfold maxLen; omega)
    have HN4 : Hid (NtC w4 nb nb v3 ⟨l3, 0 + ds.length, 0, 0, 0, 4⟩ cs ∧ Below w.heap.size w w4 ∧ l3.length = n ∧ nb ≤ w4.heap.size) := ⟨HN3.out.1.below hb4, hb04, HN3.out.2.2.1, Nat.le_trans HN3.out.2.2.2 hb4.size⟩
    clear hA4 hAw4 hb04 hl4 ho4 hb4 HN3
    go_wp2_with fail
    refine H22.mono ?_
    rintro e w5 ⟨rfl, hb5⟩
    clear H22
    have HN5 : Hid (NtC w5 nb nb v3 ⟨l3, 0 + ds.length, 0, 0, 0, 4⟩ cs ∧ Below w.heap.size w w5 ∧ l3.length = n ∧ nb ≤ w5.heap.size) := ⟨HN4.out.1.below hb5, HN4.out.2.1.trans (hb5.mono HN4.out.2.1.size), HN4.out.2.2.1, Nat.le_trans HN4.out.2.2.2 hb5.size⟩
    clear hb5 HN4
    by_cases hz : n = 0
    · subst hz
      have H21 := n21 nb nb v3 ⟨l3, 0 + ds.length, 0, 0, 0, 4⟩ w5 HN5.out.1.at_
      have e0 : l3.length = 0 := HN5.out.2.2.1
      simp only [e0] at H21
      go_wp2_with fail
      refine H21.mono ?_
      rintro e w6 ⟨rfl, hw⟩
      obtain rfl := hw
      go_wp2_with fail
      go_ret
      exact ⟨rfl, HN5.out.2.1⟩
    · have hz1 : ((n : Int) == 0) = false := by simp; omega
      obtain ⟨i, hi, hin⟩ := idx k n (by omega) (by omega)
      obtain ⟨m, hm⟩ : ∃ m, n = m + 1 := ⟨n - 1, by omega⟩
      have HM : Hid (n = m + 1) := hm
      clear hm
      have hic : i < cs.length := by rw [HA.out.lenc]; exact hin
      have hid : i < ds.length := by rw [hdl]; exact hin
      obtain ⟨b, o, d, x, rfl, hbS, hdi, hxi, hDI, hBy, _⟩ := HA.out.cells i hin
      have H17 := n17 nb nb v3 ⟨l3, 0 + ds.length, 0, 0, 0, 4⟩ cs i x w5 HN5.out.1 (by show i < l3.length; rw [HN5.out.2.2.1]; exact hin) hxi (show (0 : Int) ≤ 0 by decide) (show (0 : Int) ≤ 1000000000000 by decide) (by have := HX.out x (List.mem_of_getElem? hxi); omega)
      go_wp2_with fail
      rw [hi]
      refine H17.mono ?_
      rintro e w6 ⟨d6, rfl, hd6, v6, l6, hN6, hF6⟩
      clear H17
      have hb06 : Below w.heap.size w w6 := HN5.out.2.1.trans ((hF6.under HN5.out.1.at_ (Nat.le_refl _) HN5.out.2.2.2).mono hs1)
      have hnb6 : nb ≤ w6.heap.size := by have := hN6.at_.lt; omega
      obtain ⟨fr6, to6, ak6, sq6, ba6, bn6, bc6⟩ := d6
      simp only [Dg.box]
      have hbA : Below w6.heap.size w6 (w6.alloc (.cells #[.int .i64 fr6, .int .i64 to6, .bool ak6, .int .i64 sq6, .slice ba6 bn6 bc6] 46)) := (Below.refl _ w6).alloc (Nat.le_refl _) _
      have hD6 : OwnD (w6.alloc (.cells #[.int .i64 fr6, .int .i64 to6, .bool ak6, .int .i64 sq6, .slice ba6 bn6 bc6] 46)) w5.heap.size ⟨fr6, to6, ak6, sq6, ba6, bn6, bc6⟩ x := ⟨hd6.1, owns_below hd6.2 hbA⟩
      have hX6 : BoxS w6.heap.size ⟨fr6, to6, ak6, sq6, ba6, bn6, bc6⟩ (w6.alloc (.cells #[.int .i64 fr6, .int .i64 to6, .bool ak6, .int .i64 sq6, .slice ba6 bn6 bc6] 46)) := boxS_new w6 ⟨fr6, to6, ak6, sq6, ba6, bn6, bc6⟩
      have hz6 : w6.heap.size < (w6.alloc (.cells #[.int .i64 fr6, .int .i64 to6, .bool ak6, .int .i64 sq6, .slice ba6 bn6 bc6] 46)).heap.size := by simp
      have HN6 : Hid (NtC (w6.alloc (.cells #[.int .i64 fr6, .int .i64 to6, .bool ak6, .int .i64 sq6, .slice ba6 bn6 bc6] 46)) nb nb v6 ⟨l6, 0 + ds.length, 0 + 1, 0, 0, 4⟩ (restC i cs) ∧ Below w.heap.size w (w6.alloc (.cells #[.int .i64 fr6, .int .i64 to6, .bool ak6, .int .i64 sq6, .slice ba6 bn6 bc6] 46)) ∧ OwnD (w6.alloc (.cells #[.int .i64 fr6, .int .i64 to6, .bool ak6, .int .i64 sq6, .slice ba6 bn6 bc6] 46)) w5.heap.size ⟨fr6, to6, ak6, sq6, ba6, bn6, bc6⟩ x ∧ BoxS w6.heap.size ⟨fr6, to6, ak6, sq6, ba6, bn6, bc6⟩ (w6.alloc (.cells #[.int .i64 fr6, .int .i64 to6, .bool ak6, .int .i64 sq6, .slice ba6 bn6 bc6] 46))) := ⟨hN6.below hbA, hb06.trans (hbA.mono hb06.size), hD6, hX6⟩
      go_wp2_with fail
      clear hbA hD6 hX6 hN6 hd6 hF6 hb06 HN5
      have HX6 : Hid (∀ W', Below w.heap.size w W' → ∀ (j : Nat) (u : Value), (flatD ds)[j]? = some u → W'.cell? ⟨b, o + j, none⟩ = some u) := fun W' hW' => by
        have h1 := (HA.out.below hW').row
        rcases h1 with e | ⟨b', o', e, _, hr⟩
        · omega
        · simp only [Option.some.injEq, Addr.mk.injEq, and_true] at e
          obtain ⟨rfl, rfl⟩ := e
          exact hr
      generalize hDn : w6.heap.size = D at *
      generalize w6.alloc (.cells #[.int .i64 fr6, .int .i64 to6, .bool ak6, .int .i64 sq6, .slice ba6 bn6 bc6] 46) = W7 at *
      obtain ⟨j1, hj1⟩ : ∃ j1, j1 = i + 1 := ⟨_, rfl⟩
      have hnl : (flatD (ds.drop j1)).length = (n - j1) * 5 := by rw [flatD_length, List.length_drop, hdl]
      obtain ⟨A, hA9, hsrc⟩ : ∃ A : Addr, (if c = j1 then some (⟨b, o, none⟩ : Addr) else some ⟨b, o + j1 * 5, none⟩) = some A ∧ Hid (∀ W', Below w.heap.size w W' → ∀ t u, (flatD (ds.drop j1))[t]? = some u → W'.cell? (A.add t) = some u) := by
        by_cases h : c = j1
        · refine ⟨⟨b, o, none⟩, by simp [h], fun W' _ t u hu => ?_⟩
          have h0 : (flatD (ds.drop j1)).length = 0 := by rw [hnl]; omega
          rw [List.length_eq_zero_iff.1 h0] at hu
          simp at hu
        · refine ⟨⟨b, o + j1 * 5, none⟩, by simp [h], fun W' hW' t u hu => ?_⟩
          rw [Addr.add_mid]
          rw [flatD_drop, List.getElem?_drop] at hu
          have := HX6.out W' hW' _ u hu
          rwa [show o + (j1 * 5 + t) = o + j1 * 5 + t by omega] at this
      have hsrc1 : Hid (∀ W', Below w.heap.size w W' → ∀ t u, (flatD (ds.take i))[t]? = some u → W'.cell? ((⟨b, o, none⟩ : Addr).add t) = some u) := fun W' hW' t u hu => by
        rw [Addr.add_mid]
        have ht : t < i * 5 := by
          have := (List.getElem?_eq_some_iff.1 hu).1
          rw [flatD_length, List.length_take] at this; omega
        rw [flatD_take, List.getElem?_take_of_lt ht] at hu
        exact HX6.out W' hW' _ u hu
      have s1 : Hid ((flatD (ds.take i)).length = i * 5) := by show (flatD (ds.take i)).length = i * 5; rw [flatD_length, List.length_take]; omega
      have s2 : Hid ((flatD (ds.drop j1)).length = (n - j1) * 5) := hnl
      obtain ⟨i0, hi0, hz0, hsz0, hby0⟩ := info46
      have HO8 : Hid ((W7.drew.alloc (.cells #[] 46)).ownsRow W7.heap.size 46 5 (.slice (some ⟨W7.heap.size, 0, none⟩) 0 0) 0 []) := ⟨rfl, .inr ⟨W7.heap.size, 0, #[], rfl, Nat.le_refl _, heap_alloc_new W7.drew _, Nat.le_refl _, by simp, rfl, rfl⟩⟩
      have HB8 : Hid (Below W7.heap.size W7 (W7.drew.alloc (.cells #[] 46)) ∧ Below w.heap.size w (W7.drew.alloc (.cells #[] 46)) ∧ W7.heap.size ≤ (W7.drew.alloc (.cells #[] 46)).heap.size) := by
        have h1 : Below W7.heap.size W7 (W7.drew.alloc (.cells #[] 46)) := ((Below.refl _ W7).drew).alloc (Nat.le_refl _) _
        exact ⟨h1, HN6.out.2.1.trans (h1.mono HN6.out.2.1.size), by simp⟩
      have hj2 : (j1 : Int) ≤ (n : Int) := by omega
      have hj3 : (0 : Int) ≤ (j1 : Int) := by omega
      have hwj : IntKind.i64.wrap ((i : Int) + 1) = (j1 : Int) := by rw [hj1]; simp only [IntKind.wrap, IntKind.bits, IntKind.signed]; simp; omega
      have hi2 : (0 : Int) ≤ (i : Int) := by omega
      have hcm' : (c : Int) ≤ 9223372036854775807 := by unfold maxLen at hcm; omega
      have hic0 : i ≤ c := by omega
      have hic1 : j1 ≤ c := by omega
      have hic2 : j1 ≤ n := by omega
      have HJ : Hid (j1 = i + 1) := hj1
      clear hnl
      have hjn : i + (n - j1) + 1 = n := by omega
      have HJN : Hid (i + (n - j1) + 1 = n) := hjn
      clear hj1 hjn
      go_region_law (first
        | (refine step_append_own rfl (.tmp 60) (.tmp 63) 34 rfl W7.heap.size 46 i0 _ 5 56 Try.underlying34 hi0 hz0 hsz0 hby0 rfl (by decide) _ _ _ (by simp [Act.eval]) HO8.out ⟨b, o, none⟩ i c (flatD (ds.take i)) (by simp [Act.eval]) s1.out (hsrc1.out _ HB8.out.2.1) (flatD_one _) (by unfold maxLen; omega) (by omega) HB8.out.2.2 ?_; intro v8 w8 ho8 hg8 _; obtain ⟨a8, c8, hv8⟩ := owns_slice ho8; subst hv8)
        | (refine step_append_own rfl (.tmp 64) (.tmp 68) 34 rfl W7.heap.size 46 i0 _ 5 56 Try.underlying34 hi0 hz0 hsz0 hby0 rfl (by decide) _ _ _ (by simp [Act.eval]) ho8 A (n - j1) (c - j1) (flatD (ds.drop j1)) (by simp [Act.eval]) s2.out (hsrc.out _ (HB8.out.2.1.grown hg8 (Nat.le_trans HN6.out.2.1.size HB8.out.2.2) (fun q e => Nat.le_trans HN6.out.2.1.size (HO8.out.lt q e).1))) (flatD_one _) (by have := HJN.out; unfold maxLen; omega) (by have := HJN.out; omega) (Nat.le_trans HB8.out.2.2 hg8.size) ?_; intro v9 w9 ho9 hg9 _; obtain ⟨a9, c9, hv9⟩ := owns_slice ho9; subst hv9))
      go_wp2_with fail
      have hgb : Below W7.heap.size W7 w8 := HB8.out.1.grown hg8 HB8.out.2.2 (fun q e => (HO8.out.lt q e).1)
      have hb79 : Below W7.heap.size W7 w9 := hgb.grown hg9 (Nat.le_trans HB8.out.2.2 hg8.size) (fun q e => (ho8.lt q e).1)
      have hb09 : Below w.heap.size w w9 := HN6.out.2.1.trans (hb79.mono HN6.out.2.1.size)
      have hmn : 0 + i + (n - j1) = m := by have := HJN.out; have := HM.out; omega
      have hA9' := HA.out.below hb09
      have hAr : ArgRow w9 (fun q => q < w9.heap.size) a9 m (rest i ds) (restC i cs) := by
        refine arg_rest (B := W7.heap.size) (c := c9) (n := n) (a := some ⟨b, o, none⟩) ?_ hA9' HM.out (by have := HM.out; omega)
        have h2 := ho9
        rw [hmn] at h2
        unfold rest
        rw [flatD_append, ← HJ.out]
        simpa using h2
      have hN9 := HN6.out.1.below hb79
      have hX9 := boxS_below HN6.out.2.2.2 hb79 hz6
      have hD9 : OwnB w9 w5.heap.size ba6 bn6 bc6 x.xs := owns_below HN6.out.2.2.1.2 hb79
      have hbd : Below w9.heap.size w9 w9.drew := Below.drew (Below.refl _ _)
      have hxm : x.xs.length ≤ maxLen := by have := HX.out x (List.mem_of_getElem? hxi); unfold maxLen; omega
      have H23 := n23 ⟨fr6, to6, ak6, sq6, ba6, bn6, bc6⟩ d x x w9.drew HN6.out.2.2.1.1 hDI (hD9.at.below hbd) (((hBy.kept fun q hq => hb09.block q hq).at fun q hq => Nat.lt_of_lt_of_le hq hb09.size).below hbd) (by rw [HN6.out.2.2.1.1.2.2.2.2]; exact hxm) (by rw [hDI.2.2.2.2]; exact hxm)
      rw [sameC_self] at H23
      have hl6 : l6.length = m := by
        have := hN9.own.1
        rw [restC_len (m := m) (by rw [HA.out.lenc, HM.out]) (by have := HM.out; omega)] at this
        exact this
      have H15 : Hid (∀ W', Below w9.heap.size w9 W' → Calls Try.prog 15 #[.pointer (some ⟨nb, 0, none⟩)] W' fun e w' => ∃ u, e = .returned u ∧ WaitPost (restC i cs) W' u w') := fun W' hW' =>
        n15 nb nb v6 _ (restC i cs) W' (hN9.below hW') (by show l6.length * 56 ≤ _; have := HM.out; omega) (fun y hy => by have := HX.out y (restC_mem hy); omega)
      have H22 : Hid (∀ (W' : World) (B : Nat) (a' : Option Addr) (c' : Nat) (l' : List Dg), Below w9.heap.size w9 W' → W'.ownsRow B 46 5 (.slice a' l'.length c') l'.length (flatD l') → OwnL W' B l' (restC i cs) → Calls Try.prog 22 #[.slice a' l'.length c', .slice a9 (0 + i + (n - j1)) c9] W' fun e w' => e = .returned (.bool true) ∧ Below W'.heap.size W' w') := fun W' B a' c' l' hW' ho hl => by
        have h1 := (arg_of_own ho hl).2
        have h3 : l'.length = m := by rw [hl.1]; exact restC_len (by rw [HA.out.lenc, HM.out]) (by have := HM.out; omega)
        rw [h3] at h1 ⊢
        rw [hmn]
        exact n22 _ _ a' m c' l' a9 c9 (rest i ds) (restC i cs) W' h1 (hAr.below hW') (fun _ h => h) (fun _ h => h) (fun y hy => by have := HX.out y (restC_mem hy); unfold maxLen; omega) (by have := HM.out; unfold maxLen; omega)
      obtain ⟨x0, x1, x2, x3, x4⟩ := hX9
      obtain ⟨b', o', d', x', e', _, hd', _, _, _, y0, y1, y2, y3, y4⟩ := hA9'.cells i hin
      simp only [Option.some.injEq, Addr.mk.injEq, and_true] at e'
      obtain ⟨rfl, rfl⟩ := e'
      rw [hdi] at hd'
      cases hd'
      obtain ⟨fr7, to7, ak7, sq7, ba7, bn7, bc7⟩ := d
      simp only at x0 x1 x2 x3 x4 y0 y1 y2 y3 y4
      have hbF : Hid (Below w.heap.size w w9) := hb09
      have hin' : (i : Int) < (n : Int) := by omega
      rw [Nat.zero_add] at *
      clear hgb hb79 hb09 hmn hA9' hAr hN9 hD9 hbd hxm hl6 ho8 hg8 ho9 hg9 HN6 HX HX6 hsrc hsrc1 HO8 HB8 hBy hDI hbS
      go_region_with (first
        | (go_at_call 23; refine H23.mono ?_; rintro e wA ⟨rfl, hbA⟩; have hbA9 : Below w9.heap.size w9 wA := (Below.drew (Below.refl _ _)).trans hbA)
        | (go_at_call 15; refine (H15.out _ (by assumption)).mono ?_; rintro e wB ⟨uB, rfl, lB, hoB, hlB, hbB⟩; obtain ⟨aB, cB, hvB⟩ := owns_slice hoB; subst hvB; have hbB9 : Below w9.heap.size w9 wB := hbA9.trans (hbB.mono hbA9.size))
        | (go_at_call 22; refine (H22.out _ _ _ _ lB hbB9 hoB hlB).mono ?_; rintro e wC ⟨rfl, hbC⟩))
      all_goals (
        have HF : Hid (Below w.heap.size w wC) := (hbF.out.trans (hbB9.mono hbF.out.size)).trans (hbC.mono (Nat.le_trans hbF.out.size hbB9.size))
        clear hbC hbB hbA hoB hlB
        go_wp2_with fail
        go_ret
        exact ⟨rfl, HF.out⟩)
  · have hq1 : (q == 0) = false := by simpa using hq0
    have hq2 : (q != 0) = true := by simpa using hq0
    have HE : Hid (allE 4 ds ≠ 0) := by show allE 4 ds ≠ 0; rw [hq]; exact hq0
    clear hq
    go_wp2_with fail
    refine H16.mono ?_
    rintro e w3 ⟨rfl, hp3⟩
    clear H16
    have hb3 : Below w2.heap.size w2 w3 := by
      rcases hp3 with ⟨h1, _⟩ | ⟨_, h2⟩
      · exact absurd h1 HE.out
      · exact h2
    have H21 := n21 nb nb (.slice none 0 0) ⟨[], 0, 0, 0, 0, 4⟩ w3 (HN2.out.1.below hb3).at_
    have HB3 : Hid (Below w.heap.size w w3) := HN2.out.2.1.trans (hb3.mono HN2.out.2.1.size)
    clear hp3 hb3
    go_wp2_with fail
    refine H21.mono ?_
    rintro e w4 ⟨rfl, hw⟩
    obtain rfl := hw
    go_wp2_with fail
    go_ret
    exact ⟨rfl, HB3.out⟩
end Go.Proofs.Ythpbfaddojcohaa
