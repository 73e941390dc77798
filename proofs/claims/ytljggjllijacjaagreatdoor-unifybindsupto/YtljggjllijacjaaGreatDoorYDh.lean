/- Contract of step of what is being solved, of whatever kind. -/
import Derived.Test.YtljggjllijacjaaGreatDoorYAxh
import Derived.Deep.AppendSrc
namespace Go.Proofs.YtljggjllijacjaaGreatDoor
open Go.RowKit
attribute [local go_sem ↓] Go.wp_at_zero Go.wp_at_succ
theorem signs_low {B : Nat} {w w' : World} (h : Signs w) (hb : Below B w w') (hB : 0 < B) (hw : B ≤ w.heap.size) : Signs w' := by
  have e := hb.block 0 hB
  refine ⟨by have := hb.size; omega, fun j v hv => ?_⟩
  exact (World.cell?_of_block (a := ⟨0, 0 + j, none⟩) e).trans (h.2 j v hv)
theorem rows_base {w : World} {b b' e s n : Nat} {v : Value} {xs : List Value} (h : w.ownsRow b e s v n xs) (hb : b' ≤ b) : w.ownsRow b' e s v n xs := by
  refine ⟨h.1, ?_⟩
  rcases h.2 with h1 | ⟨g, cap, cur, h1, h2, h3⟩
  · exact .inl h1
  · exact .inr ⟨g, cap, cur, h1, Nat.le_trans hb h2, h3⟩
def Sq (w : World) (B sb hb M n0 : Nat) (s : Sta) : Prop := ∃ bv rv n D V ts us, n ≤ n0 + s.d ∧ Sc w B sb hb M s.m s.bd s.row s.d bv rv n D V ts us
section
variable {w w' : World} {B sb hb M : Nat} {m : Hp} {bd : List (Nm × List C)} {row : List (List C)} {d : Nat} {bv rv : Value} {n : Nat} {D : DataW Value} {V : Nat → Prop} {ts us : List Value}
theorem Sc.bind {x : Nm} {l : List C} (h : Sc w B sb hb M m bd row d bv rv n D V ts us) (hp : BindPost m x l hb M n D w w') (hm : ∀ y l', lookH (bindH m x l) y = some l' → l' ≠ []) : ∃ n' D' V', n' ≤ n + 1 ∧ Sc w' B sb hb M (bindH m x l) bd row d bv rv n' D' V' ts us ∧ Below B w w' := by
  obtain ⟨n', D', b1, b2, b3, b4⟩ := hp
  have hty : ∀ (k : Nat) (cur : Array Value) (t : TypeId) (fr : Nat × Nat), w.heap[k]? = some (Obj.cells cur t fr) → w'.heap[k]? = w.heap[k]? := fun k cur t fr hk => b3.2.2.2.2 k (Array.getElem?_eq_some_iff.1 hk).1 fun e => by
    obtain ⟨es, ck, k1, _⟩ := h.hp.map
    rw [e, k1] at hk
    simp at hk
  have hsz := b3.2.2.2.1
  have hsb := (Array.getElem?_eq_some_iff.1 h.rc).1
  refine ⟨n', D', _, b2, ⟨(hty sb _ _ _ h.rc).trans h.rc, owns_blocks h.bo fun k cu hc => hty k cu _ _ hc, owns_blocks h.ro fun k cu hc => hty k cu _ _ hc, h.tl, fun j u b h1 h2 => owns_blocks (h.to j u b h1 h2) fun k cu hc => hty k cu _ _ hc, fun j u l h1 h2 => owns_blocks (h.uo j u l h1 h2) fun k cu hc => hty k cu _ _ hc, h.apt, h.apu, h.apx, b1, vb_cut b1 hm (b4 V h.vb), fun g hg => ?_, h.low.1, h.low.2.1, h.low.2.2.1, Nat.le_trans h.low.2.2.2 hsz⟩, b3.below h.low.2.2.1 h.low.2.2.2⟩
  refine ⟨hg.2, ?_⟩
  rcases hg.1 with k | k
  · exact (h.vv g k).2
  · refine ⟨by omega, fun e => ?_, fun e => ?_⟩
    · have := (h.bo.lt g e).2; omega
    · have := (h.ro.lt g e).2; omega
/-- The row's last equation. -/
theorem Sc.last {t : List C} {r : List (List C)} (h : Sc w B sb hb M m bd (t :: r) d bv rv n D V ts us) : ∃ g cap u, rv = .slice (some ⟨g, 0, none⟩) (r.length + 1) cap ∧ r.length + 1 ≤ cap ∧ cap ≤ maxLen ∧ g < w.heap.size ∧ w.cell? ⟨g, r.length, none⟩ = some u ∧ OwnT w B u t ∧ us = us.take r.length ++ [u] ∧ w.ownsRow B 24 1 (.slice (some ⟨g, 0, none⟩) r.length cap) r.length (us.take r.length) := by
  have h1 := h.ro
  rw [List.length_cons] at h1
  have hul : us.length = r.length + 1 := by have := h1.1; omega
  rcases h1.2 with ⟨_, e⟩ | ⟨g, c, cur, e1, e2, e3, e4, e5, e6, e7⟩
  · omega
  · have hu : us[r.length]? = some us[r.length] := List.getElem?_eq_getElem (by omega)
    refine ⟨g, c, us[r.length], e1, e4, e5, (Array.getElem?_eq_some_iff.1 e3).1, ?_, h.uo r.length _ t hu (by simp), ?_, ⟨by rw [List.length_take]; omega, .inr ⟨g, c, cur, rfl, e2, e3, by omega, e5, e6, ?_⟩⟩⟩
    · have := range_of_owns' e3 e7 r.length _ hu
      simpa using this
    · rw [List.take_append_getElem (by omega), List.take_of_length_le (by omega)]
    · rw [← e7, List.take_take]; congr 1; omega
theorem ap_take {us : List Value} (h : Ap us) (k : Nat) : Ap (us.take k) := by
  intro j j' x y g hne hx hy
  have hj : j < k := by have := (List.getElem?_eq_some_iff.1 hx).1; rw [List.length_take] at this; omega
  have hj' : j' < k := by have := (List.getElem?_eq_some_iff.1 hy).1; rw [List.length_take] at this; omega
  rw [List.getElem?_take_of_lt hj] at hx
  rw [List.getElem?_take_of_lt hj'] at hy
  exact h j j' x y g hne hx hy
/-- The record behind a step's first half: one step more, the equation gone. -/
theorem Sc.pop {t : List C} {r : List (List C)} {g cap : Nat} (h : Sc w B sb hb M m bd (t :: r) d bv rv n D V ts us) (hrv : rv = .slice (some ⟨g, 0, none⟩) (r.length + 1) cap) (hro : w.ownsRow B 24 1 (.slice (some ⟨g, 0, none⟩) r.length cap) r.length (us.take r.length))
    (hk : ∀ k, k < w.heap.size → k ≠ sb → w'.heap[k]? = w.heap[k]?) (hs : w.heap.size ≤ w'.heap.size) (hrc : SvAt w' sb hb bv (.slice (some ⟨g, 0, none⟩) r.length cap) ((d + 1 : Nat) : Int)) : Sc w' B sb hb M m bd r (d + 1) bv (.slice (some ⟨g, 0, none⟩) r.length cap) n D V ts (us.take r.length) := by
  have hty : ∀ (k : Nat) (cur : Array Value) (t : TypeId) (fr : Nat × Nat), t ≠ 104 → w.heap[k]? = some (Obj.cells cur t fr) → w'.heap[k]? = w.heap[k]? := fun k cur t fr ht hc => hk k (Array.getElem?_eq_some_iff.1 hc).1 fun e => by
    have h1 := h.rc
    unfold SvAt at h1
    rw [e, h1] at hc
    simp only [Option.some.injEq, Obj.cells.injEq] at hc
    exact ht hc.2.1.symm
  refine h.turn ⟨hs, fun k h1 h2 _ _ => hk k h1 h2⟩ hrc (owns_blocks h.bo fun k cu hc => hty k cu _ _ (by decide) hc) (owns_blocks hro fun k cu hc => hty k cu _ _ (by decide) hc) h.tl (fun j u b h1 h2 => .inl (h.to j u b h1 h2)) (fun j u l h1 h2 => .inl ?_) h.apt (ap_take h.apu _) (fun x hx u hu => h.apx x hx u (List.mem_of_mem_take hu)) (.inl rfl) (.inl (by rw [hrv]; rfl))
  have hj : j < r.length := by have := (List.getElem?_eq_some_iff.1 h2).1; simpa using this
  rw [List.getElem?_take_of_lt hj] at h1
  exact h.uo j u l h1 (by rw [List.reverse_cons, List.getElem?_append_left (by simpa using hj)]; exact h2)
end
theorem ap_mem {us : List Value} (h : ∀ (i j : Nat) (hi : i < us.length) (hj : j < us.length) (g : Nat), i ≠ j → us[i].ownBlock = some g → us[j].ownBlock ≠ some g) : Ap us := by
  intro j j' x y g hne hx hy
  obtain ⟨h1, rfl⟩ := List.getElem?_eq_some_iff.1 hx
  obtain ⟨h2, rfl⟩ := List.getElem?_eq_some_iff.1 hy
  exact h j j' h1 h2 g hne
theorem ap_append {us vs : List Value} (h1 : Ap us) (h2 : Ap vs) (hx : ∀ u ∈ us, ∀ v ∈ vs, ∀ g, u.ownBlock = some g → v.ownBlock ≠ some g) : Ap (us ++ vs) := by
  refine ap_mem fun i j hi hj g hne hg => ?_
  by_cases ai : i < us.length
  · rw [List.getElem_append_left ai] at hg
    by_cases aj : j < us.length
    · rw [List.getElem_append_left aj]
      exact h1 i j _ _ g hne (List.getElem?_eq_getElem ai) (List.getElem?_eq_getElem aj) hg
    · rw [List.getElem_append_right (by omega)]
      exact hx _ (List.getElem_mem ai) _ (List.getElem_mem _) g hg
  · rw [List.getElem_append_right (by omega)] at hg
    by_cases aj : j < us.length
    · rw [List.getElem_append_left aj]
      exact fun e => hx _ (List.getElem_mem aj) _ (List.getElem_mem _) g e hg
    · rw [List.getElem_append_right (by omega)]
      rw [List.length_append] at hi hj
      exact h2 (i - us.length) (j - us.length) _ _ g (by omega) (List.getElem?_eq_getElem (by omega)) (List.getElem?_eq_getElem (by omega)) hg
theorem ap_rev {us : List Value} (h : Ap us) : Ap us.reverse := by
  refine ap_mem fun i j hi hj g hne hg => ?_
  rw [List.getElem_reverse] at hg ⊢
  rw [List.length_reverse] at hi hj
  exact h _ _ _ _ g (by omega) (List.getElem?_eq_getElem (by omega)) (List.getElem?_eq_getElem (by omega)) hg
section
variable {w : World} {B sb hb M : Nat} {m : Hp} {bd : List (Nm × List C)} {row : List (List C)} {d : Nat} {bv rv : Value} {n : Nat} {D : DataW Value} {V : Nat → Prop} {ts us : List Value}
theorem Sc.ts_lt (h : Sc w B sb hb M m bd row d bv rv n D V ts us) {u : Value} (hu : u ∈ ts) {g : Nat} (hg : u.ownBlock = some g) : g < w.heap.size := by
  obtain ⟨j, hj, rfl⟩ := List.getElem_of_mem hu
  have hl := h.tl
  exact ((h.to j _ _ (List.getElem?_eq_getElem hj) (List.getElem?_eq_getElem (by omega))).lt g hg).2
theorem Sc.us_lt (h : Sc w B sb hb M m bd row d bv rv n D V ts us) {u : Value} (hu : u ∈ us) {g : Nat} (hg : u.ownBlock = some g) : g < w.heap.size := by
  obtain ⟨j, hj, rfl⟩ := List.getElem_of_mem hu
  have hl := h.ro.1
  have hj' : j < row.reverse.length := by rw [List.length_reverse]; omega
  exact ((h.uo j _ _ (List.getElem?_eq_getElem hj) (List.getElem?_eq_getElem hj')).lt g hg).2
end
theorem bind_all {w w' : World} {B sb hb M : Nat} {m : Hp} {bd : List (Nm × List C)} {row : List (List C)} {d : Nat} {bv rv : Value} {n : Nat} {D : DataW Value} {V : Nat → Prop} {ts us : List Value} {x : Nm} {l : List C} (h : Sc w B sb hb M m bd row d bv rv n D V ts us) (hp : BindPost m x l hb M n D w.drew w') (hm : ∀ y l', lookH (bindH m x l) y = some l' → l' ≠ []) :
    ∃ n' D' V', n' ≤ n + 1 ∧ Sc w' B sb hb M (bindH m x l) bd row d bv rv n' D' V' ts us ∧ w.drew.heap.size ≤ w'.heap.size ∧ Below B w w' ∧ ∀ (k : Nat) (cur : Array Value) (t : TypeId) (fr : Nat × Nat), w.heap[k]? = some (Obj.cells cur t fr) → w'.heap[k]? = some (Obj.cells cur t fr) := by
  have hd := h.below (Below.drew (Below.refl _ w))
  obtain ⟨n', D', V', h1, h2, h3⟩ := hd.bind hp hm
  obtain ⟨_, _, _, _, b3, _⟩ := hp
  refine ⟨n', D', V', h1, h2, b3.2.2.2.1, ((Below.refl B w).drew).trans h3, fun k cur t fr hk => ?_⟩
  refine (b3.2.2.2.2 k (Array.getElem?_eq_some_iff.1 hk).1 fun e => ?_).trans hk
  obtain ⟨es, ck, k1, _⟩ := h.hp.map
  rw [e, k1] at hk
  simp at hk
theorem owns_eq2 {w w' : World} {B e s n : Nat} {v : Value} {xs : List Value} (h : w.ownsRow B e s v n xs) (hg : ∀ g, v.ownBlock = some g → w'.heap[g]? = w.heap[g]?) : w'.ownsRow B e s v n xs := by
  refine ⟨h.1, ?_⟩
  rcases h.2 with hh | ⟨g', cap, cu, e1, e2, e3, e4⟩
  · exact .inl hh
  · exact .inr ⟨g', cap, cu, e1, e2, (hg g' (by rw [e1]; rfl)).trans e3, e4⟩
section
variable {P : Program}
/-- An append in a region of whatever slice, nil too, to a row of one's own. -/
theorem stepH_append_any {w : World} {ops : Array Oper} {o : Oper} {a : Act} {K : Act → World → Prop} {Q : Exit → Act → World → Prop} {E : Prop} (hgd : o.guard = none) (s x : Operand) (t : TypeId)
    (ho : o.op = .call { callee := .builtin .append, args := #[s, x], argTypes := #[t, t] })
    (base : Nat) (e : TypeId) (i : TypeInfo) (z : Value) (size bytes : Nat) (ht : P.underlying t = some (.slice e)) (hi : P.info? e = some i) (hz : i.zero = some z)
    (hsize : i.size = size) (hby : i.bytes = bytes) (hzs : z.cells.size = size) (hsz : 0 < size)
    (v : Value) (n : Nat) (xs : List Value) (hs : a.eval s = v) (hown : w.ownsRow base e size v n xs)
    (ax : Option Addr) (m c : Nat) (news : List Value) (hx : a.eval x = .slice ax m c) (hl : news.length = m * size) (hnews : m = 0 ∨ ∃ ad, ax = some ad ∧ ∀ j u, news[j]? = some u → w.cell? (ad.add j) = some u) (h1 : ∀ u ∈ news, u.oneCell' = true)
    (h63 : n + m ≤ maxLen) (hbytes : (n + m) * bytes ≤ 140737488355328) (hbase : base ≤ w.heap.size)
    (h : ∀ a' c' w', w'.ownsRow base e size (.slice a' (n + m) c') (n + m) (xs ++ news) → w.grownBy w' v.ownBlock → ((Value.slice a' (n + m) c').ownBlock = v.ownBlock ∨ (Value.slice a' (n + m) c').ownBlock = some w.heap.size) → K (a.put o.dst (.slice a' (n + m) c')) w') :
    if Region.wanted o (yielded ops a.tmps) = true then Oper.wp P o a w K Q else E := by
  cases ax with
  | some ad =>
    refine stepH_append hgd s x t ho base e i z size bytes ht hi hz hsize hby hzs hsz v n xs hs hown ad m c news hx hl ?_ h1 h63 hbytes hbase fun v' w' h2 h3 h4 => ?_
    · rcases hnews with e | ⟨ad', e, h2⟩
      · intro j u hu
        have : news = [] := List.eq_nil_of_length_eq_zero (by rw [hl, e, Nat.zero_mul])
        rw [this] at hu; simp at hu
      · cases e; exact h2
    · obtain ⟨a', c', rfl⟩ := rowv_form' h2
      exact h a' c' w' h2 h3 h4
  | none =>
    have hm : m = 0 := by
      rcases hnews with e | ⟨ad', e, _⟩
      · exact e
      · cases e
    subst hm
    obtain rfl : news = [] := List.eq_nil_of_length_eq_zero (by rw [hl, Nat.zero_mul])
    obtain ⟨a', c', rfl⟩ := rowv_form' hown
    have hle : n ≤ c' := by
      rcases hown.2 with ⟨h1, h2⟩ | ⟨g, cap, cur, h1, _, _, h4, _⟩
      · cases h1; omega
      · cases h1; exact h4
    have hrun := run_append_nothing w t t o.type e i ht hi a' n c' hle (.slice none 0 c) (Src.ofNil w ht c)
    have hw : Region.wanted o (yielded ops a.tmps) = true := by simp [Region.wanted, hgd]
    rw [if_pos hw]
    unfold Oper.wp
    simp [execOp, ho, resolve, invoke, builtin, hs, hx, hrun, Result.andThen, Oper.upon]
    exact h a' c' w (by simpa using hown) ⟨rfl, rfl, rfl, Nat.le_refl _, fun _ _ _ => rfl⟩ (.inl rfl)
end
abbrev S4 (sb hb r0 : Nat) (X1 X2 : Int) (tv pv : Value) (W : World) : Prop := W.cell? ⟨sb, 4, none⟩ = some (.pointer (some ⟨hb, 0, none⟩)) ∧ W.cell? ⟨r0, 1, none⟩ = some (.int .i64 X1) ∧ W.cell? ⟨r0, 2, none⟩ = some (.int .i64 X2) ∧ W.cell? ⟨r0, 3, none⟩ = some tv ∧ W.cell? ⟨r0, 4, none⟩ = some pv
abbrev S3 (r0 : Nat) (X1 X2 : Int) (tv pv : Value) (W : World) : Prop := W.cell? ⟨r0, 1, none⟩ = some (.int .i64 X1) ∧ W.cell? ⟨r0, 2, none⟩ = some (.int .i64 X2) ∧ W.cell? ⟨r0, 3, none⟩ = some tv ∧ W.cell? ⟨r0, 4, none⟩ = some pv
theorem s3_of {W : World} {r0 : Nat} {k X1 X2 : Value} {tv pv : Value} (h : W.heap[r0]? = some (.cells #[k, X1, X2, tv, pv] 35 (0, 0))) : W.cell? ⟨r0, 1, none⟩ = some X1 ∧ W.cell? ⟨r0, 2, none⟩ = some X2 ∧ W.cell? ⟨r0, 3, none⟩ = some tv ∧ W.cell? ⟨r0, 4, none⟩ = some pv := by
  refine ⟨?_, ?_, ?_, ?_⟩ <;> (rw [cell_of_row W r0 _ _ 35 (0, 0) h]; rfl)
set_option maxRecDepth 100000 in
set_option maxHeartbeats 16000000 in
theorem y60 (B sb hb M n0 : Nat) (s : Sta) (t : List C) (r : List (List C)) (w : World) (hr : s.row = t :: r) (hOk : StaOk s n0) (h : Sq w B sb hb M n0 s) (hS : Signs w) (hB : 0 < B) (hd : s.d ≤ 100000) (hn0 : n0 ≤ 100000000) :
    Calls Tryz.prog 60 #[.pointer (some ⟨sb, 0, none⟩)] w fun e w' => e = .returned (.bool (!((nxK s t).k == 4))) ∧ Below B w w' ∧ ((nxK s t).k ≠ 4 → Sq w' B sb hb M n0 (nxS s t r)) ∧ ((nxK s t).k = 4 → ∃ bv rv, SvAt w' sb hb bv rv ((s.d + 1 : Nat) : Int)) := by
  obtain ⟨bv, rv, n, D, V, ts, us, hn, hsc⟩ := h
  have hst := hOk.step hr
  have hnx : nxS s t r = ⟨if (nxK s t).k = 2 then bindH s.m (nxK s t).V (nxK s t).T else s.m, (nxK s t).P ++ r, if (nxK s t).k = 2 then s.bd ++ [((nxK s t).V, (nxK s t).T)] else s.bd, s.d + 1⟩ := rfl
  have hno := (hOk.next hr).hp.len
  have hlen := hOk.len
  have hbl := hOk.bl
  have htt := hOk.row t (by rw [hr]; simp)
  have hmW := hOk.hp
  rw [hnx] at hno ⊢
  rw [hr] at hsc hlen
  generalize nxK s t = x at *
  obtain ⟨k, ⟨X1, X2⟩, T, P⟩ := x
  dsimp only at hst hno ⊢
  obtain ⟨m, row, bd, d⟩ := s
  dsimp only at hst hno hsc hn hd hlen hbl hmW ⊢
  clear hnx hOk hr
  obtain ⟨g, cap, u, hrv, hcap, hcm, hgw, hcu, hOE, hus, hro⟩ := hsc.last
  have hTE : TermAt w u t := ownT_term hOE (by have := htt.1.1; unfold maxLen; omega) htt.1.2
  have H6 := u6s t u w hTE hS
  have HSC : Hid (Sc w B sb hb M m bd (t :: r) d bv rv n D V ts us) := hsc
  have HRO : Hid (rv = .slice (some ⟨g, 0, none⟩) (r.length + 1) cap ∧ w.ownsRow B 24 1 (.slice (some ⟨g, 0, none⟩) r.length cap) r.length (us.take r.length)) := ⟨hrv, hro⟩
  have HST : Hid (StepR m (sd1 t) (sd2 t) k (X1, X2) T P) := hst
  have HTT : Hid (Sht t ∧ WfT t ∧ HpW m) := ⟨htt.1, htt.2, hmW⟩
  have hrc := hsc.rc
  have HLow : Hid (B ≤ sb ∧ B ≤ hb ∧ B ≤ M ∧ B ≤ w.heap.size) := hsc.low
  rw [hrv] at hrc
  have HRC : Hid (SvAt w sb hb bv (.slice (some ⟨g, 0, none⟩) (r.length + 1) cap) (d : Int)) := hrc
  obtain ⟨x0, x1, x2, x3, x4, x5⟩ : w.cell? ⟨sb, 0, none⟩ = some (.int .u8 0) ∧ w.cell? ⟨sb, 1, none⟩ = some bv ∧ w.cell? ⟨sb, 2, none⟩ = some (.slice none 0 0) ∧ w.cell? ⟨sb, 3, none⟩ = some (.int .i64 (d : Int)) ∧ w.cell? ⟨sb, 4, none⟩ = some (.pointer (some ⟨hb, 0, none⟩)) ∧ w.cell? ⟨sb, 5, none⟩ = some (.slice (some ⟨g, 0, none⟩) (r.length + 1) cap) := by
    refine ⟨?_, ?_, ?_, ?_, ?_, ?_⟩ <;> (rw [cell_of_row w sb _ _ 104 (0, 0) hrc]; rfl)
  have hsbw : sb < w.heap.size := (Array.getElem?_eq_some_iff.1 hrc).1
  obtain ⟨q, hq⟩ : ∃ q, r.length = q := ⟨_, rfl⟩
  have HQ : Hid (r.length = q) := hq
  rw [hq] at x5 hcap hcu
  have hq1 : ((q + 1 : Nat) : Int) - 1 = (q : Int) := by omega
  have hqU : q ≤ 200000000 := by
    rw [List.length_cons, hq] at hlen
    omega
  obtain ⟨ua, un, uc, huf⟩ : ∃ a b c, u = .slice a b c := by obtain ⟨a, c, e⟩ := hTE.form; exact ⟨_, _, _, e⟩
  subst huf
  have HSG : Hid (Signs w) := hS
  clear hsc hst htt hmW hrc hrv hro hus hOE hTE hq hS hlen
  go_enter Tryz.func60, Tryz.ntmps60
  go_wp2_with fail
  refine H6.mono ?_
  rintro e w1 ⟨a, b, rfl, hOa, hOb, _, hb1⟩
  have HB1 : Hid (Below w.heap.size w w1) := hb1
  have hTa : TermAt w1 a (sd1 t) := ownT_term hOa (by have := (sd_len t).1; unfold maxLen; omega) (sd_txt t HTT.out.1.2).1
  have hTb : TermAt w1 b (sd2 t) := ownT_term hOb (by have := (sd_len t).2; unfold maxLen; omega) (sd_txt t HTT.out.1.2).2
  have H8 := HST.out.pr w1 (.pointer (some ⟨hb, 0, none⟩)) a b (.inr ⟨hb, M, n, D, rfl, HSC.out.hp.below hb1⟩) hTa hTb (HSG.out.below hb1)
  obtain ⟨y0, y1, y2, y3, y4, y5⟩ : w1.cell? ⟨sb, 0, none⟩ = some (.int .u8 0) ∧ w1.cell? ⟨sb, 1, none⟩ = some bv ∧ w1.cell? ⟨sb, 2, none⟩ = some (.slice none 0 0) ∧ w1.cell? ⟨sb, 3, none⟩ = some (.int .i64 (d : Int)) ∧ w1.cell? ⟨sb, 4, none⟩ = some (.pointer (some ⟨hb, 0, none⟩)) ∧ w1.cell? ⟨sb, 5, none⟩ = some (.slice (some ⟨g, 0, none⟩) (q + 1) cap) := by
    have e := (hb1.block sb hsbw).trans HRC.out
    rw [HQ.out] at e
    refine ⟨?_, ?_, ?_, ?_, ?_, ?_⟩ <;> (rw [cell_of_row w1 sb _ _ 104 (0, 0) e]; rfl)
  obtain ⟨aa, ac, haf⟩ := hTa.form
  obtain ⟨ba, bc, hbf⟩ := hTb.form
  have hsb1 : sb < w1.heap.size := by have := hb1.size; omega
  generalize (sd1 t).length = lx at haf
  generalize (sd2 t).length = ly at hbf
  subst haf hbf
  clear x0 x1 x2 x3 x4 x5 hTa hTb hOa hOb hb1 H6 hcu
  go_wp2_with fail
  refine H8.mono ?_
  rintro e w2 ⟨ta, tn, tc, pa, pn, pc, rfl, hOT, hOP, hb2, hor⟩
  have HB2 : Hid (Below w.heap.size w w2) := HB1.out.trans (hb2.mono HB1.out.size)
  have HOT : Hid (OwnT w2 w.heap.size (.slice ta tn tc) T) := ownT_base hOT HB1.out.size
  have HOP : Hid (OwnRow w2 w1.heap.size (.slice pa pn pc) P ∧ (P = [] ∨ ta = none) ∧ w.heap.size ≤ w1.heap.size) := ⟨hOP, hor, HB1.out.size⟩
  obtain ⟨z0, z1, z2, z3, z4, z5⟩ : w2.cell? ⟨sb, 0, none⟩ = some (.int .u8 0) ∧ w2.cell? ⟨sb, 1, none⟩ = some bv ∧ w2.cell? ⟨sb, 2, none⟩ = some (.slice none 0 0) ∧ w2.cell? ⟨sb, 3, none⟩ = some (.int .i64 (d : Int)) ∧ w2.cell? ⟨sb, 4, none⟩ = some (.pointer (some ⟨hb, 0, none⟩)) ∧ w2.cell? ⟨sb, 5, none⟩ = some (.slice (some ⟨g, 0, none⟩) (q + 1) cap) := by
    have e := (HB2.out.block sb hsbw).trans HRC.out
    rw [HQ.out] at e
    refine ⟨?_, ?_, ?_, ?_, ?_, ?_⟩ <;> (rw [cell_of_row w2 sb _ _ 104 (0, 0) e]; rfl)
  have fz : ∀ j, w2.frozen? ⟨sb, j, none⟩ = false := fun j => frozen_of_row w2 sb j _ 104 ((HB2.out.block sb hsbw).trans HRC.out)
  have f1 := fz 1
  have f3 := fz 3
  have f5 := fz 5
  have hsb2 : sb < w2.heap.size := by have := hb2.size; omega
  have hst1 : (0 : Int) ≤ (d : Int) := by omega
  have hqc : (q : Int) ≤ (cap : Int) := by omega
  have hq0 : (0 : Int) ≤ (q : Int) := by omega
  -- the two stores, and the answer's box
  have HW5 : Hid (∀ W4, ((w2.setCell ⟨sb, 3, none⟩ (.int .i64 ((d : Int) + 1))).setCell ⟨sb, 5, none⟩ (.slice (some ⟨g, 0, none⟩) q cap)) = W4 → ∀ k', Sc (W4.alloc (.cells #[.int .u8 k', .int .i64 X1, .int .i64 X2, .slice ta tn tc, .slice pa pn pc] 35)) B sb hb M m bd r (d + 1) bv (.slice (some ⟨g, 0, none⟩) q cap) n D V ts (us.take r.length) ∧ (W4.alloc (.cells #[.int .u8 k', .int .i64 X1, .int .i64 X2, .slice ta tn tc, .slice pa pn pc] 35)).heap[W4.heap.size]? = some (.cells #[.int .u8 k', .int .i64 X1, .int .i64 X2, .slice ta tn tc, .slice pa pn pc] 35 (0, 0)) ∧ Below B w (W4.alloc (.cells #[.int .u8 k', .int .i64 X1, .int .i64 X2, .slice ta tn tc, .slice pa pn pc] 35)) ∧ OwnT (W4.alloc (.cells #[.int .u8 k', .int .i64 X1, .int .i64 X2, .slice ta tn tc, .slice pa pn pc] 35)) w.heap.size (.slice ta tn tc) T ∧ OwnRow (W4.alloc (.cells #[.int .u8 k', .int .i64 X1, .int .i64 X2, .slice ta tn tc, .slice pa pn pc] 35)) w.heap.size (.slice pa pn pc) P ∧ w.heap.size ≤ W4.heap.size ∧ Signs (W4.alloc (.cells #[.int .u8 k', .int .i64 X1, .int .i64 X2, .slice ta tn tc, .slice pa pn pc] 35)) ∧ ∀ k, k < w.heap.size → k ≠ sb → (W4.alloc (.cells #[.int .u8 k', .int .i64 X1, .int .i64 X2, .slice ta tn tc, .slice pa pn pc] 35)).heap[k]? = w.heap[k]?) := by
    intro W4 hW4 k'
    have hcs2 : W4.heap[sb]? = some (.cells #[.int .u8 0, bv, .slice none 0 0, .int .i64 ((d : Int) + 1), .pointer (some ⟨hb, 0, none⟩), .slice (some ⟨g, 0, none⟩) q cap] 104 (0, 0)) := by
      have e := (HB2.out.block sb hsbw).trans HRC.out
      rw [HQ.out] at e
      rw [← hW4, heap_setCell_same _ sb 5 _ 104 _ (by rw [heap_setCell_same w2 sb 3 _ 104 _ e])]
      rfl
    have hoth : ∀ k, k ≠ sb → W4.heap[k]? = w2.heap[k]? := fun k hk => by rw [← hW4]; exact (heap_setCell_other _ ⟨sb, 5, none⟩ k _ hk).trans (heap_setCell_other w2 ⟨sb, 3, none⟩ k _ hk)
    have hsz : W4.heap.size = w2.heap.size := by rw [← hW4]; simp
    have hbel : Below B w W4 := by rw [← hW4]; exact ((HB2.out.mono HLow.out.2.2.2).setCell (p := ⟨sb, 3, none⟩) HLow.out.1 _).setCell (p := ⟨sb, 5, none⟩) HLow.out.1 _
    have hz2 := HB2.out.size
    generalize hob : (Obj.cells #[.int .u8 k', .int .i64 X1, .int .i64 X2, .slice ta tn tc, .slice pa pn pc] 35) = ob
    have hall : ∀ k, k < w.heap.size → k ≠ sb → (W4.alloc ob).heap[k]? = w.heap[k]? := fun k hkw hne => (heap_alloc_old W4 _ (by omega)).trans ((hoth k hne).trans (HB2.out.block k hkw))
    have hsame : ∀ (k : Nat) (cur : Array Value) (t : TypeId), t ≠ 104 → w2.heap[k]? = some (Obj.cells cur t (0, 0)) → (W4.alloc ob).heap[k]? = w2.heap[k]? := fun k cur t ht hk => by
      have hkl := (Array.getElem?_eq_some_iff.1 hk).1
      refine (heap_alloc_old W4 _ (by omega)).trans (hoth k ?_)
      rintro rfl
      rw [(HB2.out.block k hsbw).trans HRC.out] at hk
      simp only [Option.some.injEq, Obj.cells.injEq] at hk
      exact ht hk.2.1.symm
    have hbel5 : Below B w (W4.alloc ob) := hbel.alloc (by have := HLow.out.2.2.2; omega) _
    refine ⟨?_, ?_, hbel5, owns_blocks HOT.out fun k cu hk => hsame k cu 78 (by decide) hk, ?_, by omega, signs_low HSG.out hbel5 hB HLow.out.2.2.2, hall⟩
    · have h1 := HSC.out.pop HRO.out.1 HRO.out.2 hall (by simp; omega) (by
        show (W4.alloc ob).heap[sb]? = _
        rw [heap_alloc_old W4 _ (by omega), hcs2, HQ.out]
        simp)
      rw [HQ.out] at h1 ⊢
      exact h1
    · rw [← hob]; exact heap_alloc_new W4 _
    · obtain ⟨vs, h1, h2, h3⟩ := HOP.out.1
      exact ⟨vs, owns_blocks (rows_base h1 HOP.out.2.2) fun k cu hk => hsame k cu 24 (by decide) hk, fun j v x hv hx => owns_blocks (ownT_base (h2 j v x hv hx) HOP.out.2.2) fun k cu hk => hsame k cu 78 (by decide) hk, h3⟩
  obtain ⟨hk1, hk4⟩ := HST.out.kr
  have hkc : k = 1 ∨ k = 2 ∨ k = 3 ∨ k = 4 := by omega
  clear y0 y1 y2 y3 y4 y5 hOT hOP hor hb2 fz H8 HB1
  rcases hkc with rfl | rfl | rfl | rfl
  · go_wp2_with fail
    go_ret
    have HF : Hid (_ ∧ _) := HW5.out _ rfl 1
    obtain ⟨a1, a2, a3, _⟩ := HF.out
    have hP := HST.out.kp (by decide)
    subst hP
    exact ⟨rfl, a3, _, _, _, _, _, _, _, by dsimp only; omega, a1⟩
  · go_wp2_with fail
    obtain ⟨W4, hW4⟩ : ∃ W, (w2.setCell ⟨sb, 3, none⟩ (.int .i64 ((d : Int) + 1))).setCell ⟨sb, 5, none⟩ (.slice (some ⟨g, 0, none⟩) q cap) = W := ⟨_, rfl⟩
    obtain ⟨a1, a2, a3, a4, a5, a6, a7, _⟩ := HW5.out W4 hW4 2
    have hsz24 : w2.heap.size = W4.heap.size := by rw [← hW4]; simp
    rw [hW4, hsz24]
    obtain ⟨r0, hr0⟩ : ∃ r0, W4.heap.size = r0 := ⟨_, rfl⟩
    rw [hr0] at a2 a6 ⊢
    clear hW4 HW5 hsz24
    generalize (W4.alloc (.cells #[.int .u8 2, .int .i64 X1, .int .i64 X2, .slice ta tn tc, .slice pa pn pc] 35)) = W5 at *
    clear hr0
    have hP := HST.out.kp (by decide)
    obtain ⟨i0, hi, hz, hsz0, hbyt⟩ := infoB
    have hr0l : r0 < W5.heap.size := (Array.getElem?_eq_some_iff.1 a2).1
    have v4 : W5.cell? ⟨sb, 4, none⟩ = some (.pointer (some ⟨hb, 0, none⟩)) := by rw [cell_of_row W5 sb 4 _ 104 (0, 0) a1.rc]; rfl
    have hS0 : S4 sb hb r0 X1 X2 (.slice ta tn tc) (.slice pa pn pc) W5.drew := ⟨v4, s3_of a2⟩
    have HA : Hid (Sc W5 B sb hb M m bd r (d + 1) bv (.slice (some ⟨g, 0, none⟩) q cap) n D V ts (us.take q) ∧ Below B w W5 ∧ OwnT W5 w.heap.size (.slice ta tn tc) T ∧ w.heap.size ≤ r0 ∧ Signs W5 ∧ W5.heap[r0]? = some (.cells #[.int .u8 2, .int .i64 X1, .int .i64 X2, .slice ta tn tc, .slice pa pn pc] 35 (0, 0))) := by
      have h := a1
      rw [HQ.out] at h
      exact ⟨h, a3, a4, a6, a7, a2⟩
    obtain ⟨E27, hE27⟩ : ∃ E, bindE m (X1, X2) T = E := ⟨_, rfl⟩
    have H27 : Calls Tryz.prog 27 #[.pointer (some ⟨hb, 0, none⟩), .agg #[.int .i64 X1, .int .i64 X2], .slice ta tn tc] W5.drew fun e w' => e = .returned (.int .i64 E27) ∧ Hid (BindPost m (X1, X2) T hb M n D W5.drew w') := by
      have hw : Below W5.heap.size W5 W5.drew := Below.drew (Below.refl _ _)
      have hT := HST.out.st
      have h := h11 m hb M n D (X1, X2) T _ W5.drew (HA.out.1.hp.below hw) HST.out.wv ((ownT_term HA.out.2.2.1 (by have := hT.1; unfold maxLen; omega) hT.2).below hw) HST.out.wt (HA.out.2.2.2.2.1.below hw) (by have := hT.1; omega) (by unfold maxLen; omega)
      rw [hE27] at h
      exact h.mono fun e w' ⟨k1, k2⟩ => ⟨k1, k2⟩
    clear a1 a2 a3 a4 a5 a6 a7 v4
    refine wp_region_noPanic ?_
    refine wp_region_held_drew (S := fun u => S4 sb hb r0 X1 X2 (.slice ta tn tc) (.slice pa pn pc) u) (by kernel_rfl) hS0 (fun hHeld => ?_)
    refine wpAnyH_take (i := 0) (v := ?_) (by simp only [List.getElem?_toArray, List.getElem?_cons_zero]; rfl) (by kernel_rfl) (by kernel_rfl) (by kernel_rfl) (fun _ _ _ h => h) (Or.inl ⟨by rfl, ?_⟩) (by assumption) ?_; rotate_left; (· (intro w hSw; (try dsimp only at hSw); go_simp <;> with_reducible rfl)); try simp only [Act.put, List.setIfInBounds_toArray, List.set_cons_zero, List.set_cons_succ]
    refine wpAnyH_take (i := 1) (v := ?_) (by simp only [List.getElem?_toArray, List.getElem?_cons_zero, List.getElem?_cons_succ]; rfl) (by kernel_rfl) (by kernel_rfl) (by kernel_rfl) (fun _ _ _ h => h) (Or.inl ⟨by rfl, ?_⟩) (by assumption) ?_; rotate_left; (· (intro w hSw; (try dsimp only at hSw); go_simp <;> with_reducible rfl)); try simp only [Act.put, List.setIfInBounds_toArray, List.set_cons_zero, List.set_cons_succ]
    refine wpAnyH_take (i := 2) (v := ?_) (by simp only [List.getElem?_toArray, List.getElem?_cons_zero, List.getElem?_cons_succ]; rfl) (by kernel_rfl) (by kernel_rfl) (by kernel_rfl) (fun _ _ _ h => h) (Or.inl ⟨by rfl, ?_⟩) (by assumption) ?_; rotate_left; (· (intro w hSw; (try dsimp only at hSw); go_simp <;> with_reducible rfl)); try simp only [Act.put, List.setIfInBounds_toArray, List.set_cons_zero, List.set_cons_succ]
    refine wpAnyH_take (i := 3) (v := ?_) (by simp only [List.getElem?_toArray, List.getElem?_cons_zero, List.getElem?_cons_succ]; rfl) (by kernel_rfl) (by kernel_rfl) (by kernel_rfl) (fun _ _ _ h => h) (Or.inl ⟨by rfl, ?_⟩) (by assumption) ?_; rotate_left; (· (intro w hSw; (try dsimp only at hSw); go_simp <;> with_reducible rfl)); try simp only [Act.put, List.setIfInBounds_toArray, List.set_cons_zero, List.set_cons_succ]
    refine wpAnyH_take (i := 4) (v := ?_) (by simp only [List.getElem?_toArray, List.getElem?_cons_zero, List.getElem?_cons_succ]; rfl) (by kernel_rfl) (by kernel_rfl) (by kernel_rfl) (fun _ _ _ h => h) (Or.inl ⟨by rfl, ?_⟩) (by assumption) ?_; rotate_left; (· (intro w hSw; (try dsimp only at hSw); go_simp <;> with_reducible rfl)); try simp only [Act.put, List.setIfInBounds_toArray, List.set_cons_zero, List.set_cons_succ]
    refine wpAnyH_take (i := 5) (v := ?_) (by simp only [List.getElem?_toArray, List.getElem?_cons_zero, List.getElem?_cons_succ]; rfl) (by kernel_rfl) (by kernel_rfl) (by kernel_rfl) (fun _ _ _ h => h) (Or.inl ⟨by rfl, ?_⟩) (by assumption) ?_; rotate_left; (· (intro w hSw; (try dsimp only at hSw); go_simp <;> with_reducible rfl)); try simp only [Act.put, List.setIfInBounds_toArray, List.set_cons_zero, List.set_cons_succ]
    refine wpAnyH_take (i := 6) (v := ?_) (by simp only [List.getElem?_toArray, List.getElem?_cons_zero, List.getElem?_cons_succ]; rfl) (by kernel_rfl) (by kernel_rfl) (by kernel_rfl) (fun _ _ _ h => h) (Or.inl ⟨by rfl, ?_⟩) (by assumption) ?_; rotate_left; (· (intro w hSw; (try dsimp only at hSw); go_simp <;> with_reducible rfl)); try simp only [Act.put, List.setIfInBounds_toArray, List.set_cons_zero, List.set_cons_succ]
    refine wpAnyH_take (i := 7) (v := ?_) (by simp only [List.getElem?_toArray, List.getElem?_cons_zero, List.getElem?_cons_succ]; rfl) (by kernel_rfl) (by kernel_rfl) (by kernel_rfl) (fun _ _ _ h => h) (Or.inl ⟨by rfl, ?_⟩) (by assumption) ?_; rotate_left; (· (intro w hSw; (try dsimp only at hSw); go_simp <;> with_reducible rfl)); try simp only [Act.put, List.setIfInBounds_toArray, List.set_cons_zero, List.set_cons_succ]
    refine wpAnyH_ready (rs := [8]) (by kernel_rfl) (by simp) ?_
    refine AllReadyH.cons (by simp only [List.getElem?_toArray, List.getElem?_cons_zero, List.getElem?_cons_succ]; rfl) (fun K hK => ?_) AllReadyH.nil
    go_simp
    go_at_call 27
    refine H27.mono ?_
    rintro e w6 ⟨rfl, HP6⟩
    have HB6 : Hid (∃ n' D' V', n' ≤ n + 1 ∧ Sc w6 B sb hb M (bindH m (X1, X2) T) bd r (d + 1) bv (.slice (some ⟨g, 0, none⟩) q cap) n' D' V' ts (us.take q) ∧ W5.drew.heap.size ≤ w6.heap.size ∧ Below B W5 w6 ∧ ∀ (k : Nat) (cur : Array Value) (t : TypeId) (fr : Nat × Nat), W5.heap[k]? = some (Obj.cells cur t fr) → w6.heap[k]? = some (Obj.cells cur t fr)) := bind_all HA.out.1 HP6.out fun y l' hl' => (hno y l' (by simpa using hl')).2.1
    refine hK.out _ _ ?_ (fun hHeld => ?_)
    · obtain ⟨_, _, _, _, k1, _, _, k2⟩ := HB6.out
      exact ⟨by rw [cell_of_row w6 sb 4 _ 104 (0, 0) k1.rc]; rfl, s3_of (k2 r0 _ _ _ HA.out.2.2.2.2.2)⟩
    clear hK K
    try simp only [Act.put, List.setIfInBounds_toArray, List.set_cons_zero, List.set_cons_succ]
    refine wpAnyH_done (by kernel_rfl) ?_ _
    refine NoPanic.normal ?_
    obtain ⟨n', D', V', hn', hsc6, hb6⟩ := HB6.out
    have HSC6 : Hid (Sc w6 B sb hb M (bindH m (X1, X2) T) bd r (d + 1) bv (.slice (some ⟨g, 0, none⟩) q cap) n' D' V' ts (us.take q)) := hsc6
    have hS6 : S3 r0 X1 X2 (.slice ta tn tc) (.slice pa pn pc) w6 := hHeld.2
    have HR6 : Hid (w6.heap[r0]? = some (.cells #[.int .u8 2, .int .i64 X1, .int .i64 X2, .slice ta tn tc, .slice pa pn pc] 35 (0, 0)) ∧ OwnT w6 B (.slice ta tn tc) T ∧ Below B w w6 ∧ W5.heap.size ≤ w6.heap.size) := by
      have h1 : W5.drew.heap.size ≤ w6.heap.size := hb6.1
      refine ⟨(hb6.2.2 r0 _ _ _ HA.out.2.2.2.2.2), owns_blocks (ownT_base HA.out.2.2.1 HLow.out.2.2.2) fun k cu hc => (hb6.2.2 k cu _ _ hc).trans hc.symm, HA.out.2.1.trans hb6.2.1, h1⟩
    have w1c : w6.cell? ⟨sb, 1, none⟩ = some bv := by rw [cell_of_row w6 sb 1 _ 104 (0, 0) hsc6.rc]; rfl
    obtain ⟨bva, bvc, hbvf⟩ := rowv_form' hsc6.bo
    clear hb6 hsc6 hHeld HB6 H27 hS0
    subst hbvf
    subst hP
    have HFIN : Hid (∀ (w8 : World) (v' : Value), w8.ownsRow B 73 3 v' (bd.length + 1) (encBd bd ts ++ [.int .i64 X1, .int .i64 X2, .slice ta tn tc]) → (w6.drew.alloc (.cells #[.int .i64 X1, .int .i64 X2, .slice ta tn tc] 73)).grownBy w8 (Value.slice bva bd.length bvc).ownBlock → (v'.ownBlock = (Value.slice bva bd.length bvc).ownBlock ∨ v'.ownBlock = some (w6.drew.alloc (.cells #[.int .i64 X1, .int .i64 X2, .slice ta tn tc] 73)).heap.size) →
        (w8.cell? ⟨sb, 1, none⟩ = some (.slice bva bd.length bvc) ∧ w8.frozen? ⟨sb, 1, none⟩ = false) ∧ S3 r0 X1 X2 (.slice ta tn tc) (.slice pa pn pc) w8 ∧ S3 r0 X1 X2 (.slice ta tn tc) (.slice pa pn pc) (w8.setCell ⟨sb, 1, none⟩ v') ∧ Below B w (w8.setCell ⟨sb, 1, none⟩ v') ∧ Sq (w8.setCell ⟨sb, 1, none⟩ v') B sb hb M n0 ⟨bindH m (X1, X2) T, [] ++ r, bd ++ [((X1, X2), T)], d + 1⟩) := by
      intro w8 v' ho hg hl
      have h6 := HSC6.out
      have hBw : B ≤ w6.heap.size := h6.low.2.2.2
      have keep8 : ∀ k, k < w6.heap.size → (Value.slice bva bd.length bvc).ownBlock ≠ some k → w8.heap[k]? = w6.heap[k]? := fun k hk hne => (hg.block k (by simp; omega) (fun e => hne e.symm)).trans (heap_alloc_old w6.drew _ hk)
      have hsz8 : w6.heap.size ≤ w8.heap.size := by have := hg.size; simp at this; omega
      have typed8 : ∀ (k : Nat) (cu : Array Value) (t : TypeId) (fr : Nat × Nat), t ≠ 73 → w6.heap[k]? = some (Obj.cells cu t fr) → w8.heap[k]? = some (Obj.cells cu t fr) := fun k cu t fr ht hc => (keep8 k (Array.getElem?_eq_some_iff.1 hc).1 fun e => by
        obtain ⟨cu', e2⟩ := own_typed h6.bo k e
        rw [e2] at hc
        simp only [Option.some.injEq, Obj.cells.injEq] at hc
        exact ht hc.2.1.symm).trans hc
      have e8 := typed8 sb _ _ _ (by decide) h6.rc
      have er := typed8 r0 _ _ _ (by decide) HR6.out.1
      have hrs : r0 ≠ sb := fun e => by
        rw [e, e8] at er
        simp at er
      have er9 : (w8.setCell ⟨sb, 1, none⟩ v').heap[r0]? = _ := (heap_setCell_other w8 ⟨sb, 1, none⟩ r0 v' hrs).trans er
      have hb8 : Below B w w8 := by
        have h1 : Below B w (w6.drew.alloc (.cells #[.int .i64 X1, .int .i64 X2, .slice ta tn tc] 73)) := (HR6.out.2.2.1.trans ((Below.refl B w6).drew)).alloc (show B ≤ w6.drew.heap.size from hBw) _
        exact h1.grown hg (by simp; omega) (fun z hz => (h6.bo.lt z hz).1)
      refine ⟨⟨by rw [cell_of_row w8 sb 1 _ 104 (0, 0) e8]; rfl, frozen_of_row w8 sb 1 _ 104 e8⟩, s3_of er, s3_of er9, hb8.setCell (p := ⟨sb, 1, none⟩) HLow.out.1 v', v', .slice (some ⟨g, 0, none⟩) q cap, n', D', V', ts ++ [.slice ta tn tc], us.take q, by dsimp only; omega, ?_⟩
      have hT0 : ∀ z, (Value.slice ta tn tc).ownBlock = some z → w.heap.size ≤ z := fun z hz => (HA.out.2.2.1.lt z hz).1
      have hto : ∀ u ∈ ts, ∀ z, u.ownBlock = some z → z < w.heap.size := fun u hu z hz => HSC.out.ts_lt hu hz
      have huo : ∀ u ∈ us.take q, ∀ z, u.ownBlock = some z → z < w.heap.size := fun u hu z hz => HSC.out.us_lt (List.mem_of_mem_take hu) hz
      refine h6.turn (d' := d + 1) ⟨by simpa using hsz8, fun k h1 h2 h3 _ => (heap_setCell_other w8 ⟨sb, 1, none⟩ k v' h2).trans (keep8 k h1 h3)⟩ ?_ ?_ ?_ (by simp [h6.tl]) (fun j u b hu hb => .inl ?_) (fun j u l hu hl => .inl (h6.uo j u l hu hl)) ?_ h6.apu ?_ ?_ (.inl rfl)
      · show (w8.setCell ⟨sb, 1, none⟩ v').heap[sb]? = _
        rw [heap_setCell_same w8 sb 1 _ 104 v' e8]
        rfl
      · rw [encBd_snoc bd ts _ _ h6.tl, List.length_append]
        exact owns_blocks ho fun k cu hc => heap_setCell_other w8 ⟨sb, 1, none⟩ k v' fun e => by
          rw [e, e8] at hc
          simp at hc
      · refine owns_blocks h6.ro fun k cu hc => (heap_setCell_other w8 ⟨sb, 1, none⟩ k v' fun e => ?_).trans ((typed8 k cu _ _ (by decide) hc).trans hc.symm)
        have h1 := h6.rc
        unfold SvAt at h1
        rw [e, h1] at hc
        simp at hc
      · by_cases hj : j < ts.length
        · rw [List.getElem?_append_left hj] at hu
          rw [List.getElem?_append_left (by rw [← h6.tl]; exact hj)] at hb
          exact h6.to j u b hu hb
        · have hj2 : j = ts.length := by
            have := (List.getElem?_eq_some_iff.1 hu).1
            simp at this; omega
          have hj3 : j = bd.length := by rw [hj2, h6.tl]
          rw [List.getElem?_append_right (by omega), hj2] at hu
          rw [List.getElem?_append_right (by omega), hj3] at hb
          simp at hu hb
          subst hu hb
          exact HR6.out.2.1
      · exact ap_snoc (n := w.heap.size) h6.apt (fun j v z hv hz => hto v (List.mem_of_getElem? hv) z hz) hT0
      · intro t1 ht1 u hu z hz e
        rcases List.mem_append.1 ht1 with h | h
        · exact h6.apx t1 h u hu z hz e
        · rw [List.mem_singleton.1 h] at hz
          have := hT0 z hz
          have := huo u hu z e
          omega
      · rcases hl with h | h
        · exact .inl h
        · exact .inr ⟨_, h, by simp⟩
    have hS11 : S3 r0 X1 X2 (.slice ta tn tc) (.slice pa pn pc) w6.drew := hS6
    have hwd : w6.drew.cell? ⟨sb, 1, none⟩ = some (.slice bva bd.length bvc) := w1c
    have HSd : Hid (∀ ob : Obj, S3 r0 X1 X2 (.slice ta tn tc) (.slice pa pn pc) (w6.drew.alloc ob) ∧ (w6.drew.alloc ob).cell? ⟨sb, 1, none⟩ = some (.slice bva bd.length bvc)) := fun ob => by
      have hr6l : r0 < w6.drew.heap.size := (Array.getElem?_eq_some_iff.1 HR6.out.1).1
      have hs6l : sb < w6.drew.heap.size := (Array.getElem?_eq_some_iff.1 HSC6.out.rc).1
      exact ⟨⟨cell_alloc hr6l hS6.1, cell_alloc hr6l hS6.2.1, cell_alloc hr6l hS6.2.2.1, cell_alloc hr6l hS6.2.2.2⟩, cell_alloc hs6l w1c⟩
    have HRa : Hid ((w6.drew.alloc (.cells #[.int .i64 X1, .int .i64 X2, .slice ta tn tc] 73)).ownsRow B 73 3 (.slice bva bd.length bvc) bd.length (encBd bd ts) ∧ B ≤ (w6.drew.alloc (.cells #[.int .i64 X1, .int .i64 X2, .slice ta tn tc] 73)).heap.size) := ⟨World.ownsRow.alloc (owns_low HSC6.out.bo (Below.drew (Below.refl _ _))) _, by have := HSC6.out.low.2.2.2; simp; omega⟩
    have hbdl : bd.length ≤ 100000 := by omega
    clear hS6
    go_wp2_with fail
    refine wp_region_noPanic ?_
    refine wp_region_held_drew (S := fun u => S3 r0 X1 X2 (.slice ta tn tc) (.slice pa pn pc) u) (by kernel_rfl) hS11 (fun hHeld => ?_)
    clear w1c
    generalize w6.drew = WD at *
    refine wpAnyH_take (i := 0) (v := ?_) (by simp only [List.getElem?_toArray, List.getElem?_cons_zero]; rfl) (by kernel_rfl) (by kernel_rfl) (by kernel_rfl) (fun _ _ _ h => h) (Or.inl ⟨by rfl, ?_⟩) (by assumption) ?_; rotate_left; (· (intro w hSw; (try dsimp only at hSw); go_simp <;> with_reducible rfl)); try simp only [Act.put, List.setIfInBounds_toArray, List.set_cons_zero, List.set_cons_succ]
    refine wpAnyH_take (i := 1) (v := ?_) (by simp only [List.getElem?_toArray, List.getElem?_cons_zero, List.getElem?_cons_succ]; rfl) (by kernel_rfl) (by kernel_rfl) (by kernel_rfl) (fun _ _ _ h => h) (Or.inl ⟨by rfl, ?_⟩) (by assumption) ?_; rotate_left; (· (intro w hSw; (try dsimp only at hSw); go_simp <;> with_reducible rfl)); try simp only [Act.put, List.setIfInBounds_toArray, List.set_cons_zero, List.set_cons_succ]
    refine wpAnyH_take (i := 2) (v := ?_) (by simp only [List.getElem?_toArray, List.getElem?_cons_zero, List.getElem?_cons_succ]; rfl) (by kernel_rfl) (by kernel_rfl) (by kernel_rfl) (fun _ _ _ h => h) (Or.inl ⟨by rfl, ?_⟩) (by assumption) ?_; rotate_left; (· (intro w hSw; (try dsimp only at hSw); go_simp <;> with_reducible rfl)); try simp only [Act.put, List.setIfInBounds_toArray, List.set_cons_zero, List.set_cons_succ]
    refine wpAnyH_take (i := 3) (v := ?_) (by simp only [List.getElem?_toArray, List.getElem?_cons_zero, List.getElem?_cons_succ]; rfl) (by kernel_rfl) (by kernel_rfl) (by kernel_rfl) (fun _ _ _ h => h) (Or.inl ⟨by rfl, ?_⟩) (by assumption) ?_; rotate_left; (· (intro w hSw; (try dsimp only at hSw); go_simp <;> with_reducible rfl)); try simp only [Act.put, List.setIfInBounds_toArray, List.set_cons_zero, List.set_cons_succ]
    refine wpAnyH_take (i := 4) (v := ?_) (by simp only [List.getElem?_toArray, List.getElem?_cons_zero, List.getElem?_cons_succ]; rfl) (by kernel_rfl) (by kernel_rfl) (by kernel_rfl) (fun _ _ _ h => h) (Or.inl ⟨by rfl, ?_⟩) (by assumption) ?_; rotate_left; (· (intro w hSw; (try dsimp only at hSw); go_simp <;> with_reducible rfl)); try simp only [Act.put, List.setIfInBounds_toArray, List.set_cons_zero, List.set_cons_succ]
    refine wpAnyH_take (i := 6) (v := ?_) (by simp only [List.getElem?_toArray, List.getElem?_cons_zero, List.getElem?_cons_succ]; rfl) (by kernel_rfl) (by kernel_rfl) (by kernel_rfl) (fun _ _ _ h => h) (Or.inl ⟨by rfl, ?_⟩) (by assumption) ?_; rotate_left; (· (intro w hSw; (try dsimp only at hSw); go_simp <;> with_reducible rfl)); try simp only [Act.put, List.setIfInBounds_toArray, List.set_cons_zero, List.set_cons_succ]
    refine wpAnyH_take (i := 7) (v := ?_) (by simp only [List.getElem?_toArray, List.getElem?_cons_zero, List.getElem?_cons_succ]; rfl) (by kernel_rfl) (by kernel_rfl) (by kernel_rfl) (fun _ _ _ h => h) (Or.inl ⟨by rfl, ?_⟩) (by assumption) ?_; rotate_left; (· (intro w hSw; (try dsimp only at hSw); go_simp <;> with_reducible rfl)); try simp only [Act.put, List.setIfInBounds_toArray, List.set_cons_zero, List.set_cons_succ]
    refine wpAnyH_take (i := 8) (v := ?_) (by simp only [List.getElem?_toArray, List.getElem?_cons_zero, List.getElem?_cons_succ]; rfl) (by kernel_rfl) (by kernel_rfl) (by kernel_rfl) (fun _ _ _ h => h) (Or.inl ⟨by rfl, ?_⟩) (by assumption) ?_; rotate_left; (· (intro w hSw; (try dsimp only at hSw); go_simp <;> with_reducible rfl)); try simp only [Act.put, List.setIfInBounds_toArray, List.set_cons_zero, List.set_cons_succ]
    refine wpAnyH_take (i := 9) (v := ?_) (by simp only [List.getElem?_toArray, List.getElem?_cons_zero, List.getElem?_cons_succ]; rfl) (by kernel_rfl) (by kernel_rfl) (by kernel_rfl) (fun _ _ _ h => h) (Or.inl ⟨by rfl, ?_⟩) (by assumption) ?_; rotate_left; (· (intro w hSw; (try dsimp only at hSw); go_simp <;> with_reducible rfl)); try simp only [Act.put, List.setIfInBounds_toArray, List.set_cons_zero, List.set_cons_succ]
    refine wpAnyH_take (i := 10) (v := ?_) (by simp only [List.getElem?_toArray, List.getElem?_cons_zero, List.getElem?_cons_succ]; rfl) (by kernel_rfl) (by kernel_rfl) (by kernel_rfl) (fun _ _ _ h => h) (Or.inl ⟨by rfl, ?_⟩) (by assumption) ?_; rotate_left; (· (intro w hSw; (try dsimp only at hSw); go_simp <;> with_reducible rfl)); try simp only [Act.put, List.setIfInBounds_toArray, List.set_cons_zero, List.set_cons_succ]
    refine wpAnyH_ready (rs := [5, 11]) (by kernel_rfl) (by simp) ?_
    refine AllReadyH.cons (by simp only [List.getElem?_toArray, List.getElem?_cons_zero, List.getElem?_cons_succ]; rfl) (fun K hK => ?_) (AllReadyH.cons (by simp only [List.getElem?_toArray, List.getElem?_cons_zero, List.getElem?_cons_succ]; rfl) (fun K hK => ?_) AllReadyH.nil)
    · go_simp
      refine hK.out _ _ hHeld (fun hHeld => ?_)
      clear hK K
      try simp only [Act.put, List.setIfInBounds_toArray, List.set_cons_zero, List.set_cons_succ]
      refine wpAnyH_ready (rs := [11]) (by kernel_rfl) (by simp) ?_
      refine AllReadyH.cons (by simp only [List.getElem?_toArray, List.getElem?_cons_zero, List.getElem?_cons_succ]; rfl) (fun K hK => ?_) AllReadyH.nil
      go_simp
      refine hK.out _ _ (HSd.out _).1 (fun hHeld => ?_)
      clear hK K
      try simp only [Act.put, List.setIfInBounds_toArray, List.set_cons_zero, List.set_cons_succ]
      refine wpAnyH_ready (rs := [12]) (by kernel_rfl) (by simp) ?_
      refine AllReadyH.cons (by simp only [List.getElem?_toArray, List.getElem?_cons_zero, List.getElem?_cons_succ]; rfl) (fun K hK => ?_) AllReadyH.nil
      refine stepH_append (by rfl) _ _ 22 (by rfl) B 73 i0 _ 3 40 Tryz.underlying22 hi hz hsz0 hbyt rfl (by decide) (.slice bva bd.length bvc) bd.length (encBd bd ts) (by rfl) HRa.out.1 ⟨WD.heap.size, 0, none⟩ 1 1 [.int .i64 X1, .int .i64 X2, .slice ta tn tc] (by rfl) (by rfl) (fun j u hu => by rw [Addr.add_mid]; exact range_new WD [.int .i64 X1, .int .i64 X2, .slice ta tn tc] 73 j u hu) (fun u hu => by simp at hu; rcases hu with rfl | rfl | rfl <;> rfl) (by unfold maxLen; omega) (by omega) HRa.out.2 ?_
      intro v' w8 hown8 hgr8 hat8
      obtain ⟨g8, c8, hv8⟩ := rowv_form' hown8
      subst hv8
      obtain ⟨⟨c81, f81⟩, hs8, hs9, hb9, hq9⟩ := HFIN.out w8 _ hown8 hgr8 hat8
      have HEND : Hid (_ ∧ _) := ⟨hb9, hq9⟩
      refine hK.out _ _ hs8 (fun hHeld => ?_)
      clear hown8 hgr8 hat8 hb9 hq9
      clear hK K
      try simp only [Act.put, List.setIfInBounds_toArray, List.set_cons_zero, List.set_cons_succ]
      refine wpAnyH_take (i := 13) (v := ?_) (by simp only [List.getElem?_toArray, List.getElem?_cons_zero, List.getElem?_cons_succ]; rfl) (by kernel_rfl) (by kernel_rfl) (by kernel_rfl) (fun _ _ _ h => h) (Or.inl ⟨by rfl, ?_⟩) (by assumption) ?_; rotate_left; (· (intro w hSw; (try dsimp only at hSw); go_simp <;> with_reducible rfl)); try simp only [Act.put, List.setIfInBounds_toArray, List.set_cons_zero, List.set_cons_succ]
      refine wpAnyH_take (i := 14) (v := ?_) (by simp only [List.getElem?_toArray, List.getElem?_cons_zero, List.getElem?_cons_succ]; rfl) (by kernel_rfl) (by kernel_rfl) (by kernel_rfl) (fun _ _ _ h => h) (Or.inl ⟨by rfl, ?_⟩) (by assumption) ?_; rotate_left; (· (intro w hSw; (try dsimp only at hSw); go_simp <;> with_reducible rfl)); try simp only [Act.put, List.setIfInBounds_toArray, List.set_cons_zero, List.set_cons_succ]
      refine wpAnyH_take (i := 15) (v := ?_) (by simp only [List.getElem?_toArray, List.getElem?_cons_zero, List.getElem?_cons_succ]; rfl) (by kernel_rfl) (by kernel_rfl) (by kernel_rfl) (fun _ _ _ h => h) (Or.inl ⟨by rfl, ?_⟩) (by assumption) ?_; rotate_left; (· (intro w hSw; (try dsimp only at hSw); go_simp <;> with_reducible rfl)); try simp only [Act.put, List.setIfInBounds_toArray, List.set_cons_zero, List.set_cons_succ]
      refine wpAnyH_ready (rs := [16]) (by kernel_rfl) (by simp) ?_
      refine AllReadyH.cons (by simp only [List.getElem?_toArray, List.getElem?_cons_zero, List.getElem?_cons_succ]; rfl) (fun K hK => ?_) AllReadyH.nil
      go_simp
      refine hK.out _ _ hs9 (fun hHeld => ?_)
      clear hK K
      try simp only [Act.put, List.setIfInBounds_toArray, List.set_cons_zero, List.set_cons_succ]
      refine wpAnyH_done (by kernel_rfl) ?_ _
      refine NoPanic.normal ?_
      clear hHeld c81 f81 hs8 hs9 hwd hS11
      go_wp2_with fail
      go_ret
      exact ⟨rfl, HEND.out⟩
    · go_simp
      refine hK.out _ _ (HSd.out _).1 (fun hHeld => ?_)
      clear hK K
      try simp only [Act.put, List.setIfInBounds_toArray, List.set_cons_zero, List.set_cons_succ]
      refine wpAnyH_ready (rs := [5]) (by kernel_rfl) (by simp) ?_
      refine AllReadyH.cons (by simp only [List.getElem?_toArray, List.getElem?_cons_zero, List.getElem?_cons_succ]; rfl) (fun K hK => ?_) AllReadyH.nil
      have c5 := (HSd.out (.cells #[.int .i64 X1, .int .i64 X2, .slice ta tn tc] 73)).2
      go_simp
      refine hK.out _ _ hHeld (fun hHeld => ?_)
      clear c5
      clear hK K
      try simp only [Act.put, List.setIfInBounds_toArray, List.set_cons_zero, List.set_cons_succ]
      refine wpAnyH_ready (rs := [12]) (by kernel_rfl) (by simp) ?_
      refine AllReadyH.cons (by simp only [List.getElem?_toArray, List.getElem?_cons_zero, List.getElem?_cons_succ]; rfl) (fun K hK => ?_) AllReadyH.nil
      refine stepH_append (by rfl) _ _ 22 (by rfl) B 73 i0 _ 3 40 Tryz.underlying22 hi hz hsz0 hbyt rfl (by decide) (.slice bva bd.length bvc) bd.length (encBd bd ts) (by rfl) HRa.out.1 ⟨WD.heap.size, 0, none⟩ 1 1 [.int .i64 X1, .int .i64 X2, .slice ta tn tc] (by rfl) (by rfl) (fun j u hu => by rw [Addr.add_mid]; exact range_new WD [.int .i64 X1, .int .i64 X2, .slice ta tn tc] 73 j u hu) (fun u hu => by simp at hu; rcases hu with rfl | rfl | rfl <;> rfl) (by unfold maxLen; omega) (by omega) HRa.out.2 ?_
      intro v' w8 hown8 hgr8 hat8
      obtain ⟨g8, c8, hv8⟩ := rowv_form' hown8
      subst hv8
      obtain ⟨⟨c81, f81⟩, hs8, hs9, hb9, hq9⟩ := HFIN.out w8 _ hown8 hgr8 hat8
      have HEND : Hid (_ ∧ _) := ⟨hb9, hq9⟩
      refine hK.out _ _ hs8 (fun hHeld => ?_)
      clear hown8 hgr8 hat8 hb9 hq9
      clear hK K
      try simp only [Act.put, List.setIfInBounds_toArray, List.set_cons_zero, List.set_cons_succ]
      refine wpAnyH_take (i := 13) (v := ?_) (by simp only [List.getElem?_toArray, List.getElem?_cons_zero, List.getElem?_cons_succ]; rfl) (by kernel_rfl) (by kernel_rfl) (by kernel_rfl) (fun _ _ _ h => h) (Or.inl ⟨by rfl, ?_⟩) (by assumption) ?_; rotate_left; (· (intro w hSw; (try dsimp only at hSw); go_simp <;> with_reducible rfl)); try simp only [Act.put, List.setIfInBounds_toArray, List.set_cons_zero, List.set_cons_succ]
      refine wpAnyH_take (i := 14) (v := ?_) (by simp only [List.getElem?_toArray, List.getElem?_cons_zero, List.getElem?_cons_succ]; rfl) (by kernel_rfl) (by kernel_rfl) (by kernel_rfl) (fun _ _ _ h => h) (Or.inl ⟨by rfl, ?_⟩) (by assumption) ?_; rotate_left; (· (intro w hSw; (try dsimp only at hSw); go_simp <;> with_reducible rfl)); try simp only [Act.put, List.setIfInBounds_toArray, List.set_cons_zero, List.set_cons_succ]
      refine wpAnyH_take (i := 15) (v := ?_) (by simp only [List.getElem?_toArray, List.getElem?_cons_zero, List.getElem?_cons_succ]; rfl) (by kernel_rfl) (by kernel_rfl) (by kernel_rfl) (fun _ _ _ h => h) (Or.inl ⟨by rfl, ?_⟩) (by assumption) ?_; rotate_left; (· (intro w hSw; (try dsimp only at hSw); go_simp <;> with_reducible rfl)); try simp only [Act.put, List.setIfInBounds_toArray, List.set_cons_zero, List.set_cons_succ]
      refine wpAnyH_ready (rs := [16]) (by kernel_rfl) (by simp) ?_
      refine AllReadyH.cons (by simp only [List.getElem?_toArray, List.getElem?_cons_zero, List.getElem?_cons_succ]; rfl) (fun K hK => ?_) AllReadyH.nil
      go_simp
      refine hK.out _ _ hs9 (fun hHeld => ?_)
      clear hK K
      try simp only [Act.put, List.setIfInBounds_toArray, List.set_cons_zero, List.set_cons_succ]
      refine wpAnyH_done (by kernel_rfl) ?_ _
      refine NoPanic.normal ?_
      clear hHeld c81 f81 hs8 hs9 hwd hS11
      go_wp2_with fail
      go_ret
      exact ⟨rfl, HEND.out⟩
  · go_wp2_with fail
    obtain ⟨W4, hW4⟩ : ∃ W, (w2.setCell ⟨sb, 3, none⟩ (.int .i64 ((d : Int) + 1))).setCell ⟨sb, 5, none⟩ (.slice (some ⟨g, 0, none⟩) q cap) = W := ⟨_, rfl⟩
    obtain ⟨a1, a2, a3, a4, a5, a6, a7, a8⟩ := HW5.out W4 hW4 3
    have hsz24 : w2.heap.size = W4.heap.size := by rw [← hW4]; simp
    rw [hW4]
    try rw [hsz24]
    obtain ⟨r0, hr0⟩ : ∃ r0, W4.heap.size = r0 := ⟨_, rfl⟩
    rw [hr0] at a2 a6
    try rw [hr0]
    clear hW4 HW5 hsz24
    generalize (W4.alloc (.cells #[.int .u8 3, .int .i64 X1, .int .i64 X2, .slice ta tn tc, .slice pa pn pc] 35)) = W5 at *
    clear hr0
    obtain ⟨i0, hi, hz, hsz0, hbyt⟩ := info29
    rw [HQ.out] at a1
    have HA : Hid (Sc W5 B sb hb M m bd r (d + 1) bv (.slice (some ⟨g, 0, none⟩) q cap) n D V ts (us.take q) ∧ Below B w W5 ∧ w.heap.size ≤ r0 ∧ W5.heap[r0]? = some (.cells #[.int .u8 3, .int .i64 X1, .int .i64 X2, .slice ta tn tc, .slice pa pn pc] 35 (0, 0)) ∧ ∀ k, k < w.heap.size → k ≠ sb → W5.heap[k]? = w.heap[k]?) := ⟨a1, a3, a6, a2, a8⟩
    obtain ⟨vs, hv1, hv2, hv3⟩ := a5
    have hvl : vs.length = P.length := by have := hv1.1; omega
    obtain ⟨pa', pc', hpf⟩ := rowv_form' hv1
    simp only [Value.slice.injEq] at hpf
    obtain ⟨-, hpn, -⟩ := hpf
    have HVS : Hid (vs.length = pn ∧ W5.ownsRow w.heap.size 24 1 (.slice pa pn pc) vs.length vs ∧ (∀ (j : Nat) (v : Value) (x : List C), vs[j]? = some v → P[j]? = some x → OwnT W5 w.heap.size v x) ∧ Ap vs ∧ P.length = pn ∧ W5.heap.size ≤ W5.heap.size) := ⟨by omega, by rw [hvl]; exact hv1, hv2, hv3, by omega, Nat.le_refl _⟩
    have hpn8 : pn ≤ 8 := by have := HST.out.sp.1; omega
    have HVF : Hid (∀ v ∈ vs, (∃ a n c, v = .slice a n c) ∧ ∀ z, v.ownBlock = some z → w.heap.size ≤ z) := by
      intro v hv
      obtain ⟨j, hj, rfl⟩ := List.getElem_of_mem hv
      have h1 := HVS.out.2.2.1 j _ P[j] (List.getElem?_eq_getElem hj) (List.getElem?_eq_getElem (by omega))
      obtain ⟨a, c, e⟩ := rowv_form' h1
      exact ⟨⟨a, _, c, e⟩, fun z hz => (h1.lt z hz).1⟩
    have H90 := rv90 w.heap.size (.slice pa pn pc) vs W5 HVS.out.2.1 fun v hv => (HVF.out v hv).1
    clear a1 a2 a3 a4 a6 a7 a8 hv1 hv2 hv3 hvl hpn
    refine H90.mono ?_
    rintro e w6 ⟨rfl, H6⟩
    clear H90
    have HT6 : Hid ((∀ (k : Nat) (cu : Array Value) (t : TypeId) (fr : Nat × Nat), t ≠ 24 → W5.heap[k]? = some (Obj.cells cu t fr) → w6.heap[k]? = some (Obj.cells cu t fr)) ∧ (∀ k, k < w.heap.size → w6.heap[k]? = W5.heap[k]?) ∧ W5.heap.size ≤ w6.heap.size ∧ w.heap.size ≤ W5.heap.size) := by
      have hgr := H6.out.2
      have hw5 := HA.out.2.1.size
      refine ⟨fun k cu t fr ht hc => (hgr.block k (Array.getElem?_eq_some_iff.1 hc).1 fun e => ?_).trans hc, fun k hk => hgr.block k (by omega) fun e => ?_, hgr.size, hw5⟩
      · obtain ⟨cu', e2⟩ := own_typed HVS.out.2.1 k e.symm
        rw [e2] at hc
        simp only [Option.some.injEq, Obj.cells.injEq] at hc
        exact ht hc.2.1.symm
      · have := (HVS.out.2.1.lt k e.symm).1
        omega
    have e6 := HT6.out.1 sb _ _ _ (by decide) HA.out.1.rc
    have er6 := HT6.out.1 r0 _ _ _ (by decide) HA.out.2.2.2.1
    have HB6 : Hid (Below B w w6) := HA.out.2.1.grown H6.out.2 (by have := HLow.out.2.2.2; have := HT6.out.2.2.2; omega) (fun z hz => by have := (HVS.out.2.1.lt z hz).1; have := HLow.out.2.2.2; omega)
    have w5c : w6.cell? ⟨sb, 5, none⟩ = some (.slice (some ⟨g, 0, none⟩) q cap) := by rw [cell_of_row w6 sb 5 _ 104 (0, 0) e6]; rfl
    have p4c : w6.cell? ⟨r0, 4, none⟩ = some (.slice pa pn pc) := (s3_of er6).2.2.2
    have HE6 : Hid (w6.heap[sb]? = some (.cells #[.int .u8 0, bv, .slice none 0 0, .int .i64 ((d + 1 : Nat) : Int), .pointer (some ⟨hb, 0, none⟩), .slice (some ⟨g, 0, none⟩) q cap] 104 (0, 0)) ∧ w6.heap[r0]? = some (.cells #[.int .u8 3, .int .i64 X1, .int .i64 X2, .slice ta tn tc, .slice pa pn pc] 35 (0, 0))) := ⟨e6, er6⟩
    have HO6 : Hid (w6.ownsRow B 24 1 (.slice (some ⟨g, 0, none⟩) q cap) q (us.take q)) := by
      have h1 := HA.out.1.ro
      rw [HQ.out] at h1
      refine owns_eq2 h1 fun z hz => HT6.out.2.1 z ?_
      simp [Value.ownBlock] at hz
      omega
    have HFIN : Hid (∀ (w8 : World) (v' : Value), w8.ownsRow B 24 1 v' (q + pn) (us.take q ++ vs.reverse) → w6.drew.grownBy w8 (Value.slice (some ⟨g, 0, none⟩) q cap).ownBlock → (v'.ownBlock = (Value.slice (some ⟨g, 0, none⟩) q cap).ownBlock ∨ v'.ownBlock = some w6.drew.heap.size) →
        (w8.cell? ⟨sb, 5, none⟩ = some (.slice (some ⟨g, 0, none⟩) q cap) ∧ w8.frozen? ⟨sb, 5, none⟩ = false) ∧ w8.cell? ⟨r0, 4, none⟩ = some (.slice pa pn pc) ∧ (w8.setCell ⟨sb, 5, none⟩ v').cell? ⟨r0, 4, none⟩ = some (.slice pa pn pc) ∧ Below B w (w8.setCell ⟨sb, 5, none⟩ v') ∧ Sq (w8.setCell ⟨sb, 5, none⟩ v') B sb hb M n0 ⟨m, P ++ r, bd, d + 1⟩) := by
      intro w8 v' ho hg hl
      have h0 := HSC.out
      have hBw : B ≤ w.heap.size := HLow.out.2.2.2
      have hz6 := HT6.out.2.2
      have keep8 : ∀ k, k < w6.heap.size → k ≠ g → w8.heap[k]? = w6.heap[k]? := fun k hk hne => hg.block k hk (fun e => hne (by simp [Value.ownBlock] at e; exact e))
      have hsz8 : w6.heap.size ≤ w8.heap.size := hg.size
      have typed8 : ∀ (k : Nat) (cu : Array Value) (t : TypeId) (fr : Nat × Nat), t ≠ 24 → w6.heap[k]? = some (Obj.cells cu t fr) → w8.heap[k]? = some (Obj.cells cu t fr) := fun k cu t fr ht hc => (keep8 k (Array.getElem?_eq_some_iff.1 hc).1 fun e => by
        obtain ⟨cu', e2⟩ := own_typed HO6.out g rfl
        rw [e, e2] at hc
        simp only [Option.some.injEq, Obj.cells.injEq] at hc
        exact ht hc.2.1.symm).trans hc
      have e8 := typed8 sb _ _ _ (by decide) HE6.out.1
      have er := typed8 r0 _ _ _ (by decide) HE6.out.2
      have hrs : r0 ≠ sb := fun e => by
        rw [e, e8] at er
        simp at er
      have er9 : (w8.setCell ⟨sb, 5, none⟩ v').heap[r0]? = _ := (heap_setCell_other w8 ⟨sb, 5, none⟩ r0 v' hrs).trans er
      have hb8 : Below B w w8 := ((HB6.out.trans ((Below.refl B w6).drew))).grown hg (show B ≤ w6.drew.heap.size by have h : w6.drew.heap.size = w6.heap.size := rfl; omega) (fun z hz => (HO6.out.lt z hz).1)
      have k9 : ∀ k, k < w.heap.size → k ≠ sb → k ≠ g → (w8.setCell ⟨sb, 5, none⟩ v').heap[k]? = w.heap[k]? := fun k h1 h2 h3 => (heap_setCell_other w8 ⟨sb, 5, none⟩ k v' h2).trans ((keep8 k (by omega) h3).trans ((HT6.out.2.1 k h1).trans (HA.out.2.2.2.2 k h1 h2)))
      have hsg : ∀ (k : Nat) (cu : Array Value) (t : TypeId) (fr : Nat × Nat), t ≠ 104 → t ≠ 24 → w.heap[k]? = some (Obj.cells cu t fr) → (w8.setCell ⟨sb, 5, none⟩ v').heap[k]? = w.heap[k]? := fun k cu t fr h1 h2 hc => by
        refine k9 k (Array.getElem?_eq_some_iff.1 hc).1 (fun e => ?_) fun e => ?_
        · have h3 := h0.rc
          unfold SvAt at h3
          rw [e, h3] at hc
          simp only [Option.some.injEq, Obj.cells.injEq] at hc
          exact h1 hc.2.1.symm
        · obtain ⟨cu', e2⟩ := own_typed HRO.out.2 g rfl
          rw [e, e2] at hc
          simp only [Option.some.injEq, Obj.cells.injEq] at hc
          exact h2 hc.2.1.symm
      refine ⟨⟨by rw [cell_of_row w8 sb 5 _ 104 (0, 0) e8]; rfl, frozen_of_row w8 sb 5 _ 104 e8⟩, (s3_of er).2.2.2, (s3_of er9).2.2.2, hb8.setCell (p := ⟨sb, 5, none⟩) HLow.out.1 v', bv, v', n, D, V, ts, us.take q ++ vs.reverse, by dsimp only; omega, ?_⟩
      have hto : ∀ u ∈ ts, ∀ z, u.ownBlock = some z → z < w.heap.size := fun u hu z hz => h0.ts_lt hu hz
      have huo : ∀ u ∈ us.take q, ∀ z, u.ownBlock = some z → z < w.heap.size := fun u hu z hz => h0.us_lt (List.mem_of_mem_take hu) hz
      have hvr : ∀ v ∈ vs.reverse, ∀ z, v.ownBlock = some z → w.heap.size ≤ z := fun v hv z hz => (HVF.out v (List.mem_reverse.1 hv)).2 z hz
      have htk : (us.take q).length = q := HO6.out.1.trans (by omega)
      have hrg : rv.ownBlock = some g := by rw [HRO.out.1]; rfl
      have hlen8 : (P ++ r).length = q + pn := by rw [List.length_append, HQ.out, HVS.out.2.2.2.2.1]; omega
      refine h0.turn (d' := d + 1) ⟨by simp; omega, fun k h1 h2 _ h4 => k9 k h1 h2 fun e => h4 (by rw [hrg, e])⟩ ?_ (owns_blocks h0.bo fun k cu hc => hsg k cu _ _ (by decide) (by decide) hc) ?_ h0.tl (fun j u b hu hb => .inl (h0.to j u b hu hb)) (fun j u l hu hl => ?_) h0.apt ?_ ?_ (.inl rfl) ?_
      · show (w8.setCell ⟨sb, 5, none⟩ v').heap[sb]? = _
        rw [heap_setCell_same w8 sb 5 _ 104 v' e8]
        rfl
      · rw [hlen8]
        exact owns_blocks ho fun k cu hc => heap_setCell_other w8 ⟨sb, 5, none⟩ k v' fun e => by
          rw [e, e8] at hc
          simp at hc
      · rw [List.reverse_append] at hl
        have hrq : r.reverse.length = q := by rw [List.length_reverse, HQ.out]
        by_cases hj : j < q
        · rw [List.getElem?_append_left (by omega), List.getElem?_take_of_lt hj] at hu
          rw [List.getElem?_append_left (by omega)] at hl
          exact .inl (h0.uo j u l hu (by rw [List.reverse_cons, List.getElem?_append_left (by omega)]; exact hl))
        · rw [List.getElem?_append_right (by omega), htk] at hu
          rw [List.getElem?_append_right (by omega), hrq] at hl
          have hjl : j - q < vs.length := by
            have := (List.getElem?_eq_some_iff.1 hu).1
            rw [List.length_reverse] at this
            exact this
          have hPl := HVS.out.2.2.2.2.1
          have hVl := HVS.out.1
          rw [List.getElem?_reverse hjl] at hu
          rw [List.getElem?_reverse (by omega)] at hl
          have h7 := HVS.out.2.2.1 (vs.length - 1 - (j - q)) u l hu (by rw [show vs.length - 1 - (j - q) = P.length - 1 - (j - q) by omega]; exact hl)
          refine .inr (owns_blocks (ownT_base h7 hBw) fun k cu hc => ?_)
          have h8 := typed8 k _ _ _ (by decide) (HT6.out.1 k _ _ _ (by decide) hc)
          refine ((heap_setCell_other w8 ⟨sb, 5, none⟩ k v' fun e => ?_).trans h8).trans hc.symm
          rw [e, e8] at h8
          simp at h8
      · refine ap_append (ap_take h0.apu q) (ap_rev HVS.out.2.2.2.1) fun u hu v hv z hz e => ?_
        have h1 := huo u hu z hz
        have h2 := hvr v hv z e
        omega
      · intro t1 ht1 u hu z hz e
        rcases List.mem_append.1 hu with h | h
        · exact h0.apx t1 ht1 u (List.mem_of_mem_take h) z hz e
        · have h1 := hto t1 ht1 z hz
          have h2 := hvr u h z e
          omega
      · rcases hl with h | h
        · exact .inl (by rw [h, hrg]; rfl)
        · exact .inr ⟨_, h, show w.heap.size ≤ w6.heap.size by omega⟩
    have hp14 : (fun u : World => u.cell? ⟨r0, 4, none⟩ = some (.slice pa pn pc)) w6.drew := p4c
    have c5d : w6.drew.cell? ⟨sb, 5, none⟩ = some (.slice (some ⟨g, 0, none⟩) q cap) := w5c
    have HNW : Hid (w6.drew.ownsRow B 24 1 (.slice (some ⟨g, 0, none⟩) q cap) q (us.take q) ∧ (pn = 0 ∨ ∃ ad, pa = some ad ∧ ∀ j u, vs.reverse[j]? = some u → w6.drew.cell? (ad.add j) = some u) ∧ vs.reverse.length = pn * 1 ∧ (∀ u ∈ vs.reverse, u.oneCell' = true) ∧ B ≤ w6.drew.heap.size) := by
      refine ⟨owns_low HO6.out (Below.drew (Below.refl _ _)), ?_, by rw [List.length_reverse, HVS.out.1]; omega, fun u hu => ?_, ?_⟩
      · have h1 := H6.out.1
        rw [HVS.out.1] at h1
        rcases h1.2 with ⟨e, h2⟩ | ⟨g', cp, cu, e, g1, g2, g3, g4, g5, g6⟩
        · exact .inl h2
        · simp only [Value.slice.injEq] at e
          refine .inr ⟨_, e.1, fun j u hu => ?_⟩
          rw [Addr.add_mid]
          exact range_of_owns' g2 g6 j u hu
      · obtain ⟨⟨a, n', c, e⟩, _⟩ := HVF.out u (List.mem_reverse.1 hu)
        rw [e]
        rfl
      · have h1 : w6.drew.heap.size = w6.heap.size := rfl
        have h2 := HT6.out.2.2
        have h3 := HLow.out.2.2.2
        omega
    clear e6 er6
    go_wp2_with fail
    refine wp_region_noPanic ?_
    refine wp_region_held_drew (S := fun u => u.cell? ⟨r0, 4, none⟩ = some (.slice pa pn pc)) (by kernel_rfl) hp14 (fun hHeld => ?_)
    clear w5c p4c
    generalize w6.drew = WD at *
    refine wpAnyH_take (i := 0) (v := ?_) (by simp only [List.getElem?_toArray, List.getElem?_cons_zero]; rfl) (by kernel_rfl) (by kernel_rfl) (by kernel_rfl) (fun _ _ _ h => h) (Or.inl ⟨by rfl, ?_⟩) (by assumption) ?_; rotate_left; (· (intro w hSw; (try dsimp only at hSw); go_simp <;> with_reducible rfl)); try simp only [Act.put, List.setIfInBounds_toArray, List.set_cons_zero, List.set_cons_succ]
    refine wpAnyH_take (i := 1) (v := ?_) (by simp only [List.getElem?_toArray, List.getElem?_cons_zero, List.getElem?_cons_succ]; rfl) (by kernel_rfl) (by kernel_rfl) (by kernel_rfl) (fun _ _ _ h => h) (Or.inl ⟨by rfl, ?_⟩) (by assumption) ?_; rotate_left; (· (intro w hSw; (try dsimp only at hSw); go_simp <;> with_reducible rfl)); try simp only [Act.put, List.setIfInBounds_toArray, List.set_cons_zero, List.set_cons_succ]
    refine wpAnyH_take (i := 2) (v := ?_) (by simp only [List.getElem?_toArray, List.getElem?_cons_zero, List.getElem?_cons_succ]; rfl) (by kernel_rfl) (by kernel_rfl) (by kernel_rfl) (fun _ _ _ h => h) (Or.inl ⟨by rfl, ?_⟩) (by assumption) ?_; rotate_left; (· (intro w hSw; (try dsimp only at hSw); go_simp <;> with_reducible rfl)); try simp only [Act.put, List.setIfInBounds_toArray, List.set_cons_zero, List.set_cons_succ]
    refine wpAnyH_take (i := 3) (v := ?_) (by simp only [List.getElem?_toArray, List.getElem?_cons_zero, List.getElem?_cons_succ]; rfl) (by kernel_rfl) (by kernel_rfl) (by kernel_rfl) (fun _ _ _ h => h) (Or.inl ⟨by rfl, ?_⟩) (by assumption) ?_; rotate_left; (· (intro w hSw; (try dsimp only at hSw); go_simp <;> with_reducible rfl)); try simp only [Act.put, List.setIfInBounds_toArray, List.set_cons_zero, List.set_cons_succ]
    refine wpAnyH_take (i := 5) (v := ?_) (by simp only [List.getElem?_toArray, List.getElem?_cons_zero, List.getElem?_cons_succ]; rfl) (by kernel_rfl) (by kernel_rfl) (by kernel_rfl) (fun _ _ _ h => h) (Or.inl ⟨by rfl, ?_⟩) (by assumption) ?_; rotate_left; (· (intro w hSw; (try dsimp only at hSw); go_simp <;> with_reducible rfl)); try simp only [Act.put, List.setIfInBounds_toArray, List.set_cons_zero, List.set_cons_succ]
    refine wpAnyH_take (i := 6) (v := ?_) (by simp only [List.getElem?_toArray, List.getElem?_cons_zero, List.getElem?_cons_succ]; rfl) (by kernel_rfl) (by kernel_rfl) (by kernel_rfl) (fun _ _ _ h => h) (Or.inl ⟨by rfl, ?_⟩) (by assumption) ?_; rotate_left; (· (intro w hSw; (try dsimp only at hSw); go_simp <;> with_reducible rfl)); try simp only [Act.put, List.setIfInBounds_toArray, List.set_cons_zero, List.set_cons_succ]
    refine wpAnyH_ready (rs := [4]) (by kernel_rfl) (by simp) ?_
    refine AllReadyH.cons (by simp only [List.getElem?_toArray, List.getElem?_cons_zero, List.getElem?_cons_succ]; rfl) (fun K hK => ?_) AllReadyH.nil
    go_simp
    refine hK.out _ _ hHeld (fun hHeld => ?_)
    clear hK K
    try simp only [Act.put, List.setIfInBounds_toArray, List.set_cons_zero, List.set_cons_succ]
    refine wpAnyH_ready (rs := [7]) (by kernel_rfl) (by simp) ?_
    refine AllReadyH.cons (by simp only [List.getElem?_toArray, List.getElem?_cons_zero, List.getElem?_cons_succ]; rfl) (fun K hK => ?_) AllReadyH.nil
    refine stepH_append_any (by rfl) _ _ 33 (by rfl) B 24 i0 (.slice none 0 0) 1 24 Tryz.underlying33 hi hz hsz0 hbyt rfl (by decide) _ _ _ (by rfl) HNW.out.1 pa pn pc vs.reverse (by rfl) HNW.out.2.2.1 HNW.out.2.1 HNW.out.2.2.2.1 (by unfold maxLen; omega) (by omega) HNW.out.2.2.2.2 ?_
    intro a8 c8 w8 hown8 hgr8 hat8
    obtain ⟨⟨c9, f9⟩, hs8, hs9, hb9, hq9⟩ := HFIN.out w8 _ hown8 hgr8 hat8
    have HEND : Hid (_ ∧ _) := ⟨hb9, hq9⟩
    refine hK.out _ _ hs8 (fun hHeld => ?_)
    clear hown8 hgr8 hat8 hb9 hq9
    clear hK K
    try simp only [Act.put, List.setIfInBounds_toArray, List.set_cons_zero, List.set_cons_succ]
    refine wpAnyH_take (i := 8) (v := ?_) (by simp only [List.getElem?_toArray, List.getElem?_cons_zero, List.getElem?_cons_succ]; rfl) (by kernel_rfl) (by kernel_rfl) (by kernel_rfl) (fun _ _ _ h => h) (Or.inl ⟨by rfl, ?_⟩) (by assumption) ?_; rotate_left; (· (intro w hSw; (try dsimp only at hSw); go_simp <;> with_reducible rfl)); try simp only [Act.put, List.setIfInBounds_toArray, List.set_cons_zero, List.set_cons_succ]
    refine wpAnyH_take (i := 9) (v := ?_) (by simp only [List.getElem?_toArray, List.getElem?_cons_zero, List.getElem?_cons_succ]; rfl) (by kernel_rfl) (by kernel_rfl) (by kernel_rfl) (fun _ _ _ h => h) (Or.inl ⟨by rfl, ?_⟩) (by assumption) ?_; rotate_left; (· (intro w hSw; (try dsimp only at hSw); go_simp <;> with_reducible rfl)); try simp only [Act.put, List.setIfInBounds_toArray, List.set_cons_zero, List.set_cons_succ]
    refine wpAnyH_ready (rs := [10]) (by kernel_rfl) (by simp) ?_
    refine AllReadyH.cons (by simp only [List.getElem?_toArray, List.getElem?_cons_zero, List.getElem?_cons_succ]; rfl) (fun K hK => ?_) AllReadyH.nil
    go_simp
    refine hK.out _ _ hs9 (fun hHeld => ?_)
    clear hK K
    try simp only [Act.put, List.setIfInBounds_toArray, List.set_cons_zero, List.set_cons_succ]
    refine wpAnyH_done (by kernel_rfl) ?_ _
    refine NoPanic.normal ?_
    clear hHeld c9 f9 hs8 hs9 c5d hp14
    go_wp2_with fail
    go_ret
    exact ⟨rfl, HEND.out⟩
  · go_wp2_with fail
    go_ret
    have HF : Hid (_ ∧ _) := HW5.out _ rfl 4
    obtain ⟨a1, a2, a3, _⟩ := HF.out
    exact ⟨rfl, a3, _, _, a1.rc⟩
end Go.Proofs.YtljggjllijacjaaGreatDoor
