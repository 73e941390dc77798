/- Contract of step of what is being solved, of whatever kind. Contracts of the program's Fork, and of solvingBy of a map. Contracts of solved and of the program's Solve. Contract of the program's Solve. -/
import Derived.Test.YtljggjllijacjaaGreatDoorQAg
import Derived.Test.YtljggjllijacjaaGreatDoorYAxg
import Derived.Deep.AppendSrc
import Derived.Maps.Views
import Derived.RangeFuncOwn
import Derived.RangeFuncKeeps
import Derived.RangeFuncFrom
import Derived.Deep.RegionHeld3
import Derived.Maps.AppendAt
import Derived.Shelf.SlMaps.Clone
namespace Go.Proofs.YtljggjllijacjaaGreatDoor
open Go.RowKit
attribute [local go_sem ↓] Go.wp_at_zero Go.wp_at_succ
theorem signs_low {B : Nat} {w w' : World} (h : Signs w) (hb : Below B w w') (hB : 0 < B) (hw : B ≤ w.heap.size) : Signs w' := by
 have e := hb.block 0 hB
 refine ⟨by have := hb.size; omega, fun j v hv => ?_⟩
 exact (World.cell?_of_block (a := ⟨0, 0 + j, none⟩) e).trans (h.2 j v hv)
theorem rows_base {w : World} {b b' e s n : Nat} {v : Value} {xs : List Value} (h : w.ownsRow b e s v n xs) (hb : b' ≤ b) : w.ownsRow b' e s v n xs := by
 refine ⟨h.1, ?_⟩
 rcases h.2 with h1 | ⟨g, cap, cur, h1, h2, h3⟩
 ·exact .inl h1
 ·exact .inr ⟨g, cap, cur, h1, Nat.le_trans hb h2, h3⟩
def Sq (w : World) (B sb hb M n0 : Nat) (s : Sta) : Prop := ∃ bv rv n D V ts us, n ≤ n0 + s.d ∧ Sc w B sb hb M s.m s.bd s.row s.d bv rv n D V ts us
section
variable {w w' : World} {B sb hb M : Nat} {m : Hp} {bd : List (Nm × List C)} {row : List (List C)} {d : Nat} {bv rv : Value} {n : Nat} {D : DataW Value} {V : Nat → Prop} {ts us : List Value}
theorem Sc.bind {x : Nm} {l : List C} (h : Sc w B sb hb M m bd row d bv rv n D V ts us) (hp : BindPost m x l hb M n D w w') (hm : ∀ y l', lookH (bindH m x l) y = some l' → l' ≠ []) : ∃ n' D' V', n' ≤ n + 1 ∧ Sc w' B sb hb M (bindH m x l) bd row d bv rv n' D' V' ts us ∧ Below B w w' := by
 obtain ⟨n', D', b1, b2, b3, b4⟩ := hp
 have hty : ∀ (k : Nat) (cur : Array Value) (t : TypeId) (fr : Nat × Nat), w.heap[k]? = some (Obj.cells cur t fr) → w'.heap[k]? = w.heap[k]? := fun k cur t fr hk => b3.2.2.2.2 k (Array.getElem?_eq_some_iff.1 hk).1 fun e => by
  obtain ⟨es, ck, k1, _⟩ := h.hp.map
  rw [e, k1] at hk
  simp at hk
 have hsz := b3.2.2.2.1
 have hsb := (Array.getElem?_eq_some_iff.1 h.rc).1
 refine ⟨n', D', _, b2, ⟨(hty sb _ _ _ h.rc).trans h.rc, owns_blocks h.bo fun k cu hc => hty k cu _ _ hc, owns_blocks h.ro fun k cu hc => hty k cu _ _ hc, h.tl, fun j u b h1 h2 => owns_blocks (h.to j u b h1 h2) fun k cu hc => hty k cu _ _ hc, fun j u l h1 h2 => owns_blocks (h.uo j u l h1 h2) fun k cu hc => hty k cu _ _ hc, h.apt, h.apu, h.apx, b1, vb_cut b1 hm (b4 V h.vb), fun g hg => ?_, h.low.1, h.low.2.1, h.low.2.2.1, Nat.le_trans h.low.2.2.2 hsz⟩, b3.below h.low.2.2.1 h.low.2.2.2⟩
 refine ⟨hg.2, ?_⟩
 rcases hg.1 with k | k
 ·exact (h.vv g k).2
 ·refine ⟨by omega, fun e => ?_, fun e => ?_⟩
  ·have := (h.bo.lt g e).2; omega
  ·have := (h.ro.lt g e).2; omega
/-- The row's last equation. -/
theorem Sc.last {t : List C} {r : List (List C)} (h : Sc w B sb hb M m bd (t :: r) d bv rv n D V ts us) : ∃ g cap u, rv = .slice (some ⟨g, 0, none⟩) (r.length + 1) cap ∧ r.length + 1 ≤ cap ∧ cap ≤ maxLen ∧ g < w.heap.size ∧ w.cell? ⟨g, r.length, none⟩ = some u ∧ OwnT w B u t ∧ us = us.take r.length ++ [u] ∧ w.ownsRow B 24 1 (.slice (some ⟨g, 0, none⟩) r.length cap) r.length (us.take r.length) := by
 have h1 := h.ro
 rw [List.length_cons] at h1
 have hul : us.length = r.length + 1 := by have := h1.1; omega
 rcases h1.2 with ⟨_, e⟩ | ⟨g, c, cur, e1, e2, e3, e4, e5, e6, e7⟩
 ·omega
 ·have hu : us[r.length]? = some us[r.length] := List.getElem?_eq_getElem (by omega)
  refine ⟨g, c, us[r.length], e1, e4, e5, (Array.getElem?_eq_some_iff.1 e3).1, ?_, h.uo r.length _ t hu (by simp), ?_, ⟨by rw [List.length_take]; omega, .inr ⟨g, c, cur, rfl, e2, e3, by omega, e5, e6, ?_⟩⟩⟩
  ·have := range_of_owns' e3 e7 r.length _ hu
   simpa using this
  ·rw [List.take_append_getElem (by omega), List.take_of_length_le (by omega)]
  ·rw [← e7, List.take_take]; congr 1; omega
theorem ap_take {us : List Value} (h : Ap us) (k : Nat) : Ap (us.take k) := by
 intro j j' x y g hne hx hy
 have hj : j < k := by have := (List.getElem?_eq_some_iff.1 hx).1; rw [List.length_take] at this; omega
 have hj' : j' < k := by have := (List.getElem?_eq_some_iff.1 hy).1; rw [List.length_take] at this; omega
 rw [List.getElem?_take_of_lt hj] at hx
 rw [List.getElem?_take_of_lt hj'] at hy
 exact h j j' x y g hne hx hy
/-- The record behind a step's first half: one step more, the equation gone. -/
theorem Sc.pop {t : List C} {r : List (List C)} {g cap : Nat} (h : Sc w B sb hb M m bd (t :: r) d bv rv n D V ts us) (hrv : rv = .slice (some ⟨g, 0, none⟩) (r.length + 1) cap) (hro : w.ownsRow B 24 1 (.slice (some ⟨g, 0, none⟩) r.length cap) r.length (us.take r.length))
  (hk : ∀ k, k < w.heap.size → k ≠ sb → w'.heap[k]? = w.heap[k]?) (hs : w.heap.size ≤ w'.heap.size) (hrc : SvAt w' sb hb bv (.slice (some ⟨g, 0, none⟩) r.length cap) ((d + 1 : Nat) : Int)) : Sc w' B sb hb M m bd r (d + 1) bv (.slice (some ⟨g, 0, none⟩) r.length cap) n D V ts (us.take r.length) := by
 have hty : ∀ (k : Nat) (cur : Array Value) (t : TypeId) (fr : Nat × Nat), t ≠ 104 → w.heap[k]? = some (Obj.cells cur t fr) → w'.heap[k]? = w.heap[k]? := fun k cur t fr ht hc => hk k (Array.getElem?_eq_some_iff.1 hc).1 fun e => by
  have h1 := h.rc
  unfold SvAt at h1
  rw [e, h1] at hc
  simp only [Option.some.injEq, Obj.cells.injEq] at hc
  exact ht hc.2.1.symm
 refine h.turn ⟨hs, fun k h1 h2 _ _ => hk k h1 h2⟩ hrc (owns_blocks h.bo fun k cu hc => hty k cu _ _ (by decide) hc) (owns_blocks hro fun k cu hc => hty k cu _ _ (by decide) hc) h.tl (fun j u b h1 h2 => .inl (h.to j u b h1 h2)) (fun j u l h1 h2 => .inl ?_) h.apt (ap_take h.apu _) (fun x hx u hu => h.apx x hx u (List.mem_of_mem_take hu)) (.inl rfl) (.inl (by rw [hrv]; rfl))
 have hj : j < r.length := by have := (List.getElem?_eq_some_iff.1 h2).1; simpa using this
 rw [List.getElem?_take_of_lt hj] at h1
 exact h.uo j u l h1 (by rw [List.reverse_cons, List.getElem?_append_left (by simpa using hj)]; exact h2)
end
theorem ap_mem {us : List Value} (h : ∀ (i j : Nat) (hi : i < us.length) (hj : j < us.length) (g : Nat), i ≠ j → us[i].ownBlock = some g → us[j].ownBlock ≠ some g) : Ap us := by
 intro j j' x y g hne hx hy
 obtain ⟨h1, rfl⟩ := List.getElem?_eq_some_iff.1 hx
 obtain ⟨h2, rfl⟩ := List.getElem?_eq_some_iff.1 hy
 exact h j j' h1 h2 g hne
theorem ap_append {us vs : List Value} (h1 : Ap us) (h2 : Ap vs) (hx : ∀ u ∈ us, ∀ v ∈ vs, ∀ g, u.ownBlock = some g → v.ownBlock ≠ some g) : Ap (us ++ vs) := by
 refine ap_mem fun i j hi hj g hne hg => ?_
 by_cases ai : i < us.length
 ·rw [List.getElem_append_left ai] at hg
  by_cases aj : j < us.length
  ·rw [List.getElem_append_left aj]
   exact h1 i j _ _ g hne (List.getElem?_eq_getElem ai) (List.getElem?_eq_getElem aj) hg
  ·rw [List.getElem_append_right (by omega)]
   exact hx _ (List.getElem_mem ai) _ (List.getElem_mem _) g hg
 ·rw [List.getElem_append_right (by omega)] at hg
  by_cases aj : j < us.length
  ·rw [List.getElem_append_left aj]
   exact fun e => hx _ (List.getElem_mem aj) _ (List.getElem_mem _) g e hg
  ·rw [List.getElem_append_right (by omega)]
   rw [List.length_append] at hi hj
   exact h2 (i - us.length) (j - us.length) _ _ g (by omega) (List.getElem?_eq_getElem (by omega)) (List.getElem?_eq_getElem (by omega)) hg
theorem ap_rev {us : List Value} (h : Ap us) : Ap us.reverse := by
 refine ap_mem fun i j hi hj g hne hg => ?_
 rw [List.getElem_reverse] at hg ⊢
 rw [List.length_reverse] at hi hj
 exact h _ _ _ _ g (by omega) (List.getElem?_eq_getElem (by omega)) (List.getElem?_eq_getElem (by omega)) hg
section
variable {w : World} {B sb hb M : Nat} {m : Hp} {bd : List (Nm × List C)} {row : List (List C)} {d : Nat} {bv rv : Value} {n : Nat} {D : DataW Value} {V : Nat → Prop} {ts us : List Value}
theorem Sc.ts_lt (h : Sc w B sb hb M m bd row d bv rv n D V ts us) {u : Value} (hu : u ∈ ts) {g : Nat} (hg : u.ownBlock = some g) : g < w.heap.size := by
 obtain ⟨j, hj, rfl⟩ := List.getElem_of_mem hu
 have hl := h.tl
 exact ((h.to j _ _ (List.getElem?_eq_getElem hj) (List.getElem?_eq_getElem (by omega))).lt g hg).2
theorem Sc.us_lt (h : Sc w B sb hb M m bd row d bv rv n D V ts us) {u : Value} (hu : u ∈ us) {g : Nat} (hg : u.ownBlock = some g) : g < w.heap.size := by
 obtain ⟨j, hj, rfl⟩ := List.getElem_of_mem hu
 have hl := h.ro.1
 have hj' : j < row.reverse.length := by rw [List.length_reverse]; omega
 exact ((h.uo j _ _ (List.getElem?_eq_getElem hj) (List.getElem?_eq_getElem hj')).lt g hg).2
end
theorem bind_all {w w' : World} {B sb hb M : Nat} {m : Hp} {bd : List (Nm × List C)} {row : List (List C)} {d : Nat} {bv rv : Value} {n : Nat} {D : DataW Value} {V : Nat → Prop} {ts us : List Value} {x : Nm} {l : List C} (h : Sc w B sb hb M m bd row d bv rv n D V ts us) (hp : BindPost m x l hb M n D w.drew w') (hm : ∀ y l', lookH (bindH m x l) y = some l' → l' ≠ []) :
  ∃ n' D' V', n' ≤ n + 1 ∧ Sc w' B sb hb M (bindH m x l) bd row d bv rv n' D' V' ts us ∧ w.drew.heap.size ≤ w'.heap.size ∧ Below B w w' ∧ ∀ (k : Nat) (cur : Array Value) (t : TypeId) (fr : Nat × Nat), w.heap[k]? = some (Obj.cells cur t fr) → w'.heap[k]? = some (Obj.cells cur t fr) := by
 have hd := h.below (Below.drew (Below.refl _ w))
 obtain ⟨n', D', V', h1, h2, h3⟩ := hd.bind hp hm
 obtain ⟨_, _, _, _, b3, _⟩ := hp
 refine ⟨n', D', V', h1, h2, b3.2.2.2.1, ((Below.refl B w).drew).trans h3, fun k cur t fr hk => ?_⟩
 refine (b3.2.2.2.2 k (Array.getElem?_eq_some_iff.1 hk).1 fun e => ?_).trans hk
 obtain ⟨es, ck, k1, _⟩ := h.hp.map
 rw [e, k1] at hk
 simp at hk
theorem owns_eq2 {w w' : World} {B e s n : Nat} {v : Value} {xs : List Value} (h : w.ownsRow B e s v n xs) (hg : ∀ g, v.ownBlock = some g → w'.heap[g]? = w.heap[g]?) : w'.ownsRow B e s v n xs := by
 refine ⟨h.1, ?_⟩
 rcases h.2 with hh | ⟨g', cap, cu, e1, e2, e3, e4⟩
 ·exact .inl hh
 ·exact .inr ⟨g', cap, cu, e1, e2, (hg g' (by rw [e1]; rfl)).trans e3, e4⟩
section
variable {P : Program}
/-- An append in a region of whatever slice, nil too, to a row of one's own. -/
theorem stepH_append_any {w : World} {ops : Array Oper} {o : Oper} {a : Act} {K : Act → World → Prop} {Q : Exit → Act → World → Prop} {E : Prop} (hgd : o.guard = none) (s x : Operand) (t : TypeId)
  (ho : o.op = .call { callee := .builtin .append, args := #[s, x], argTypes := #[t, t] })
  (base : Nat) (e : TypeId) (i : TypeInfo) (z : Value) (size bytes : Nat) (ht : P.underlying t = some (.slice e)) (hi : P.info? e = some i) (hz : i.zero = some z)
  (hsize : i.size = size) (hby : i.bytes = bytes) (hzs : z.cells.size = size) (hsz : 0 < size)
  (v : Value) (n : Nat) (xs : List Value) (hs : a.eval s = v) (hown : w.ownsRow base e size v n xs)
  (ax : Option Addr) (m c : Nat) (news : List Value) (hx : a.eval x = .slice ax m c) (hl : news.length = m * size) (hnews : m = 0 ∨ ∃ ad, ax = some ad ∧ ∀ j u, news[j]? = some u → w.cell? (ad.add j) = some u) (h1 : ∀ u ∈ news, u.oneCell' = true)
  (h63 : n + m ≤ maxLen) (hbytes : (n + m) * bytes ≤ 140737488355328) (hbase : base ≤ w.heap.size)
  (h : ∀ a' c' w', w'.ownsRow base e size (.slice a' (n + m) c') (n + m) (xs ++ news) → w.grownBy w' v.ownBlock → ((Value.slice a' (n + m) c').ownBlock = v.ownBlock ∨ (Value.slice a' (n + m) c').ownBlock = some w.heap.size) → K (a.put o.dst (.slice a' (n + m) c')) w') :
  if Region.wanted o (yielded ops a.tmps) = true then Oper.wp P o a w K Q else E := by
 cases ax with
 | some ad =>
  refine stepH_append hgd s x t ho base e i z size bytes ht hi hz hsize hby hzs hsz v n xs hs hown ad m c news hx hl ?_ h1 h63 hbytes hbase fun v' w' h2 h3 h4 => ?_
  ·rcases hnews with e | ⟨ad', e, h2⟩
   ·intro j u hu
    have : news = [] := List.eq_nil_of_length_eq_zero (by rw [hl, e, Nat.zero_mul])
    rw [this] at hu; simp at hu
   ·cases e; exact h2
  ·obtain ⟨a', c', rfl⟩ := rowv_form' h2
   exact h a' c' w' h2 h3 h4
 | none =>
  have hm : m = 0 := by
   rcases hnews with e | ⟨ad', e, _⟩
   ·exact e
   ·cases e
  subst hm
  obtain rfl : news = [] := List.eq_nil_of_length_eq_zero (by rw [hl, Nat.zero_mul])
  obtain ⟨a', c', rfl⟩ := rowv_form' hown
  have hle : n ≤ c' := by
   rcases hown.2 with ⟨h1, h2⟩ | ⟨g, cap, cur, h1, _, _, h4, _⟩
   ·cases h1; omega
   ·cases h1; exact h4
  have hrun := run_append_nothing w t t o.type e i ht hi a' n c' hle (.slice none 0 c) (Src.ofNil w ht c)
  have hw : Region.wanted o (yielded ops a.tmps) = true := by simp [Region.wanted, hgd]
  rw [if_pos hw]
  unfold Oper.wp
  simp [execOp, ho, resolve, invoke, builtin, hs, hx, hrun, Result.andThen, Oper.upon]
  exact h a' c' w (by simpa using hown) ⟨rfl, rfl, rfl, Nat.le_refl _, fun _ _ _ => rfl⟩ (.inl rfl)
end
abbrev S4 (sb hb r0 : Nat) (X1 X2 : Int) (tv pv : Value) (W : World) : Prop := W.cell? ⟨sb, 4, none⟩ = some (.pointer (some ⟨hb, 0, none⟩)) ∧ W.cell? ⟨r0, 1, none⟩ = some (.int .i64 X1) ∧ W.cell? ⟨r0, 2, none⟩ = some (.int .i64 X2) ∧ W.cell? ⟨r0, 3, none⟩ = some tv ∧ W.cell? ⟨r0, 4, none⟩ = some pv
abbrev S3 (r0 : Nat) (X1 X2 : Int) (tv pv : Value) (W : World) : Prop := W.cell? ⟨r0, 1, none⟩ = some (.int .i64 X1) ∧ W.cell? ⟨r0, 2, none⟩ = some (.int .i64 X2) ∧ W.cell? ⟨r0, 3, none⟩ = some tv ∧ W.cell? ⟨r0, 4, none⟩ = some pv
theorem s3_of {W : World} {r0 : Nat} {k X1 X2 : Value} {tv pv : Value} (h : W.heap[r0]? = some (.cells #[k, X1, X2, tv, pv] 35 (0, 0))) : W.cell? ⟨r0, 1, none⟩ = some X1 ∧ W.cell? ⟨r0, 2, none⟩ = some X2 ∧ W.cell? ⟨r0, 3, none⟩ = some tv ∧ W.cell? ⟨r0, 4, none⟩ = some pv := by
 refine ⟨?_, ?_, ?_, ?_⟩ <;> (rw [cell_of_row W r0 _ _ 35 (0, 0) h]; rfl)
set_option maxRecDepth 100000 in
set_option maxHeartbeats 16000000 in
theorem y60 (B sb hb M n0 : Nat) (s : Sta) (t : List C) (r : List (List C)) (w : World) (hr : s.row = t :: r) (hOk : StaOk s n0) (h : Sq w B sb hb M n0 s) (hS : Signs w) (hB : 0 < B) (hd : s.d ≤ 100000) (hn0 : n0 ≤ 100000000) :
  Calls Tryz.prog 60 #[.pointer (some ⟨sb, 0, none⟩)] w fun e w' => e = .returned (.bool (!((nxK s t).k == 4))) ∧ Below B w w' ∧ ((nxK s t).k ≠ 4 → Sq w' B sb hb M n0 (nxS s t r)) ∧ ((nxK s t).k = 4 → ∃ bv rv, SvAt w' sb hb bv rv ((s.d + 1 : Nat) : Int)) := by
 obtain ⟨bv, rv, n, D, V, ts, us, hn, hsc⟩ := h
 have hst := hOk.step hr
 have hnx : nxS s t r = ⟨if (nxK s t).k = 2 then bindH s.m (nxK s t).V (nxK s t).T else s.m, (nxK s t).P ++ r, if (nxK s t).k = 2 then s.bd ++ [((nxK s t).V, (nxK s t).T)] else s.bd, s.d + 1⟩ := rfl
 have hno := (hOk.next hr).hp.len
 have hlen := hOk.len
 have hbl := hOk.bl
 have htt := hOk.row t (by rw [hr]; simp)
 have hmW := hOk.hp
 rw [hnx] at hno ⊢
 rw [hr] at hsc hlen
 generalize nxK s t = x at *
 obtain ⟨k, ⟨X1, X2⟩, T, P⟩ := x
 dsimp only at hst hno ⊢
 obtain ⟨m, row, bd, d⟩ := s
 dsimp only at hst hno hsc hn hd hlen hbl hmW ⊢
 clear hnx hOk hr
 obtain ⟨g, cap, u, hrv, hcap, hcm, hgw, hcu, hOE, hus, hro⟩ := hsc.last
 have hTE : TermAt w u t := ownT_term hOE (by have := htt.1.1; unfold maxLen; omega) htt.1.2
 have H6 := u6s t u w hTE hS
 have HSC : Hid (Sc w B sb hb M m bd (t :: r) d bv rv n D V ts us) := hsc
 have HRO : Hid (rv = .slice (some ⟨g, 0, none⟩) (r.length + 1) cap ∧ w.ownsRow B 24 1 (.slice (some ⟨g, 0, none⟩) r.length cap) r.length (us.take r.length)) := ⟨hrv, hro⟩
 have HST : Hid (StepR m (sd1 t) (sd2 t) k (X1, X2) T P) := hst
 have HTT : Hid (Sht t ∧ WfT t ∧ HpW m) := ⟨htt.1, htt.2, hmW⟩
 have hrc := hsc.rc
 have HLow : Hid (B ≤ sb ∧ B ≤ hb ∧ B ≤ M ∧ B ≤ w.heap.size) := hsc.low
 rw [hrv] at hrc
 have HRC : Hid (SvAt w sb hb bv (.slice (some ⟨g, 0, none⟩) (r.length + 1) cap) (d : Int)) := hrc
 obtain ⟨x0, x1, x2, x3, x4, x5⟩ : w.cell? ⟨sb, 0, none⟩ = some (.int .u8 0) ∧ w.cell? ⟨sb, 1, none⟩ = some bv ∧ w.cell? ⟨sb, 2, none⟩ = some (.slice none 0 0) ∧ w.cell? ⟨sb, 3, none⟩ = some (.int .i64 (d : Int)) ∧ w.cell? ⟨sb, 4, none⟩ = some (.pointer (some ⟨hb, 0, none⟩)) ∧ w.cell? ⟨sb, 5, none⟩ = some (.slice (some ⟨g, 0, none⟩) (r.length + 1) cap) := by
  refine ⟨?_, ?_, ?_, ?_, ?_, ?_⟩ <;> (rw [cell_of_row w sb _ _ 104 (0, 0) hrc]; rfl)
 have hsbw : sb < w.heap.size := (Array.getElem?_eq_some_iff.1 hrc).1
 obtain ⟨q, hq⟩ : ∃ q, r.length = q := ⟨_, rfl⟩
 have HQ : Hid (r.length = q) := hq
 rw [hq] at x5 hcap hcu
 have hq1 : ((q + 1 : Nat) : Int) - 1 = (q : Int) := by omega
 have hqU : q ≤ 200000000 := by
  rw [List.length_cons, hq] at hlen
  omega
 obtain ⟨ua, un, uc, huf⟩ : ∃ a b c, u = .slice a b c := by obtain ⟨a, c, e⟩ := hTE.form; exact ⟨_, _, _, e⟩
 subst huf
 have HSG : Hid (Signs w) := hS
 clear hsc hst htt hmW hrc hrv hro hus hOE hTE hq hS hlen
 go_enter Tryz.func60, Tryz.ntmps60
 go_wp2_with fail
 refine H6.mono ?_
 rintro e w1 ⟨a, b, rfl, hOa, hOb, _, hb1⟩
 have HB1 : Hid (Below w.heap.size w w1) := hb1
 have hTa : TermAt w1 a (sd1 t) := ownT_term hOa (by have := (sd_len t).1; unfold maxLen; omega) (sd_txt t HTT.out.1.2).1
 have hTb : TermAt w1 b (sd2 t) := ownT_term hOb (by have := (sd_len t).2; unfold maxLen; omega) (sd_txt t HTT.out.1.2).2
 have H8 := HST.out.pr w1 (.pointer (some ⟨hb, 0, none⟩)) a b (.inr ⟨hb, M, n, D, rfl, HSC.out.hp.below hb1⟩) hTa hTb (HSG.out.below hb1)
 obtain ⟨y0, y1, y2, y3, y4, y5⟩ : w1.cell? ⟨sb, 0, none⟩ = some (.int .u8 0) ∧ w1.cell? ⟨sb, 1, none⟩ = some bv ∧ w1.cell? ⟨sb, 2, none⟩ = some (.slice none 0 0) ∧ w1.cell? ⟨sb, 3, none⟩ = some (.int .i64 (d : Int)) ∧ w1.cell? ⟨sb, 4, none⟩ = some (.pointer (some ⟨hb, 0, none⟩)) ∧ w1.cell? ⟨sb, 5, none⟩ = some (.slice (some ⟨g, 0, none⟩) (q + 1) cap) := by
  have e := (hb1.block sb hsbw).trans HRC.out
  rw [HQ.out] at e
  refine ⟨?_, ?_, ?_, ?_, ?_, ?_⟩ <;> (rw [cell_of_row w1 sb _ _ 104 (0, 0) e]; rfl)
 obtain ⟨aa, ac, haf⟩ := hTa.form
 obtain ⟨ba, bc, hbf⟩ := hTb.form
 have hsb1 : sb < w1.heap.size := by have := hb1.size; omega
 generalize (sd1 t).length = lx at haf
 generalize (sd2 t).length = ly at hbf
 subst haf hbf
 clear x0 x1 x2 x3 x4 x5 hTa hTb hOa hOb hb1 H6 hcu
 go_wp2_with fail
 refine H8.mono ?_
 rintro e w2 ⟨ta, tn, tc, pa, pn, pc, rfl, hOT, hOP, hb2, hor⟩
 have HB2 : Hid (Below w.heap.size w w2) := HB1.out.trans (hb2.mono HB1.out.size)
 have HOT : Hid (OwnT w2 w.heap.size (.slice ta tn tc) T) := ownT_base hOT HB1.out.size
 have HOP : Hid (OwnRow w2 w1.heap.size (.slice pa pn pc) P ∧ (P = [] ∨ ta = none) ∧ w.heap.size ≤ w1.heap.size) := ⟨hOP, hor, HB1.out.size⟩
 obtain ⟨z0, z1, z2, z3, z4, z5⟩ : w2.cell? ⟨sb, 0, none⟩ = some (.int .u8 0) ∧ w2.cell? ⟨sb, 1, none⟩ = some bv ∧ w2.cell? ⟨sb, 2, none⟩ = some (.slice none 0 0) ∧ w2.cell? ⟨sb, 3, none⟩ = some (.int .i64 (d : Int)) ∧ w2.cell? ⟨sb, 4, none⟩ = some (.pointer (some ⟨hb, 0, none⟩)) ∧ w2.cell? ⟨sb, 5, none⟩ = some (.slice (some ⟨g, 0, none⟩) (q + 1) cap) := by
  have e := (HB2.out.block sb hsbw).trans HRC.out
  rw [HQ.out] at e
  refine ⟨?_, ?_, ?_, ?_, ?_, ?_⟩ <;> (rw [cell_of_row w2 sb _ _ 104 (0, 0) e]; rfl)
 have fz : ∀ j, w2.frozen? ⟨sb, j, none⟩ = false := fun j => frozen_of_row w2 sb j _ 104 ((HB2.out.block sb hsbw).trans HRC.out)
 have f1 := fz 1
 have f3 := fz 3
 have f5 := fz 5
 have hsb2 : sb < w2.heap.size := by have := hb2.size; omega
 have hst1 : (0 : Int) ≤ (d : Int) := by omega
 have hqc : (q : Int) ≤ (cap : Int) := by omega
 have hq0 : (0 : Int) ≤ (q : Int) := by omega
 -- the two stores, and the answer's box
 have HW5 : Hid (∀ W4, ((w2.setCell ⟨sb, 3, none⟩ (.int .i64 ((d : Int) + 1))).setCell ⟨sb, 5, none⟩ (.slice (some ⟨g, 0, none⟩) q cap)) = W4 → ∀ k', Sc (W4.alloc (.cells #[.int .u8 k', .int .i64 X1, .int .i64 X2, .slice ta tn tc, .slice pa pn pc] 35)) B sb hb M m bd r (d + 1) bv (.slice (some ⟨g, 0, none⟩) q cap) n D V ts (us.take r.length) ∧ (W4.alloc (.cells #[.int .u8 k', .int .i64 X1, .int .i64 X2, .slice ta tn tc, .slice pa pn pc] 35)).heap[W4.heap.size]? = some (.cells #[.int .u8 k', .int .i64 X1, .int .i64 X2, .slice ta tn tc, .slice pa pn pc] 35 (0, 0)) ∧ Below B w (W4.alloc (.cells #[.int .u8 k', .int .i64 X1, .int .i64 X2, .slice ta tn tc, .slice pa pn pc] 35)) ∧ OwnT (W4.alloc (.cells #[.int .u8 k', .int .i64 X1, .int .i64 X2, .slice ta tn tc, .slice pa pn pc] 35)) w.heap.size (.slice ta tn tc) T ∧ OwnRow (W4.alloc (.cells #[.int .u8 k', .int .i64 X1, .int .i64 X2, .slice ta tn tc, .slice pa pn pc] 35)) w.heap.size (.slice pa pn pc) P ∧ w.heap.size ≤ W4.heap.size ∧ Signs (W4.alloc (.cells #[.int .u8 k', .int .i64 X1, .int .i64 X2, .slice ta tn tc, .slice pa pn pc] 35)) ∧ ∀ k, k < w.heap.size → k ≠ sb → (W4.alloc (.cells #[.int .u8 k', .int .i64 X1, .int .i64 X2, .slice ta tn tc, .slice pa pn pc] 35)).heap[k]? = w.heap[k]?) := by
  intro W4 hW4 k'
  have hcs2 : W4.heap[sb]? = some (.cells #[.int .u8 0, bv, .slice none 0 0, .int .i64 ((d : Int) + 1), .pointer (some ⟨hb, 0, none⟩), .slice (some ⟨g, 0, none⟩) q cap] 104 (0, 0)) := by
   have e := (HB2.out.block sb hsbw).trans HRC.out
   rw [HQ.out] at e
   rw [← hW4, heap_setCell_same _ sb 5 _ 104 _ (by rw [heap_setCell_same w2 sb 3 _ 104 _ e])]
   rfl
  have hoth : ∀ k, k ≠ sb → W4.heap[k]? = w2.heap[k]? := fun k hk => by rw [← hW4]; exact (heap_setCell_other _ ⟨sb, 5, none⟩ k _ hk).trans (heap_setCell_other w2 ⟨sb, 3, none⟩ k _ hk)
  have hsz : W4.heap.size = w2.heap.size := by rw [← hW4]; simp
  have hbel : Below B w W4 := by rw [← hW4]; exact ((HB2.out.mono HLow.out.2.2.2).setCell (p := ⟨sb, 3, none⟩) HLow.out.1 _).setCell (p := ⟨sb, 5, none⟩) HLow.out.1 _
  have hz2 := HB2.out.size
  generalize hob : (Obj.cells #[.int .u8 k', .int .i64 X1, .int .i64 X2, .slice ta tn tc, .slice pa pn pc] 35) = ob
  have hall : ∀ k, k < w.heap.size → k ≠ sb → (W4.alloc ob).heap[k]? = w.heap[k]? := fun k hkw hne => (heap_alloc_old W4 _ (by omega)).trans ((hoth k hne).trans (HB2.out.block k hkw))
  have hsame : ∀ (k : Nat) (cur : Array Value) (t : TypeId), t ≠ 104 → w2.heap[k]? = some (Obj.cells cur t (0, 0)) → (W4.alloc ob).heap[k]? = w2.heap[k]? := fun k cur t ht hk => by
   have hkl := (Array.getElem?_eq_some_iff.1 hk).1
   refine (heap_alloc_old W4 _ (by omega)).trans (hoth k ?_)
   rintro rfl
   rw [(HB2.out.block k hsbw).trans HRC.out] at hk
   simp only [Option.some.injEq, Obj.cells.injEq] at hk
   exact ht hk.2.1.symm
  have hbel5 : Below B w (W4.alloc ob) := hbel.alloc (by have := HLow.out.2.2.2; omega) _
  refine ⟨?_, ?_, hbel5, owns_blocks HOT.out fun k cu hk => hsame k cu 78 (by decide) hk, ?_, by omega, signs_low HSG.out hbel5 hB HLow.out.2.2.2, hall⟩
  ·have h1 := HSC.out.pop HRO.out.1 HRO.out.2 hall (by simp; omega) (by
    show (W4.alloc ob).heap[sb]? = _
    rw [heap_alloc_old W4 _ (by omega), hcs2, HQ.out]
    simp)
   rw [HQ.out] at h1 ⊢
   exact h1
  ·rw [← hob]; exact heap_alloc_new W4 _
  ·obtain ⟨vs, h1, h2, h3⟩ := HOP.out.1
   exact ⟨vs, owns_blocks (rows_base h1 HOP.out.2.2) fun k cu hk => hsame k cu 24 (by decide) hk, fun j v x hv hx => owns_blocks (ownT_base (h2 j v x hv hx) HOP.out.2.2) fun k cu hk => hsame k cu 78 (by decide) hk, h3⟩
 obtain ⟨hk1, hk4⟩ := HST.out.kr
 have hkc : k = 1 ∨ k = 2 ∨ k = 3 ∨ k = 4 := by omega
 clear y0 y1 y2 y3 y4 y5 hOT hOP hor hb2 fz H8 HB1
 rcases hkc with rfl | rfl | rfl | rfl
 ·go_wp2_with fail
  go_ret
  have HF : Hid (_ ∧ _) := HW5.out _ rfl 1
  obtain ⟨a1, a2, a3, _⟩ := HF.out
  have hP := HST.out.kp (by decide)
  subst hP
  exact ⟨rfl, a3, _, _, _, _, _, _, _, by dsimp only; omega, a1⟩
 ·go_wp2_with fail
  obtain ⟨W4, hW4⟩ : ∃ W, (w2.setCell ⟨sb, 3, none⟩ (.int .i64 ((d : Int) + 1))).setCell ⟨sb, 5, none⟩ (.slice (some ⟨g, 0, none⟩) q cap) = W := ⟨_, rfl⟩
  obtain ⟨a1, a2, a3, a4, a5, a6, a7, _⟩ := HW5.out W4 hW4 2
  have hsz24 : w2.heap.size = W4.heap.size := by rw [← hW4]; simp
  rw [hW4, hsz24]
  obtain ⟨r0, hr0⟩ : ∃ r0, W4.heap.size = r0 := ⟨_, rfl⟩
  rw [hr0] at a2 a6 ⊢
  clear hW4 HW5 hsz24
  generalize (W4.alloc (.cells #[.int .u8 2, .int .i64 X1, .int .i64 X2, .slice ta tn tc, .slice pa pn pc] 35)) = W5 at *
  clear hr0
  have hP := HST.out.kp (by decide)
  obtain ⟨i0, hi, hz, hsz0, hbyt⟩ := infoB
  have hr0l : r0 < W5.heap.size := (Array.getElem?_eq_some_iff.1 a2).1
  have v4 : W5.cell? ⟨sb, 4, none⟩ = some (.pointer (some ⟨hb, 0, none⟩)) := by rw [cell_of_row W5 sb 4 _ 104 (0, 0) a1.rc]; rfl
  have hS0 : S4 sb hb r0 X1 X2 (.slice ta tn tc) (.slice pa pn pc) W5.drew := ⟨v4, s3_of a2⟩
  have HA : Hid (Sc W5 B sb hb M m bd r (d + 1) bv (.slice (some ⟨g, 0, none⟩) q cap) n D V ts (us.take q) ∧ Below B w W5 ∧ OwnT W5 w.heap.size (.slice ta tn tc) T ∧ w.heap.size ≤ r0 ∧ Signs W5 ∧ W5.heap[r0]? = some (.cells #[.int .u8 2, .int .i64 X1, .int .i64 X2, .slice ta tn tc, .slice pa pn pc] 35 (0, 0))) := by
   have h := a1
   rw [HQ.out] at h
   exact ⟨h, a3, a4, a6, a7, a2⟩
  obtain ⟨E27, hE27⟩ : ∃ E, bindE m (X1, X2) T = E := ⟨_, rfl⟩
  have H27 : Calls Tryz.prog 27 #[.pointer (some ⟨hb, 0, none⟩), .agg #[.int .i64 X1, .int .i64 X2], .slice ta tn tc] W5.drew fun e w' => e = .returned (.int .i64 E27) ∧ Hid (BindPost m (X1, X2) T hb M n D W5.drew w') := by
   have hw : Below W5.heap.size W5 W5.drew := Below.drew (Below.refl _ _)
   have hT := HST.out.st
   have h := h11 m hb M n D (X1, X2) T _ W5.drew (HA.out.1.hp.below hw) HST.out.wv ((ownT_term HA.out.2.2.1 (by have := hT.1; unfold maxLen; omega) hT.2).below hw) HST.out.wt (HA.out.2.2.2.2.1.below hw) (by have := hT.1; omega) (by unfold maxLen; omega)
   rw [hE27] at h
   exact h.mono fun e w' ⟨k1, k2⟩ => ⟨k1, k2⟩
  clear a1 a2 a3 a4 a5 a6 a7 v4
  refine wp_region_noPanic ?_
  refine wp_region_held_drew (S := fun u => S4 sb hb r0 X1 X2 (.slice ta tn tc) (.slice pa pn pc) u) (by kernel_rfl) hS0 (fun hHeld => ?_)
  refine wpAnyH_take (i := 0) (v := ?_) (by simp only [qA, qB]; rfl) (by kernel_rfl) (by kernel_rfl) (by kernel_rfl) (fun _ _ _ h => h) (Or.inl ⟨by rfl, ?_⟩) (by assumption) ?_; rotate_left; (· (intro w hSw; (try dsimp only at hSw); go_simp <;> with_reducible rfl)); try simp only [Act.put, qD, qE, qF]
  refine wpAnyH_take (i := 1) (v := ?_) (by simp only [qA, qB, qC]; rfl) (by kernel_rfl) (by kernel_rfl) (by kernel_rfl) (fun _ _ _ h => h) (Or.inl ⟨by rfl, ?_⟩) (by assumption) ?_; rotate_left; (· (intro w hSw; (try dsimp only at hSw); go_simp <;> with_reducible rfl)); try simp only [Act.put, qD, qE, qF]
  refine wpAnyH_take (i := 2) (v := ?_) (by simp only [qA, qB, qC]; rfl) (by kernel_rfl) (by kernel_rfl) (by kernel_rfl) (fun _ _ _ h => h) (Or.inl ⟨by rfl, ?_⟩) (by assumption) ?_; rotate_left; (· (intro w hSw; (try dsimp only at hSw); go_simp <;> with_reducible rfl)); try simp only [Act.put, qD, qE, qF]
  refine wpAnyH_take (i := 3) (v := ?_) (by simp only [qA, qB, qC]; rfl) (by kernel_rfl) (by kernel_rfl) (by kernel_rfl) (fun _ _ _ h => h) (Or.inl ⟨by rfl, ?_⟩) (by assumption) ?_; rotate_left; (· (intro w hSw; (try dsimp only at hSw); go_simp <;> with_reducible rfl)); try simp only [Act.put, qD, qE, qF]
  refine wpAnyH_take (i := 4) (v := ?_) (by simp only [qA, qB, qC]; rfl) (by kernel_rfl) (by kernel_rfl) (by kernel_rfl) (fun _ _ _ h => h) (Or.inl ⟨by rfl, ?_⟩) (by assumption) ?_; rotate_left; (· (intro w hSw; (try dsimp only at hSw); go_simp <;> with_reducible rfl)); try simp only [Act.put, qD, qE, qF]
  refine wpAnyH_take (i := 5) (v := ?_) (by simp only [qA, qB, qC]; rfl) (by kernel_rfl) (by kernel_rfl) (by kernel_rfl) (fun _ _ _ h => h) (Or.inl ⟨by rfl, ?_⟩) (by assumption) ?_; rotate_left; (· (intro w hSw; (try dsimp only at hSw); go_simp <;> with_reducible rfl)); try simp only [Act.put, qD, qE, qF]
  refine wpAnyH_take (i := 6) (v := ?_) (by simp only [qA, qB, qC]; rfl) (by kernel_rfl) (by kernel_rfl) (by kernel_rfl) (fun _ _ _ h => h) (Or.inl ⟨by rfl, ?_⟩) (by assumption) ?_; rotate_left; (· (intro w hSw; (try dsimp only at hSw); go_simp <;> with_reducible rfl)); try simp only [Act.put, qD, qE, qF]
  refine wpAnyH_take (i := 7) (v := ?_) (by simp only [qA, qB, qC]; rfl) (by kernel_rfl) (by kernel_rfl) (by kernel_rfl) (fun _ _ _ h => h) (Or.inl ⟨by rfl, ?_⟩) (by assumption) ?_; rotate_left; (· (intro w hSw; (try dsimp only at hSw); go_simp <;> with_reducible rfl)); try simp only [Act.put, qD, qE, qF]
  refine wpAnyH_ready (rs := [8]) (by kernel_rfl) (by simp) ?_
  refine AllReadyH.cons (by simp only [qA, qB, qC]; rfl) (fun K hK => ?_) AllReadyH.nil
  go_simp
  go_at_call 27
  refine H27.mono ?_
  rintro e w6 ⟨rfl, HP6⟩
  have HB6 : Hid (∃ n' D' V', n' ≤ n + 1 ∧ Sc w6 B sb hb M (bindH m (X1, X2) T) bd r (d + 1) bv (.slice (some ⟨g, 0, none⟩) q cap) n' D' V' ts (us.take q) ∧ W5.drew.heap.size ≤ w6.heap.size ∧ Below B W5 w6 ∧ ∀ (k : Nat) (cur : Array Value) (t : TypeId) (fr : Nat × Nat), W5.heap[k]? = some (Obj.cells cur t fr) → w6.heap[k]? = some (Obj.cells cur t fr)) := bind_all HA.out.1 HP6.out fun y l' hl' => (hno y l' (by simpa using hl')).2.1
  refine hK.out _ _ ?_ (fun hHeld => ?_)
  ·obtain ⟨_, _, _, _, k1, _, _, k2⟩ := HB6.out
   exact ⟨by rw [cell_of_row w6 sb 4 _ 104 (0, 0) k1.rc]; rfl, s3_of (k2 r0 _ _ _ HA.out.2.2.2.2.2)⟩
  clear hK K
  try simp only [Act.put, qD, qE, qF]
  refine wpAnyH_done (by kernel_rfl) ?_ _
  refine NoPanic.normal ?_
  obtain ⟨n', D', V', hn', hsc6, hb6⟩ := HB6.out
  have HSC6 : Hid (Sc w6 B sb hb M (bindH m (X1, X2) T) bd r (d + 1) bv (.slice (some ⟨g, 0, none⟩) q cap) n' D' V' ts (us.take q)) := hsc6
  have hS6 : S3 r0 X1 X2 (.slice ta tn tc) (.slice pa pn pc) w6 := hHeld.2
  have HR6 : Hid (w6.heap[r0]? = some (.cells #[.int .u8 2, .int .i64 X1, .int .i64 X2, .slice ta tn tc, .slice pa pn pc] 35 (0, 0)) ∧ OwnT w6 B (.slice ta tn tc) T ∧ Below B w w6 ∧ W5.heap.size ≤ w6.heap.size) := by
   have h1 : W5.drew.heap.size ≤ w6.heap.size := hb6.1
   refine ⟨(hb6.2.2 r0 _ _ _ HA.out.2.2.2.2.2), owns_blocks (ownT_base HA.out.2.2.1 HLow.out.2.2.2) fun k cu hc => (hb6.2.2 k cu _ _ hc).trans hc.symm, HA.out.2.1.trans hb6.2.1, h1⟩
  have w1c : w6.cell? ⟨sb, 1, none⟩ = some bv := by rw [cell_of_row w6 sb 1 _ 104 (0, 0) hsc6.rc]; rfl
  obtain ⟨bva, bvc, hbvf⟩ := rowv_form' hsc6.bo
  clear hb6 hsc6 hHeld HB6 H27 hS0
  subst hbvf
  subst hP
  have HFIN : Hid (∀ (w8 : World) (v' : Value), w8.ownsRow B 73 3 v' (bd.length + 1) (encBd bd ts ++ [.int .i64 X1, .int .i64 X2, .slice ta tn tc]) → (w6.drew.alloc (.cells #[.int .i64 X1, .int .i64 X2, .slice ta tn tc] 73)).grownBy w8 (Value.slice bva bd.length bvc).ownBlock → (v'.ownBlock = (Value.slice bva bd.length bvc).ownBlock ∨ v'.ownBlock = some (w6.drew.alloc (.cells #[.int .i64 X1, .int .i64 X2, .slice ta tn tc] 73)).heap.size) →
    (w8.cell? ⟨sb, 1, none⟩ = some (.slice bva bd.length bvc) ∧ w8.frozen? ⟨sb, 1, none⟩ = false) ∧ S3 r0 X1 X2 (.slice ta tn tc) (.slice pa pn pc) w8 ∧ S3 r0 X1 X2 (.slice ta tn tc) (.slice pa pn pc) (w8.setCell ⟨sb, 1, none⟩ v') ∧ Below B w (w8.setCell ⟨sb, 1, none⟩ v') ∧ Sq (w8.setCell ⟨sb, 1, none⟩ v') B sb hb M n0 ⟨bindH m (X1, X2) T, [] ++ r, bd ++ [((X1, X2), T)], d + 1⟩) := by
   intro w8 v' ho hg hl
   have h6 := HSC6.out
   have hBw : B ≤ w6.heap.size := h6.low.2.2.2
   have keep8 : ∀ k, k < w6.heap.size → (Value.slice bva bd.length bvc).ownBlock ≠ some k → w8.heap[k]? = w6.heap[k]? := fun k hk hne => (hg.block k (by simp; omega) (fun e => hne e.symm)).trans (heap_alloc_old w6.drew _ hk)
   have hsz8 : w6.heap.size ≤ w8.heap.size := by have := hg.size; simp at this; omega
   have typed8 : ∀ (k : Nat) (cu : Array Value) (t : TypeId) (fr : Nat × Nat), t ≠ 73 → w6.heap[k]? = some (Obj.cells cu t fr) → w8.heap[k]? = some (Obj.cells cu t fr) := fun k cu t fr ht hc => (keep8 k (Array.getElem?_eq_some_iff.1 hc).1 fun e => by
    obtain ⟨cu', e2⟩ := own_typed h6.bo k e
    rw [e2] at hc
    simp only [Option.some.injEq, Obj.cells.injEq] at hc
    exact ht hc.2.1.symm).trans hc
   have e8 := typed8 sb _ _ _ (by decide) h6.rc
   have er := typed8 r0 _ _ _ (by decide) HR6.out.1
   have hrs : r0 ≠ sb := fun e => by
    rw [e, e8] at er
    simp at er
   have er9 : (w8.setCell ⟨sb, 1, none⟩ v').heap[r0]? = _ := (heap_setCell_other w8 ⟨sb, 1, none⟩ r0 v' hrs).trans er
   have hb8 : Below B w w8 := by
    have h1 : Below B w (w6.drew.alloc (.cells #[.int .i64 X1, .int .i64 X2, .slice ta tn tc] 73)) := (HR6.out.2.2.1.trans ((Below.refl B w6).drew)).alloc (show B ≤ w6.drew.heap.size from hBw) _
    exact h1.grown hg (by simp; omega) (fun z hz => (h6.bo.lt z hz).1)
   refine ⟨⟨by rw [cell_of_row w8 sb 1 _ 104 (0, 0) e8]; rfl, frozen_of_row w8 sb 1 _ 104 e8⟩, s3_of er, s3_of er9, hb8.setCell (p := ⟨sb, 1, none⟩) HLow.out.1 v', v', .slice (some ⟨g, 0, none⟩) q cap, n', D', V', ts ++ [.slice ta tn tc], us.take q, by dsimp only; omega, ?_⟩
   have hT0 : ∀ z, (Value.slice ta tn tc).ownBlock = some z → w.heap.size ≤ z := fun z hz => (HA.out.2.2.1.lt z hz).1
   have hto : ∀ u ∈ ts, ∀ z, u.ownBlock = some z → z < w.heap.size := fun u hu z hz => HSC.out.ts_lt hu hz
   have huo : ∀ u ∈ us.take q, ∀ z, u.ownBlock = some z → z < w.heap.size := fun u hu z hz => HSC.out.us_lt (List.mem_of_mem_take hu) hz
   refine h6.turn (d' := d + 1) ⟨by simpa using hsz8, fun k h1 h2 h3 _ => (heap_setCell_other w8 ⟨sb, 1, none⟩ k v' h2).trans (keep8 k h1 h3)⟩ ?_ ?_ ?_ (by simp [h6.tl]) (fun j u b hu hb => .inl ?_) (fun j u l hu hl => .inl (h6.uo j u l hu hl)) ?_ h6.apu ?_ ?_ (.inl rfl)
   ·show (w8.setCell ⟨sb, 1, none⟩ v').heap[sb]? = _
    rw [heap_setCell_same w8 sb 1 _ 104 v' e8]
    rfl
   ·rw [encBd_snoc bd ts _ _ h6.tl, List.length_append]
    exact owns_blocks ho fun k cu hc => heap_setCell_other w8 ⟨sb, 1, none⟩ k v' fun e => by
     rw [e, e8] at hc
     simp at hc
   ·refine owns_blocks h6.ro fun k cu hc => (heap_setCell_other w8 ⟨sb, 1, none⟩ k v' fun e => ?_).trans ((typed8 k cu _ _ (by decide) hc).trans hc.symm)
    have h1 := h6.rc
    unfold SvAt at h1
    rw [e, h1] at hc
    simp at hc
   ·by_cases hj : j < ts.length
    ·rw [List.getElem?_append_left hj] at hu
     rw [List.getElem?_append_left (by rw [← h6.tl]; exact hj)] at hb
     exact h6.to j u b hu hb
    ·have hj2 : j = ts.length := by
      have := (List.getElem?_eq_some_iff.1 hu).1
      simp at this; omega
     have hj3 : j = bd.length := by rw [hj2, h6.tl]
     rw [List.getElem?_append_right (by omega), hj2] at hu
     rw [List.getElem?_append_right (by omega), hj3] at hb
     simp at hu hb
     subst hu hb
     exact HR6.out.2.1
   ·exact ap_snoc (n := w.heap.size) h6.apt (fun j v z hv hz => hto v (List.mem_of_getElem? hv) z hz) hT0
   ·intro t1 ht1 u hu z hz e
    rcases List.mem_append.1 ht1 with h | h
    ·exact h6.apx t1 h u hu z hz e
    ·rw [List.mem_singleton.1 h] at hz
     have := hT0 z hz
     have := huo u hu z e
     omega
   ·rcases hl with h | h
    ·exact .inl h
    ·exact .inr ⟨_, h, by simp⟩
  have hS11 : S3 r0 X1 X2 (.slice ta tn tc) (.slice pa pn pc) w6.drew := hS6
  have hwd : w6.drew.cell? ⟨sb, 1, none⟩ = some (.slice bva bd.length bvc) := w1c
  have HSd : Hid (∀ ob : Obj, S3 r0 X1 X2 (.slice ta tn tc) (.slice pa pn pc) (w6.drew.alloc ob) ∧ (w6.drew.alloc ob).cell? ⟨sb, 1, none⟩ = some (.slice bva bd.length bvc)) := fun ob => by
   have hr6l : r0 < w6.drew.heap.size := (Array.getElem?_eq_some_iff.1 HR6.out.1).1
   have hs6l : sb < w6.drew.heap.size := (Array.getElem?_eq_some_iff.1 HSC6.out.rc).1
   exact ⟨⟨cell_alloc hr6l hS6.1, cell_alloc hr6l hS6.2.1, cell_alloc hr6l hS6.2.2.1, cell_alloc hr6l hS6.2.2.2⟩, cell_alloc hs6l w1c⟩
  have HRa : Hid ((w6.drew.alloc (.cells #[.int .i64 X1, .int .i64 X2, .slice ta tn tc] 73)).ownsRow B 73 3 (.slice bva bd.length bvc) bd.length (encBd bd ts) ∧ B ≤ (w6.drew.alloc (.cells #[.int .i64 X1, .int .i64 X2, .slice ta tn tc] 73)).heap.size) := ⟨World.ownsRow.alloc (owns_low HSC6.out.bo (Below.drew (Below.refl _ _))) _, by have := HSC6.out.low.2.2.2; simp; omega⟩
  have hbdl : bd.length ≤ 100000 := by omega
  clear hS6
  go_wp2_with fail
  refine wp_region_noPanic ?_
  refine wp_region_held_drew (S := fun u => S3 r0 X1 X2 (.slice ta tn tc) (.slice pa pn pc) u) (by kernel_rfl) hS11 (fun hHeld => ?_)
  clear w1c
  generalize w6.drew = WD at *
  refine wpAnyH_take (i := 0) (v := ?_) (by simp only [qA, qB]; rfl) (by kernel_rfl) (by kernel_rfl) (by kernel_rfl) (fun _ _ _ h => h) (Or.inl ⟨by rfl, ?_⟩) (by assumption) ?_; rotate_left; (· (intro w hSw; (try dsimp only at hSw); go_simp <;> with_reducible rfl)); try simp only [Act.put, qD, qE, qF]
  refine wpAnyH_take (i := 1) (v := ?_) (by simp only [qA, qB, qC]; rfl) (by kernel_rfl) (by kernel_rfl) (by kernel_rfl) (fun _ _ _ h => h) (Or.inl ⟨by rfl, ?_⟩) (by assumption) ?_; rotate_left; (· (intro w hSw; (try dsimp only at hSw); go_simp <;> with_reducible rfl)); try simp only [Act.put, qD, qE, qF]
  refine wpAnyH_take (i := 2) (v := ?_) (by simp only [qA, qB, qC]; rfl) (by kernel_rfl) (by kernel_rfl) (by kernel_rfl) (fun _ _ _ h => h) (Or.inl ⟨by rfl, ?_⟩) (by assumption) ?_; rotate_left; (· (intro w hSw; (try dsimp only at hSw); go_simp <;> with_reducible rfl)); try simp only [Act.put, qD, qE, qF]
  refine wpAnyH_take (i := 3) (v := ?_) (by simp only [qA, qB, qC]; rfl) (by kernel_rfl) (by kernel_rfl) (by kernel_rfl) (fun _ _ _ h => h) (Or.inl ⟨by rfl, ?_⟩) (by assumption) ?_; rotate_left; (· (intro w hSw; (try dsimp only at hSw); go_simp <;> with_reducible rfl)); try simp only [Act.put, qD, qE, qF]
  refine wpAnyH_take (i := 4) (v := ?_) (by simp only [qA, qB, qC]; rfl) (by kernel_rfl) (by kernel_rfl) (by kernel_rfl) (fun _ _ _ h => h) (Or.inl ⟨by rfl, ?_⟩) (by assumption) ?_; rotate_left; (· (intro w hSw; (try dsimp only at hSw); go_simp <;> with_reducible rfl)); try simp only [Act.put, qD, qE, qF]
  refine wpAnyH_take (i := 6) (v := ?_) (by simp only [qA, qB, qC]; rfl) (by kernel_rfl) (by kernel_rfl) (by kernel_rfl) (fun _ _ _ h => h) (Or.inl ⟨by rfl, ?_⟩) (by assumption) ?_; rotate_left; (· (intro w hSw; (try dsimp only at hSw); go_simp <;> with_reducible rfl)); try simp only [Act.put, qD, qE, qF]
  refine wpAnyH_take (i := 7) (v := ?_) (by simp only [qA, qB, qC]; rfl) (by kernel_rfl) (by kernel_rfl) (by kernel_rfl) (fun _ _ _ h => h) (Or.inl ⟨by rfl, ?_⟩) (by assumption) ?_; rotate_left; (· (intro w hSw; (try dsimp only at hSw); go_simp <;> with_reducible rfl)); try simp only [Act.put, qD, qE, qF]
  refine wpAnyH_take (i := 8) (v := ?_) (by simp only [qA, qB, qC]; rfl) (by kernel_rfl) (by kernel_rfl) (by kernel_rfl) (fun _ _ _ h => h) (Or.inl ⟨by rfl, ?_⟩) (by assumption) ?_; rotate_left; (· (intro w hSw; (try dsimp only at hSw); go_simp <;> with_reducible rfl)); try simp only [Act.put, qD, qE, qF]
  refine wpAnyH_take (i := 9) (v := ?_) (by simp only [qA, qB, qC]; rfl) (by kernel_rfl) (by kernel_rfl) (by kernel_rfl) (fun _ _ _ h => h) (Or.inl ⟨by rfl, ?_⟩) (by assumption) ?_; rotate_left; (· (intro w hSw; (try dsimp only at hSw); go_simp <;> with_reducible rfl)); try simp only [Act.put, qD, qE, qF]
  refine wpAnyH_take (i := 10) (v := ?_) (by simp only [qA, qB, qC]; rfl) (by kernel_rfl) (by kernel_rfl) (by kernel_rfl) (fun _ _ _ h => h) (Or.inl ⟨by rfl, ?_⟩) (by assumption) ?_; rotate_left; (· (intro w hSw; (try dsimp only at hSw); go_simp <;> with_reducible rfl)); try simp only [Act.put, qD, qE, qF]
  refine wpAnyH_ready (rs := [5, 11]) (by kernel_rfl) (by simp) ?_
  refine AllReadyH.cons (by simp only [qA, qB, qC]; rfl) (fun K hK => ?_) (AllReadyH.cons (by simp only [qA, qB, qC]; rfl) (fun K hK => ?_) AllReadyH.nil)
  ·go_simp
   refine hK.out _ _ hHeld (fun hHeld => ?_)
   clear hK K
   try simp only [Act.put, qD, qE, qF]
   refine wpAnyH_ready (rs := [11]) (by kernel_rfl) (by simp) ?_
   refine AllReadyH.cons (by simp only [qA, qB, qC]; rfl) (fun K hK => ?_) AllReadyH.nil
   go_simp
   refine hK.out _ _ (HSd.out _).1 (fun hHeld => ?_)
   clear hK K
   try simp only [Act.put, qD, qE, qF]
   refine wpAnyH_ready (rs := [12]) (by kernel_rfl) (by simp) ?_
   refine AllReadyH.cons (by simp only [qA, qB, qC]; rfl) (fun K hK => ?_) AllReadyH.nil
   refine stepH_append (by rfl) _ _ 22 (by rfl) B 73 i0 _ 3 40 Tryz.underlying22 hi hz hsz0 hbyt rfl (by decide) (.slice bva bd.length bvc) bd.length (encBd bd ts) (by rfl) HRa.out.1 ⟨WD.heap.size, 0, none⟩ 1 1 [.int .i64 X1, .int .i64 X2, .slice ta tn tc] (by rfl) (by rfl) (fun j u hu => by rw [Addr.add_mid]; exact range_new WD [.int .i64 X1, .int .i64 X2, .slice ta tn tc] 73 j u hu) (fun u hu => by simp at hu; rcases hu with rfl | rfl | rfl <;> rfl) (by unfold maxLen; omega) (by omega) HRa.out.2 ?_
   intro v' w8 hown8 hgr8 hat8
   obtain ⟨g8, c8, hv8⟩ := rowv_form' hown8
   subst hv8
   obtain ⟨⟨c81, f81⟩, hs8, hs9, hb9, hq9⟩ := HFIN.out w8 _ hown8 hgr8 hat8
   have HEND : Hid (_ ∧ _) := ⟨hb9, hq9⟩
   refine hK.out _ _ hs8 (fun hHeld => ?_)
   clear hown8 hgr8 hat8 hb9 hq9
   clear hK K
   try simp only [Act.put, qD, qE, qF]
   refine wpAnyH_take (i := 13) (v := ?_) (by simp only [qA, qB, qC]; rfl) (by kernel_rfl) (by kernel_rfl) (by kernel_rfl) (fun _ _ _ h => h) (Or.inl ⟨by rfl, ?_⟩) (by assumption) ?_; rotate_left; (· (intro w hSw; (try dsimp only at hSw); go_simp <;> with_reducible rfl)); try simp only [Act.put, qD, qE, qF]
   refine wpAnyH_take (i := 14) (v := ?_) (by simp only [qA, qB, qC]; rfl) (by kernel_rfl) (by kernel_rfl) (by kernel_rfl) (fun _ _ _ h => h) (Or.inl ⟨by rfl, ?_⟩) (by assumption) ?_; rotate_left; (· (intro w hSw; (try dsimp only at hSw); go_simp <;> with_reducible rfl)); try simp only [Act.put, qD, qE, qF]
   refine wpAnyH_take (i := 15) (v := ?_) (by simp only [qA, qB, qC]; rfl) (by kernel_rfl) (by kernel_rfl) (by kernel_rfl) (fun _ _ _ h => h) (Or.inl ⟨by rfl, ?_⟩) (by assumption) ?_; rotate_left; (· (intro w hSw; (try dsimp only at hSw); go_simp <;> with_reducible rfl)); try simp only [Act.put, qD, qE, qF]
   refine wpAnyH_ready (rs := [16]) (by kernel_rfl) (by simp) ?_
   refine AllReadyH.cons (by simp only [qA, qB, qC]; rfl) (fun K hK => ?_) AllReadyH.nil
   go_simp
   refine hK.out _ _ hs9 (fun hHeld => ?_)
   clear hK K
   try simp only [Act.put, qD, qE, qF]
   refine wpAnyH_done (by kernel_rfl) ?_ _
   refine NoPanic.normal ?_
   clear hHeld c81 f81 hs8 hs9 hwd hS11
   go_wp2_with fail
   go_ret
   exact ⟨rfl, HEND.out⟩
  ·go_simp
   refine hK.out _ _ (HSd.out _).1 (fun hHeld => ?_)
   clear hK K
   try simp only [Act.put, qD, qE, qF]
   refine wpAnyH_ready (rs := [5]) (by kernel_rfl) (by simp) ?_
   refine AllReadyH.cons (by simp only [qA, qB, qC]; rfl) (fun K hK => ?_) AllReadyH.nil
   have c5 := (HSd.out (.cells #[.int .i64 X1, .int .i64 X2, .slice ta tn tc] 73)).2
   go_simp
   refine hK.out _ _ hHeld (fun hHeld => ?_)
   clear c5
   clear hK K
   try simp only [Act.put, qD, qE, qF]
   refine wpAnyH_ready (rs := [12]) (by kernel_rfl) (by simp) ?_
   refine AllReadyH.cons (by simp only [qA, qB, qC]; rfl) (fun K hK => ?_) AllReadyH.nil
   refine stepH_append (by rfl) _ _ 22 (by rfl) B 73 i0 _ 3 40 Tryz.underlying22 hi hz hsz0 hbyt rfl (by decide) (.slice bva bd.length bvc) bd.length (encBd bd ts) (by rfl) HRa.out.1 ⟨WD.heap.size, 0, none⟩ 1 1 [.int .i64 X1, .int .i64 X2, .slice ta tn tc] (by rfl) (by rfl) (fun j u hu => by rw [Addr.add_mid]; exact range_new WD [.int .i64 X1, .int .i64 X2, .slice ta tn tc] 73 j u hu) (fun u hu => by simp at hu; rcases hu with rfl | rfl | rfl <;> rfl) (by unfold maxLen; omega) (by omega) HRa.out.2 ?_
   intro v' w8 hown8 hgr8 hat8
   obtain ⟨g8, c8, hv8⟩ := rowv_form' hown8
   subst hv8
   obtain ⟨⟨c81, f81⟩, hs8, hs9, hb9, hq9⟩ := HFIN.out w8 _ hown8 hgr8 hat8
   have HEND : Hid (_ ∧ _) := ⟨hb9, hq9⟩
   refine hK.out _ _ hs8 (fun hHeld => ?_)
   clear hown8 hgr8 hat8 hb9 hq9
   clear hK K
   try simp only [Act.put, qD, qE, qF]
   refine wpAnyH_take (i := 13) (v := ?_) (by simp only [qA, qB, qC]; rfl) (by kernel_rfl) (by kernel_rfl) (by kernel_rfl) (fun _ _ _ h => h) (Or.inl ⟨by rfl, ?_⟩) (by assumption) ?_; rotate_left; (· (intro w hSw; (try dsimp only at hSw); go_simp <;> with_reducible rfl)); try simp only [Act.put, qD, qE, qF]
   refine wpAnyH_take (i := 14) (v := ?_) (by simp only [qA, qB, qC]; rfl) (by kernel_rfl) (by kernel_rfl) (by kernel_rfl) (fun _ _ _ h => h) (Or.inl ⟨by rfl, ?_⟩) (by assumption) ?_; rotate_left; (· (intro w hSw; (try dsimp only at hSw); go_simp <;> with_reducible rfl)); try simp only [Act.put, qD, qE, qF]
   refine wpAnyH_take (i := 15) (v := ?_) (by simp only [qA, qB, qC]; rfl) (by kernel_rfl) (by kernel_rfl) (by kernel_rfl) (fun _ _ _ h => h) (Or.inl ⟨by rfl, ?_⟩) (by assumption) ?_; rotate_left; (· (intro w hSw; (try dsimp only at hSw); go_simp <;> with_reducible rfl)); try simp only [Act.put, qD, qE, qF]
   refine wpAnyH_ready (rs := [16]) (by kernel_rfl) (by simp) ?_
   refine AllReadyH.cons (by simp only [qA, qB, qC]; rfl) (fun K hK => ?_) AllReadyH.nil
   go_simp
   refine hK.out _ _ hs9 (fun hHeld => ?_)
   clear hK K
   try simp only [Act.put, qD, qE, qF]
   refine wpAnyH_done (by kernel_rfl) ?_ _
   refine NoPanic.normal ?_
   clear hHeld c81 f81 hs8 hs9 hwd hS11
   go_wp2_with fail
   go_ret
   exact ⟨rfl, HEND.out⟩
 ·go_wp2_with fail
  obtain ⟨W4, hW4⟩ : ∃ W, (w2.setCell ⟨sb, 3, none⟩ (.int .i64 ((d : Int) + 1))).setCell ⟨sb, 5, none⟩ (.slice (some ⟨g, 0, none⟩) q cap) = W := ⟨_, rfl⟩
  obtain ⟨a1, a2, a3, a4, a5, a6, a7, a8⟩ := HW5.out W4 hW4 3
  have hsz24 : w2.heap.size = W4.heap.size := by rw [← hW4]; simp
  rw [hW4]
  try rw [hsz24]
  obtain ⟨r0, hr0⟩ : ∃ r0, W4.heap.size = r0 := ⟨_, rfl⟩
  rw [hr0] at a2 a6
  try rw [hr0]
  clear hW4 HW5 hsz24
  generalize (W4.alloc (.cells #[.int .u8 3, .int .i64 X1, .int .i64 X2, .slice ta tn tc, .slice pa pn pc] 35)) = W5 at *
  clear hr0
  obtain ⟨i0, hi, hz, hsz0, hbyt⟩ := info29
  rw [HQ.out] at a1
  have HA : Hid (Sc W5 B sb hb M m bd r (d + 1) bv (.slice (some ⟨g, 0, none⟩) q cap) n D V ts (us.take q) ∧ Below B w W5 ∧ w.heap.size ≤ r0 ∧ W5.heap[r0]? = some (.cells #[.int .u8 3, .int .i64 X1, .int .i64 X2, .slice ta tn tc, .slice pa pn pc] 35 (0, 0)) ∧ ∀ k, k < w.heap.size → k ≠ sb → W5.heap[k]? = w.heap[k]?) := ⟨a1, a3, a6, a2, a8⟩
  obtain ⟨vs, hv1, hv2, hv3⟩ := a5
  have hvl : vs.length = P.length := by have := hv1.1; omega
  obtain ⟨pa', pc', hpf⟩ := rowv_form' hv1
  simp only [Value.slice.injEq] at hpf
  obtain ⟨-, hpn, -⟩ := hpf
  have HVS : Hid (vs.length = pn ∧ W5.ownsRow w.heap.size 24 1 (.slice pa pn pc) vs.length vs ∧ (∀ (j : Nat) (v : Value) (x : List C), vs[j]? = some v → P[j]? = some x → OwnT W5 w.heap.size v x) ∧ Ap vs ∧ P.length = pn ∧ W5.heap.size ≤ W5.heap.size) := ⟨by omega, by rw [hvl]; exact hv1, hv2, hv3, by omega, Nat.le_refl _⟩
  have hpn8 : pn ≤ 8 := by have := HST.out.sp.1; omega
  have HVF : Hid (∀ v ∈ vs, (∃ a n c, v = .slice a n c) ∧ ∀ z, v.ownBlock = some z → w.heap.size ≤ z) := by
   intro v hv
   obtain ⟨j, hj, rfl⟩ := List.getElem_of_mem hv
   have h1 := HVS.out.2.2.1 j _ P[j] (List.getElem?_eq_getElem hj) (List.getElem?_eq_getElem (by omega))
   obtain ⟨a, c, e⟩ := rowv_form' h1
   exact ⟨⟨a, _, c, e⟩, fun z hz => (h1.lt z hz).1⟩
  have H90 := rv90 w.heap.size (.slice pa pn pc) vs W5 HVS.out.2.1 fun v hv => (HVF.out v hv).1
  clear a1 a2 a3 a4 a6 a7 a8 hv1 hv2 hv3 hvl hpn
  refine H90.mono ?_
  rintro e w6 ⟨rfl, H6⟩
  clear H90
  have HT6 : Hid ((∀ (k : Nat) (cu : Array Value) (t : TypeId) (fr : Nat × Nat), t ≠ 24 → W5.heap[k]? = some (Obj.cells cu t fr) → w6.heap[k]? = some (Obj.cells cu t fr)) ∧ (∀ k, k < w.heap.size → w6.heap[k]? = W5.heap[k]?) ∧ W5.heap.size ≤ w6.heap.size ∧ w.heap.size ≤ W5.heap.size) := by
   have hgr := H6.out.2
   have hw5 := HA.out.2.1.size
   refine ⟨fun k cu t fr ht hc => (hgr.block k (Array.getElem?_eq_some_iff.1 hc).1 fun e => ?_).trans hc, fun k hk => hgr.block k (by omega) fun e => ?_, hgr.size, hw5⟩
   ·obtain ⟨cu', e2⟩ := own_typed HVS.out.2.1 k e.symm
    rw [e2] at hc
    simp only [Option.some.injEq, Obj.cells.injEq] at hc
    exact ht hc.2.1.symm
   ·have := (HVS.out.2.1.lt k e.symm).1
    omega
  have e6 := HT6.out.1 sb _ _ _ (by decide) HA.out.1.rc
  have er6 := HT6.out.1 r0 _ _ _ (by decide) HA.out.2.2.2.1
  have HB6 : Hid (Below B w w6) := HA.out.2.1.grown H6.out.2 (by have := HLow.out.2.2.2; have := HT6.out.2.2.2; omega) (fun z hz => by have := (HVS.out.2.1.lt z hz).1; have := HLow.out.2.2.2; omega)
  have w5c : w6.cell? ⟨sb, 5, none⟩ = some (.slice (some ⟨g, 0, none⟩) q cap) := by rw [cell_of_row w6 sb 5 _ 104 (0, 0) e6]; rfl
  have p4c : w6.cell? ⟨r0, 4, none⟩ = some (.slice pa pn pc) := (s3_of er6).2.2.2
  have HE6 : Hid (w6.heap[sb]? = some (.cells #[.int .u8 0, bv, .slice none 0 0, .int .i64 ((d + 1 : Nat) : Int), .pointer (some ⟨hb, 0, none⟩), .slice (some ⟨g, 0, none⟩) q cap] 104 (0, 0)) ∧ w6.heap[r0]? = some (.cells #[.int .u8 3, .int .i64 X1, .int .i64 X2, .slice ta tn tc, .slice pa pn pc] 35 (0, 0))) := ⟨e6, er6⟩
  have HO6 : Hid (w6.ownsRow B 24 1 (.slice (some ⟨g, 0, none⟩) q cap) q (us.take q)) := by
   have h1 := HA.out.1.ro
   rw [HQ.out] at h1
   refine owns_eq2 h1 fun z hz => HT6.out.2.1 z ?_
   simp [Value.ownBlock] at hz
   omega
  have HFIN : Hid (∀ (w8 : World) (v' : Value), w8.ownsRow B 24 1 v' (q + pn) (us.take q ++ vs.reverse) → w6.drew.grownBy w8 (Value.slice (some ⟨g, 0, none⟩) q cap).ownBlock → (v'.ownBlock = (Value.slice (some ⟨g, 0, none⟩) q cap).ownBlock ∨ v'.ownBlock = some w6.drew.heap.size) →
    (w8.cell? ⟨sb, 5, none⟩ = some (.slice (some ⟨g, 0, none⟩) q cap) ∧ w8.frozen? ⟨sb, 5, none⟩ = false) ∧ w8.cell? ⟨r0, 4, none⟩ = some (.slice pa pn pc) ∧ (w8.setCell ⟨sb, 5, none⟩ v').cell? ⟨r0, 4, none⟩ = some (.slice pa pn pc) ∧ Below B w (w8.setCell ⟨sb, 5, none⟩ v') ∧ Sq (w8.setCell ⟨sb, 5, none⟩ v') B sb hb M n0 ⟨m, P ++ r, bd, d + 1⟩) := by
   intro w8 v' ho hg hl
   have h0 := HSC.out
   have hBw : B ≤ w.heap.size := HLow.out.2.2.2
   have hz6 := HT6.out.2.2
   have keep8 : ∀ k, k < w6.heap.size → k ≠ g → w8.heap[k]? = w6.heap[k]? := fun k hk hne => hg.block k hk (fun e => hne (by simp [Value.ownBlock] at e; exact e))
   have hsz8 : w6.heap.size ≤ w8.heap.size := hg.size
   have typed8 : ∀ (k : Nat) (cu : Array Value) (t : TypeId) (fr : Nat × Nat), t ≠ 24 → w6.heap[k]? = some (Obj.cells cu t fr) → w8.heap[k]? = some (Obj.cells cu t fr) := fun k cu t fr ht hc => (keep8 k (Array.getElem?_eq_some_iff.1 hc).1 fun e => by
    obtain ⟨cu', e2⟩ := own_typed HO6.out g rfl
    rw [e, e2] at hc
    simp only [Option.some.injEq, Obj.cells.injEq] at hc
    exact ht hc.2.1.symm).trans hc
   have e8 := typed8 sb _ _ _ (by decide) HE6.out.1
   have er := typed8 r0 _ _ _ (by decide) HE6.out.2
   have hrs : r0 ≠ sb := fun e => by
    rw [e, e8] at er
    simp at er
   have er9 : (w8.setCell ⟨sb, 5, none⟩ v').heap[r0]? = _ := (heap_setCell_other w8 ⟨sb, 5, none⟩ r0 v' hrs).trans er
   have hb8 : Below B w w8 := ((HB6.out.trans ((Below.refl B w6).drew))).grown hg (show B ≤ w6.drew.heap.size by have h : w6.drew.heap.size = w6.heap.size := rfl; omega) (fun z hz => (HO6.out.lt z hz).1)
   have k9 : ∀ k, k < w.heap.size → k ≠ sb → k ≠ g → (w8.setCell ⟨sb, 5, none⟩ v').heap[k]? = w.heap[k]? := fun k h1 h2 h3 => (heap_setCell_other w8 ⟨sb, 5, none⟩ k v' h2).trans ((keep8 k (by omega) h3).trans ((HT6.out.2.1 k h1).trans (HA.out.2.2.2.2 k h1 h2)))
   have hsg : ∀ (k : Nat) (cu : Array Value) (t : TypeId) (fr : Nat × Nat), t ≠ 104 → t ≠ 24 → w.heap[k]? = some (Obj.cells cu t fr) → (w8.setCell ⟨sb, 5, none⟩ v').heap[k]? = w.heap[k]? := fun k cu t fr h1 h2 hc => by
    refine k9 k (Array.getElem?_eq_some_iff.1 hc).1 (fun e => ?_) fun e => ?_
    ·have h3 := h0.rc
     unfold SvAt at h3
     rw [e, h3] at hc
     simp only [Option.some.injEq, Obj.cells.injEq] at hc
     exact h1 hc.2.1.symm
    ·obtain ⟨cu', e2⟩ := own_typed HRO.out.2 g rfl
     rw [e, e2] at hc
     simp only [Option.some.injEq, Obj.cells.injEq] at hc
     exact h2 hc.2.1.symm
   refine ⟨⟨by rw [cell_of_row w8 sb 5 _ 104 (0, 0) e8]; rfl, frozen_of_row w8 sb 5 _ 104 e8⟩, (s3_of er).2.2.2, (s3_of er9).2.2.2, hb8.setCell (p := ⟨sb, 5, none⟩) HLow.out.1 v', bv, v', n, D, V, ts, us.take q ++ vs.reverse, by dsimp only; omega, ?_⟩
   have hto : ∀ u ∈ ts, ∀ z, u.ownBlock = some z → z < w.heap.size := fun u hu z hz => h0.ts_lt hu hz
   have huo : ∀ u ∈ us.take q, ∀ z, u.ownBlock = some z → z < w.heap.size := fun u hu z hz => h0.us_lt (List.mem_of_mem_take hu) hz
   have hvr : ∀ v ∈ vs.reverse, ∀ z, v.ownBlock = some z → w.heap.size ≤ z := fun v hv z hz => (HVF.out v (List.mem_reverse.1 hv)).2 z hz
   have htk : (us.take q).length = q := HO6.out.1.trans (by omega)
   have hrg : rv.ownBlock = some g := by rw [HRO.out.1]; rfl
   have hlen8 : (P ++ r).length = q + pn := by rw [List.length_append, HQ.out, HVS.out.2.2.2.2.1]; omega
   refine h0.turn (d' := d + 1) ⟨by simp; omega, fun k h1 h2 _ h4 => k9 k h1 h2 fun e => h4 (by rw [hrg, e])⟩ ?_ (owns_blocks h0.bo fun k cu hc => hsg k cu _ _ (by decide) (by decide) hc) ?_ h0.tl (fun j u b hu hb => .inl (h0.to j u b hu hb)) (fun j u l hu hl => ?_) h0.apt ?_ ?_ (.inl rfl) ?_
   ·show (w8.setCell ⟨sb, 5, none⟩ v').heap[sb]? = _
    rw [heap_setCell_same w8 sb 5 _ 104 v' e8]
    rfl
   ·rw [hlen8]
    exact owns_blocks ho fun k cu hc => heap_setCell_other w8 ⟨sb, 5, none⟩ k v' fun e => by
     rw [e, e8] at hc
     simp at hc
   ·rw [List.reverse_append] at hl
    have hrq : r.reverse.length = q := by rw [List.length_reverse, HQ.out]
    by_cases hj : j < q
    ·rw [List.getElem?_append_left (by omega), List.getElem?_take_of_lt hj] at hu
     rw [List.getElem?_append_left (by omega)] at hl
     exact .inl (h0.uo j u l hu (by rw [List.reverse_cons, List.getElem?_append_left (by omega)]; exact hl))
    ·rw [List.getElem?_append_right (by omega), htk] at hu
     rw [List.getElem?_append_right (by omega), hrq] at hl
     have hjl : j - q < vs.length := by
      have := (List.getElem?_eq_some_iff.1 hu).1
      rw [List.length_reverse] at this
      exact this
     have hPl := HVS.out.2.2.2.2.1
     have hVl := HVS.out.1
     rw [List.getElem?_reverse hjl] at hu
     rw [List.getElem?_reverse (by omega)] at hl
     have h7 := HVS.out.2.2.1 (vs.length - 1 - (j - q)) u l hu (by rw [show vs.length - 1 - (j - q) = P.length - 1 - (j - q) by omega]; exact hl)
     refine .inr (owns_blocks (ownT_base h7 hBw) fun k cu hc => ?_)
     have h8 := typed8 k _ _ _ (by decide) (HT6.out.1 k _ _ _ (by decide) hc)
     refine ((heap_setCell_other w8 ⟨sb, 5, none⟩ k v' fun e => ?_).trans h8).trans hc.symm
     rw [e, e8] at h8
     simp at h8
   ·refine ap_append (ap_take h0.apu q) (ap_rev HVS.out.2.2.2.1) fun u hu v hv z hz e => ?_
    have h1 := huo u hu z hz
    have h2 := hvr v hv z e
    omega
   ·intro t1 ht1 u hu z hz e
    rcases List.mem_append.1 hu with h | h
    ·exact h0.apx t1 ht1 u (List.mem_of_mem_take h) z hz e
    ·have h1 := hto t1 ht1 z hz
     have h2 := hvr u h z e
     omega
   ·rcases hl with h | h
    ·exact .inl (by rw [h, hrg]; rfl)
    ·exact .inr ⟨_, h, show w.heap.size ≤ w6.heap.size by omega⟩
  have hp14 : (fun u : World => u.cell? ⟨r0, 4, none⟩ = some (.slice pa pn pc)) w6.drew := p4c
  have c5d : w6.drew.cell? ⟨sb, 5, none⟩ = some (.slice (some ⟨g, 0, none⟩) q cap) := w5c
  have HNW : Hid (w6.drew.ownsRow B 24 1 (.slice (some ⟨g, 0, none⟩) q cap) q (us.take q) ∧ (pn = 0 ∨ ∃ ad, pa = some ad ∧ ∀ j u, vs.reverse[j]? = some u → w6.drew.cell? (ad.add j) = some u) ∧ vs.reverse.length = pn * 1 ∧ (∀ u ∈ vs.reverse, u.oneCell' = true) ∧ B ≤ w6.drew.heap.size) := by
   refine ⟨owns_low HO6.out (Below.drew (Below.refl _ _)), ?_, by rw [List.length_reverse, HVS.out.1]; omega, fun u hu => ?_, ?_⟩
   ·have h1 := H6.out.1
    rw [HVS.out.1] at h1
    rcases h1.2 with ⟨e, h2⟩ | ⟨g', cp, cu, e, g1, g2, g3, g4, g5, g6⟩
    ·exact .inl h2
    ·simp only [Value.slice.injEq] at e
     refine .inr ⟨_, e.1, fun j u hu => ?_⟩
     rw [Addr.add_mid]
     exact range_of_owns' g2 g6 j u hu
   ·obtain ⟨⟨a, n', c, e⟩, _⟩ := HVF.out u (List.mem_reverse.1 hu)
    rw [e]
    rfl
   ·have h1 : w6.drew.heap.size = w6.heap.size := rfl
    have h2 := HT6.out.2.2
    have h3 := HLow.out.2.2.2
    omega
  clear e6 er6
  go_wp2_with fail
  refine wp_region_noPanic ?_
  refine wp_region_held_drew (S := fun u => u.cell? ⟨r0, 4, none⟩ = some (.slice pa pn pc)) (by kernel_rfl) hp14 (fun hHeld => ?_)
  clear w5c p4c
  generalize w6.drew = WD at *
  refine wpAnyH_take (i := 0) (v := ?_) (by simp only [qA, qB]; rfl) (by kernel_rfl) (by kernel_rfl) (by kernel_rfl) (fun _ _ _ h => h) (Or.inl ⟨by rfl, ?_⟩) (by assumption) ?_; rotate_left; (· (intro w hSw; (try dsimp only at hSw); go_simp <;> with_reducible rfl)); try simp only [Act.put, qD, qE, qF]
  refine wpAnyH_take (i := 1) (v := ?_) (by simp only [qA, qB, qC]; rfl) (by kernel_rfl) (by kernel_rfl) (by kernel_rfl) (fun _ _ _ h => h) (Or.inl ⟨by rfl, ?_⟩) (by assumption) ?_; rotate_left; (· (intro w hSw; (try dsimp only at hSw); go_simp <;> with_reducible rfl)); try simp only [Act.put, qD, qE, qF]
  refine wpAnyH_take (i := 2) (v := ?_) (by simp only [qA, qB, qC]; rfl) (by kernel_rfl) (by kernel_rfl) (by kernel_rfl) (fun _ _ _ h => h) (Or.inl ⟨by rfl, ?_⟩) (by assumption) ?_; rotate_left; (· (intro w hSw; (try dsimp only at hSw); go_simp <;> with_reducible rfl)); try simp only [Act.put, qD, qE, qF]
  refine wpAnyH_take (i := 3) (v := ?_) (by simp only [qA, qB, qC]; rfl) (by kernel_rfl) (by kernel_rfl) (by kernel_rfl) (fun _ _ _ h => h) (Or.inl ⟨by rfl, ?_⟩) (by assumption) ?_; rotate_left; (· (intro w hSw; (try dsimp only at hSw); go_simp <;> with_reducible rfl)); try simp only [Act.put, qD, qE, qF]
  refine wpAnyH_take (i := 5) (v := ?_) (by simp only [qA, qB, qC]; rfl) (by kernel_rfl) (by kernel_rfl) (by kernel_rfl) (fun _ _ _ h => h) (Or.inl ⟨by rfl, ?_⟩) (by assumption) ?_; rotate_left; (· (intro w hSw; (try dsimp only at hSw); go_simp <;> with_reducible rfl)); try simp only [Act.put, qD, qE, qF]
  refine wpAnyH_take (i := 6) (v := ?_) (by simp only [qA, qB, qC]; rfl) (by kernel_rfl) (by kernel_rfl) (by kernel_rfl) (fun _ _ _ h => h) (Or.inl ⟨by rfl, ?_⟩) (by assumption) ?_; rotate_left; (· (intro w hSw; (try dsimp only at hSw); go_simp <;> with_reducible rfl)); try simp only [Act.put, qD, qE, qF]
  refine wpAnyH_ready (rs := [4]) (by kernel_rfl) (by simp) ?_
  refine AllReadyH.cons (by simp only [qA, qB, qC]; rfl) (fun K hK => ?_) AllReadyH.nil
  go_simp
  refine hK.out _ _ hHeld (fun hHeld => ?_)
  clear hK K
  try simp only [Act.put, qD, qE, qF]
  refine wpAnyH_ready (rs := [7]) (by kernel_rfl) (by simp) ?_
  refine AllReadyH.cons (by simp only [qA, qB, qC]; rfl) (fun K hK => ?_) AllReadyH.nil
  refine stepH_append_any (by rfl) _ _ 33 (by rfl) B 24 i0 (.slice none 0 0) 1 24 Tryz.underlying33 hi hz hsz0 hbyt rfl (by decide) _ _ _ (by rfl) HNW.out.1 pa pn pc vs.reverse (by rfl) HNW.out.2.2.1 HNW.out.2.1 HNW.out.2.2.2.1 (by unfold maxLen; omega) (by omega) HNW.out.2.2.2.2 ?_
  intro a8 c8 w8 hown8 hgr8 hat8
  obtain ⟨⟨c9, f9⟩, hs8, hs9, hb9, hq9⟩ := HFIN.out w8 _ hown8 hgr8 hat8
  have HEND : Hid (_ ∧ _) := ⟨hb9, hq9⟩
  refine hK.out _ _ hs8 (fun hHeld => ?_)
  clear hown8 hgr8 hat8 hb9 hq9
  clear hK K
  try simp only [Act.put, qD, qE, qF]
  refine wpAnyH_take (i := 8) (v := ?_) (by simp only [qA, qB, qC]; rfl) (by kernel_rfl) (by kernel_rfl) (by kernel_rfl) (fun _ _ _ h => h) (Or.inl ⟨by rfl, ?_⟩) (by assumption) ?_; rotate_left; (· (intro w hSw; (try dsimp only at hSw); go_simp <;> with_reducible rfl)); try simp only [Act.put, qD, qE, qF]
  refine wpAnyH_take (i := 9) (v := ?_) (by simp only [qA, qB, qC]; rfl) (by kernel_rfl) (by kernel_rfl) (by kernel_rfl) (fun _ _ _ h => h) (Or.inl ⟨by rfl, ?_⟩) (by assumption) ?_; rotate_left; (· (intro w hSw; (try dsimp only at hSw); go_simp <;> with_reducible rfl)); try simp only [Act.put, qD, qE, qF]
  refine wpAnyH_ready (rs := [10]) (by kernel_rfl) (by simp) ?_
  refine AllReadyH.cons (by simp only [qA, qB, qC]; rfl) (fun K hK => ?_) AllReadyH.nil
  go_simp
  refine hK.out _ _ hs9 (fun hHeld => ?_)
  clear hK K
  try simp only [Act.put, qD, qE, qF]
  refine wpAnyH_done (by kernel_rfl) ?_ _
  refine NoPanic.normal ?_
  clear hHeld c9 f9 hs8 hs9 c5d hp14
  go_wp2_with fail
  go_ret
  exact ⟨rfl, HEND.out⟩
 ·go_wp2_with fail
  go_ret
  have HF : Hid (_ ∧ _) := HW5.out _ rfl 4
  obtain ⟨a1, a2, a3, _⟩ := HF.out
  exact ⟨rfl, a3, _, _, a1.rc⟩
end Go.Proofs.YtljggjllijacjaaGreatDoor

namespace Go.Proofs.YtljggjllijacjaaGreatDoor
open Go.RowKit
attribute [local go_sem ↓] Go.wp_at_zero Go.wp_at_succ
set_option maxRecDepth 100000 in
set_option maxHeartbeats 2000000 in
theorem z108 (b : Nat) (es : Array MapEntry) (ck : Nat) (w : World) (hb : w.heap[b]? = some (.map es ck)) :
  Calls Tryz.prog 108 #[.map (some b)] w fun e w' => e = .returned (.map (some w.heap.size)) ∧ w' = w.alloc (.map es ck) := by
 have hq := fun w => run_eql_map_nil_sl (P := Tryz.prog) w 97 _ _ (some b) Tryz.underlying97
 go_enter Tryz.func108, Tryz.ntmps108
 go_wp2
 rw [run_callFunc_extern Tryz.func118 (by kernel_rfl) (by kernel_rfl) (by kernel_rfl) (e := Extern.MapsClone.clone) (by kernel_rfl), run_maps_clone_sl w 97 hb]
 simp only [Result.andThen]
 rw [Oper.upon_value]
 go_wp2
 rw [run_typeAssert_map_sl _ 97 20 _ _ _ Tryz.underlying97]
 simp only [Result.andThen]
 rw [Oper.upon_value]
 go_wp2
 go_ret
 exact ⟨rfl, rfl⟩
set_option maxRecDepth 100000 in
set_option maxHeartbeats 2000000 in
theorem z88 (m : Hp) (hb M n : Nat) (D : DataW Value) (w : World) (hH : HpAt w hb M n D m) :
  Calls Tryz.prog 88 #[.pointer (some ⟨hb, 0, none⟩)] w fun e w' => e = .returned (.pointer (some ⟨w.heap.size + 1, 0, none⟩)) ∧ HpAt w' (w.heap.size + 1) w.heap.size n D m ∧ Below w.heap.size w w' := by
 obtain ⟨es, ck, k1, k2⟩ := hH.map
 obtain ⟨W, hW⟩ : ∃ W, w.alloc (.map es ck) = W := ⟨_, rfl⟩
 have hbW : Below w.heap.size w W := by rw [← hW]; exact (Below.refl _ _).alloc (Nat.le_refl _) _
 have hMW : W.heap[w.heap.size]? = some (.map es ck) := by rw [← hW]; exact heap_alloc_new w _
 have hsz : W.heap.size = w.heap.size + 1 := by rw [← hW]; simp
 have H36 : Calls Tryz.prog 108 #[.map (some M)] w fun e w' => e = .returned (.map (some w.heap.size)) ∧ w' = W := by
  rw [← hW]
  exact z108 M es ck w k1
 have c0 := hH.cell
 have HF : Hid (HpAt (W.alloc (.cells #[.map (some w.heap.size)] 99)) W.heap.size w.heap.size n D m ∧ Below w.heap.size w (W.alloc (.cells #[.map (some w.heap.size)] 99))) := by
  have hb2 : Below w.heap.size w (W.alloc (.cells #[.map (some w.heap.size)] 99)) := hbW.alloc hbW.size _
  have hb3 : Below W.heap.size W (W.alloc (.cells #[.map (some w.heap.size)] 99)) := (Below.refl _ W).alloc (Nat.le_refl _) _
  refine ⟨⟨heap_alloc_new W _, ⟨es, ck, (hb3.block _ (by omega)).trans hMW, k2⟩, hH.no, fun x l hx hl => ?_, hH.desc, hH.wf⟩, hb2⟩
  obtain ⟨v, q1, q2⟩ := hH.yes x l hx hl
  exact ⟨v, q1, q2.below hb2⟩
 rw [hsz] at HF
 clear hH hbW hMW k1 k2
 go_enter Tryz.func88, Tryz.ntmps88
 go_wp2_with fail
 refine H36.mono ?_
 rintro e w1 ⟨rfl, rfl⟩
 clear H36 c0
 go_wp2_with fail
 go_ret
 exact ⟨rfl, HF.out⟩
end Go.Proofs.YtljggjllijacjaaGreatDoor
namespace Go.Proofs.YtljggjllijacjaaGreatDoor
open Go.RowKit Go.Shelf
attribute [local go_sem] Oper.semAt_some
def SbG (n : Nat) (D : DataW Value) (m : Hp) (ls : List (List C)) (e : Ending) (w w' : World) : Prop := ∃ sb hb M rv, e = .returned (.pointer (some ⟨sb, 0, none⟩)) ∧ SvAt w' sb hb (.slice none 0 0) rv 0 ∧ HpAt w' hb M n D m ∧ OwnRow w' w.heap.size rv ls.reverse ∧ Below w.heap.size w w' ∧ w.heap.size ≤ sb ∧ w.heap.size ≤ hb ∧ w.heap.size ≤ M
set_option maxRecDepth 100000 in
set_option maxHeartbeats 4000000 in
theorem z59 (m : Hp) (h0 M0 n : Nat) (D : DataW Value) (ls : List (List C)) (v : Value) (w : World) (hH0 : HpAt w h0 M0 n D m) (h : RowAt w v ls) (hby : ∀ l ∈ ls, l.length * 48 ≤ 140737488355328) (hln : ls.length * 24 ≤ 140737488355328) :
  Calls Tryz.prog 59 #[.pointer (some ⟨h0, 0, none⟩), v] w fun e w' => SbG n D m ls e w w' := by
 have H88 := z88 m h0 M0 n D w hH0
 clear hH0
 have HR : Hid (RowAt w v ls) := h
 obtain ⟨i0, hi, hz, hsz, hbyt⟩ := info29
 obtain ⟨a, c, hf⟩ := h.form
 subst hf
 clear h
 refine (callsIn_wide (n := 6)).1 ?_
 refine callsIn_of_wp_marks Tryz.func59 rfl trivial ?_ rfl
 simp only [Tryz.ntmps59, List.size_toArray, List.length_cons, List.length_nil, Nat.reduceAdd, Nat.reduceSub, Array.replicate_succ, Array.replicate_zero, List.push_toArray, List.append_toArray, List.nil_append, List.cons_append]
 gi_wp2_with (refine ⟨trivial, ?_⟩; gi_at_call 88; refine (callsIn_wide.2 H88).mono ?_; rintro e w1 ⟨rfl, hH, hB⟩)
 gi_wp2_with (refine ⟨trivial, ?_⟩; gi_at_call 89; refine (callsIn_wide.2 (u72 _ _ _ _)).mono ?_; rintro e w' ⟨rfl, hw⟩; obtain rfl := hw.symm)
 obtain ⟨n1, hn1⟩ : ∃ n1, w1.heap.size = n1 := ⟨_, rfl⟩
 obtain ⟨hb, hhb⟩ : ∃ hb, w.heap.size + 1 = hb := ⟨_, rfl⟩
 obtain ⟨vs, hvs⟩ : ∃ vs : List Value, vs.length = ls.length ∧ (vs.length = 0 ∨ ∃ g o, a = some ⟨g, o, none⟩ ∧ g < w.heap.size ∧ w.rangeAt g o vs) ∧ ∀ (i : Nat) (u : Value) (l : List C), vs[i]? = some u → ls[i]? = some l → TermAt w u l := by
  rcases HR.out.2 with ⟨e1, _⟩ | ⟨b, o, cap, vs, e1, e2, e3, e4, e5, e6, e7⟩
  ·exact ⟨[], by simp [e1], .inl rfl, fun i u l h => by simp at h⟩
  ·simp only [Value.slice.injEq, true_and] at e1
   exact ⟨vs, e5, .inr ⟨b, o, e1.1, e4, e6⟩, e7⟩
 have HV : Hid (vs.length = ls.length ∧ ∀ (i : Nat) (u : Value) (l : List C), vs[i]? = some u → ls[i]? = some l → TermAt w u l) := ⟨hvs.1, hvs.2.2⟩
 have hM := hH.map.lt
 have hhs := (Array.getElem?_eq_some_iff.1 hH.blk).1
 have hBs := hB.size
 have bS : SvAt ((w1.alloc (.cells #[.int .u8 0, .slice none 0 0, .slice none 0 0, .int .i64 0, .pointer (some ⟨hb, 0, none⟩), .slice none 0 0] 104)).alloc (.cells #[.pointer (some ⟨n1, 0, none⟩)] 101) |>.alloc (.cells #[.slice a ls.length c] 33)) n1 hb (.slice none 0 0) (.slice none 0 0) 0 := by
  show _ = _
  rw [heap_alloc_old _ _ (by simp; omega), heap_alloc_old _ _ (by simp; omega), ← hn1]
  exact heap_alloc_new w1 _
 have bX := (Boxed.new (w1.alloc (.cells #[.int .u8 0, .slice none 0 0, .slice none 0 0, .int .i64 0, .pointer (some ⟨hb, 0, none⟩), .slice none 0 0] 104)) 101 (.pointer (some ⟨n1, 0, none⟩))).alloc (.cells #[.slice a ls.length c] 33)
 have bC := Boxed.new ((w1.alloc (.cells #[.int .u8 0, .slice none 0 0, .slice none 0 0, .int .i64 0, .pointer (some ⟨hb, 0, none⟩), .slice none 0 0] 104)).alloc (.cells #[.pointer (some ⟨n1, 0, none⟩)] 101)) 33 (.slice a ls.length c)
 have hB0 : Below n1 w1 ((w1.alloc (.cells #[.int .u8 0, .slice none 0 0, .slice none 0 0, .int .i64 0, .pointer (some ⟨hb, 0, none⟩), .slice none 0 0] 104)).alloc (.cells #[.pointer (some ⟨n1, 0, none⟩)] 101) |>.alloc (.cells #[.slice a ls.length c] 33)) := (((Below.refl _ w1).alloc (by omega) _).alloc (by simp; omega) _).alloc (by simp; omega) _
 have hs0 : ((w1.alloc (.cells #[.int .u8 0, .slice none 0 0, .slice none 0 0, .int .i64 0, .pointer (some ⟨hb, 0, none⟩), .slice none 0 0] 104)).alloc (.cells #[.pointer (some ⟨n1, 0, none⟩)] 101) |>.alloc (.cells #[.slice a ls.length c] 33)).heap.size = n1 + 3 := by simp; omega
 simp only [World.size_alloc] at bX bC
 rw [hn1] at bX bC ⊢
 rw [hhb]
 generalize ((w1.alloc (.cells #[.int .u8 0, .slice none 0 0, .slice none 0 0, .int .i64 0, .pointer (some ⟨hb, 0, none⟩), .slice none 0 0] 104)).alloc (.cells #[.pointer (some ⟨n1, 0, none⟩)] 101) |>.alloc (.cells #[.slice a ls.length c] 33)) = W0 at *
 have hvl : vs.length ≤ maxLen := by rw [hvs.1]; unfold maxLen; omega
 have hall : ∀ u ∈ vs, ∃ a n c, u = .slice a n c := fun u hu => by
  obtain ⟨j, hj, rfl⟩ := List.getElem_of_mem hu
  obtain ⟨a', c', e⟩ := (HV.out.2 j _ _ (List.getElem?_eq_getElem hj) (List.getElem?_eq_getElem (by rw [← HV.out.1]; exact hj))).form
  exact ⟨_, _, _, e⟩
 rw [← hvs.1] at bC
 have hrow1 : vs.length = 0 ∨ ∃ g o, a = some ⟨g, o, none⟩ ∧ g < w1.heap.size ∧ w1.rangeAt g o vs := by
  rcases hvs.2.1 with e | ⟨g, o, e1, e2, e3⟩
  ·exact .inl e
  ·exact .inr ⟨g, o, e1, by omega, range_below e3 e2 hB⟩
 have hB0' : Below w1.heap.size w1 W0 := by rw [hn1]; exact hB0
 have HST := bw_stopsQ (QB vs) 5 (by decide) (n1 + 2) vs a c w1 W0 hB0' bC hvl hall hrow1 (fun x hx => enB_mem hx)
 rw [hn1] at HST
 have HH : Hid (HpAt w1 hb w.heap.size n D m ∧ Below w.heap.size w w1 ∧ w.heap.size < n1 ∧ hb < n1 ∧ w.heap.size ≤ hb) := ⟨by rw [← hhb]; exact hH, hB, by omega, by omega, by omega⟩
 clear hH hB hvs hM hhs hBs hrow1 hB0' hvl hall
 refine wpIn_rangeFunc_ownH rfl (by decide) (gf := 109) (lb := #[.pointer (some ⟨n1 + 2, 0, none⟩)]) rfl trivial (enters_of Tryz.func109 (by kernel_rfl) rfl)
  HST kpB_t (kpB_b (by omega) (by omega)) (Below.refl _ _) (fun _ => rfl)
  (fun pre W => SbI n1 hb (.slice a vs.length c) ls vs pre W ∧ Below n1 w1 W)
  (fun _ _ _ => False)
  (OwnFrom.and (Own.from (sbI_own n1 hb (.slice a vs.length c) ls vs) _) (ownFrom_below (by omega) (by omega)))
  (fun _ _ _ _ _ hs _ _ => hs)
  ⟨⟨_, bS, bX, ownRow_nil _ _, bC⟩, hB0⟩
  (fun x a' W => a' = { tmps := #[.pointer (some ⟨h0, 0, none⟩), .slice a ls.length c, undef, undef, .pointer none, .pointer (some ⟨hb, 0, none⟩), .pointer (some ⟨n1 + 1, 0, none⟩), undef, x.1.2, .pointer (some ⟨h0, 0, none⟩), .pointer (some ⟨hb, 0, none⟩), .pointer (some ⟨hb, 0, none⟩), .bool false, undef, .pointer (some ⟨hb, 0, none⟩), .agg #[.int .u8 0, .slice none 0 0, .slice none 0 0, .int .i64 0, .pointer (some ⟨hb, 0, none⟩), .slice none 0 0], .pointer (some ⟨n1, 0, none⟩), .slice a ls.length c, .func (.func 109) #[] #[.pointer (some ⟨n1 + 1 + 1, 0, none⟩)], .int .i64 x.1.1, x.1.2, undef, undef, undef, undef, undef, undef, undef, undef, undef, undef, undef, undef], defers := [] })
  (fun x a' _ X Y row hs hg hr => hs)
  ?assign ?body ?done ?stop
 case assign =>
  rintro lp pre x W K ⟨⟨rv, h1, h2, h3, h4⟩, hB1⟩ hK
  gi_wp2
  exact hK _ _ ((KeepsOthers.refl _).from _) ⟨Below.refl _ _, rfl⟩ ⟨⟨rv, h1, h2, h3, h4⟩, hB1⟩ rfl
 case body =>
  rintro lp pre ⟨⟨xi, xv⟩, hxq⟩ a' W hlp ⟨r, hr⟩ ⟨⟨rv, h1, h2, h3, h4⟩, hB1⟩ rfl hlt
  obtain ⟨us, ho, hea, hap⟩ := h3
  have hxl : xi < ls.length := by rw [← HV.out.1]; exact (List.getElem?_eq_some_iff.1 hxq).1
  have hTx : TermAt w xv ls[xi] := HV.out.2 xi xv ls[xi] hxq (List.getElem?_eq_getElem hxl)
  have HLx : Hid (lsAt ls (xi, xv) = ls[xi]) := by
   show lsAt ls (xi, xv) = ls[xi]
   simp [lsAt, hxl]
  obtain ⟨xa, xc, hxv⟩ := hTx.form
  subst hxv
  have HWD : Hid (Below W.heap.size W W.drew) := Below.drew (Below.refl _ _)
  have hsW : n1 + 3 ≤ W.heap.size := by have := h4.lt; omega
  have hnW : Below w.heap.size w W.drew := HH.out.2.1.trans ((hB1.mono (by have := HH.out.2.2.1; omega)).drew)
  have H42 := h22 ls[xi] _ W.drew (hTx.below hnW) (hby _ (List.getElem_mem hxl))
  have hpl : (pre.map fun x => lsAt ls x.1).length = pre.length := List.length_map _
  rw [hpl] at ho
  have hpn : pre.length < ls.length := by rw [← HV.out.1]; exact hlt
  obtain ⟨ra, rc, hrv⟩ : ∃ ra rc, rv = .slice ra pre.length rc := by
   rcases ho.2 with ⟨e1, e2⟩ | ⟨g, cp, cu, e1, _⟩
   ·exact ⟨none, 0, by rw [e1, e2]⟩
   ·exact ⟨_, _, e1⟩
  subst hrv
  have HEND : Hid (∀ (w3 w5 : World) (u v' : Value), Below W.drew.heap.size W.drew w3 → OwnT w3 W.drew.heap.size u ls[xi] → w5.ownsRow n1 24 1 v' (pre.length + 1) (us ++ [u]) → (w3.alloc (.cells #[u] 24)).grownBy w5 (Value.slice ra pre.length rc).ownBlock →
    w5.heap[n1]? = W.heap[n1]? ∧ KeepsFrom W0.heap.size W (w5.setCell ⟨n1, 5, none⟩ v') ∧ KpB n1 (n1 + 2) W (w5.setCell ⟨n1, 5, none⟩ v') ∧ SbI n1 hb (.slice a vs.length c) ls vs (pre ++ [⟨(xi, .slice xa ls[xi].length xc), hxq⟩]) (w5.setCell ⟨n1, 5, none⟩ v') ∧ Below n1 w1 (w5.setCell ⟨n1, 5, none⟩ v')) := fun w3 w5 u v' k1 k2 k3 k4 => by
   have kb : Below W.heap.size W w3 := HWD.out.trans k1
   have k3' : w5.ownsRow n1 24 1 v' ((pre.map fun x => lsAt ls x.1).length + 1) (us ++ [u]) := by rw [hpl]; exact k3
   have ho' : W.ownsRow n1 24 1 (.slice ra pre.length rc) (pre.map fun x => lsAt ls x.1).length us := by rw [hpl]; exact ho
   obtain ⟨m1, m2, m3, m4, m5, m6⟩ := sb_end h1 h2 h4 ho' hea hap kb k2 k3' k4
   refine ⟨?_, m1.from _, m2, ⟨v', m3, m4, ?_, m5⟩, hB1.trans m2.1⟩
   ·have z3 := kb.size
    exact ((k4.block n1 (by simp; omega) (fun e => typed_apart ho h1 (by decide) e.symm)).trans (heap_alloc_old w3 _ (by omega))).trans (kb.block n1 (by omega))
   ·rw [List.map_append]
    show OwnRow _ n1 v' ((pre.map fun x => lsAt ls x.1) ++ [lsAt ls (xi, .slice xa ls[xi].length xc)])
    rw [HLx.out]
    exact m6
  have HS1 : Hid (SvAt W n1 hb (.slice none 0 0) (.slice ra pre.length rc) 0) := h1
  have HOw : Hid (W.ownsRow n1 24 1 (.slice ra pre.length rc) pre.length us) := ho
  have cR : ∀ w3, Hid (Below W.drew.heap.size W.drew w3) → w3.cell? ⟨n1, 5, none⟩ = some (.slice ra pre.length rc) := fun w3 k => by
   have e := (k.out.block n1 (show n1 < W.heap.size by omega)).trans h1
   rw [cell_of_row w3 n1 5 _ 104 (0, 0) e]; rfl
  have cB : ∀ w3, Hid (Below W.drew.heap.size W.drew w3) → w3.cell? ⟨n1 + 1, 0, none⟩ = some (.pointer (some ⟨n1, 0, none⟩)) := fun w3 k => Boxed.cell ((k.out.block (n1 + 1) (show n1 + 1 < W.heap.size by omega)).trans h2)
  have HI : Hid (pre.length + 1 ≤ ls.length ∧ n1 + 3 ≤ W.drew.heap.size) := ⟨hpn, hsW⟩
  have cR0 := cR W.drew (Below.refl _ _)
  have hS0 : W.drew.cell? ⟨n1 + 1, 0, none⟩ = some (.pointer (some ⟨n1, 0, none⟩)) := cB W.drew (Below.refl _ _)
  have HWW : Hid (Below W.heap.size W W.drew) := HWD.out
  clear h1 h2 h4 ho hea hap hTx HWD hpl hr hlp hlt
  generalize hlx : ls[xi].length = lx at *
  gi_wp2
  refine region_in (S := fun u => u.cell? ⟨n1 + 1, 0, none⟩ = some (.pointer (some ⟨n1, 0, none⟩))) (by kernel_rfl) (by kernel_rfl) hS0 (fun hHeld => ?_)
  generalize W.drew = WD at *
  refine wpAnyH_take (i := 0) (v := ?_) (by simp only [qA, qB]; rfl) (by kernel_rfl) (by kernel_rfl) (by kernel_rfl) (fun _ _ _ h => h) (Or.inl ⟨by rfl, ?_⟩) (by assumption) ?_
  rotate_left
  ·(intro w hSw; (try dsimp only at hSw); go_simp <;> with_reducible rfl)
  try simp only [Act.put, qD, qE, qF]
  refine wpAnyH_take (i := 1) (v := ?_) (by simp only [qA, qB, qC]; rfl) (by kernel_rfl) (by kernel_rfl) (by kernel_rfl) (fun _ _ _ h => h) (Or.inl ⟨by rfl, ?_⟩) (by assumption) ?_
  rotate_left
  ·(intro w hSw; (try dsimp only at hSw); go_simp <;> with_reducible rfl)
  try simp only [Act.put, qD, qE, qF]
  refine wpAnyH_take (i := 2) (v := ?_) (by simp only [qA, qB, qC]; rfl) (by kernel_rfl) (by kernel_rfl) (by kernel_rfl) (fun _ _ _ h => h) (Or.inl ⟨by rfl, ?_⟩) (by assumption) ?_
  rotate_left
  ·(intro w hSw; (try dsimp only at hSw); go_simp <;> with_reducible rfl)
  try simp only [Act.put, qD, qE, qF]
  refine wpAnyH_take (i := 3) (v := ?_) (by simp only [qA, qB, qC]; rfl) (by kernel_rfl) (by kernel_rfl) (by kernel_rfl) (fun _ _ _ h => h) (Or.inl ⟨by rfl, ?_⟩) (by assumption) ?_
  rotate_left
  ·(intro w hSw; (try dsimp only at hSw); go_simp <;> with_reducible rfl)
  try simp only [Act.put, qD, qE, qF]
  refine wpAnyH_take (i := 5) (v := ?_) (by simp only [qA, qB, qC]; rfl) (by kernel_rfl) (by kernel_rfl) (by kernel_rfl) (fun _ _ _ h => h) (Or.inl ⟨by rfl, ?_⟩) (by assumption) ?_
  rotate_left
  ·(intro w hSw; (try dsimp only at hSw); go_simp <;> with_reducible rfl)
  try simp only [Act.put, qD, qE, qF]
  refine wpAnyH_ready (rs := [4, 6]) (by kernel_rfl) (by simp) ?_
  refine AllReadyH.cons (by simp only [qA, qB, qC]; rfl) (fun K hK => ?_) ?_
  ·skip
   have cR4 := cR WD (Below.refl _ _)
   go_simp
   refine hK.out _ _ ?_ (fun hHeld => ?_)
   ·exact hHeld
   clear hK K
   try simp only [Act.put, qD, qE, qF]
   refine wpAnyH_ready (rs := [6]) (by kernel_rfl) (by simp) ?_
   refine AllReadyH.cons (by simp only [qA, qB, qC]; rfl) (fun K hK => ?_) AllReadyH.nil
   go_simp
   go_at_call 56
   refine H42.mono ?_
   rintro e w3 ⟨u3, rfl, hT3, hg3, hb3, hO3⟩
   have HB3 : Hid (Below WD.heap.size WD w3) := hb3
   have HO3 : Hid (OwnT w3 WD.heap.size u3 ls[xi]) := hO3
   have hu3 := ownT_form hO3
   rw [hlx] at hu3
   obtain ⟨ua, uc, hu3⟩ := hu3
   subst hu3
   clear hT3 hg3 hb3 hO3
   refine hK.out _ _ ?_ (fun hHeld => ?_)
   ·exact cB w3 HB3
   clear hK K
   try simp only [Act.put, qD, qE, qF]
   refine wpAnyH_ready (rs := [7]) (by kernel_rfl) (by simp) ?_
   refine AllReadyH.cons (by simp only [qA, qB, qC]; rfl) (fun K hK => ?_) AllReadyH.nil
   go_simp
   refine hK.out _ _ ?_ (fun hHeld => ?_)
   ·exact cB _ (HB3.out.alloc HB3.out.size _)
   clear hK K
   try simp only [Act.put, qD, qE, qF]
   refine wpAnyH_ready (rs := [8]) (by kernel_rfl) (by simp) ?_
   refine AllReadyH.cons (by simp only [qA, qB, qC]; rfl) (fun K hK => ?_) AllReadyH.nil
   have HR3 : Hid ((w3.alloc (.cells #[.slice ua lx uc] 24)).ownsRow n1 24 1 (.slice ra pre.length rc) pre.length us) := World.ownsRow.alloc (owns_low (owns_low HOw.out HWW.out) HB3.out) _
   refine stepH_append (by rfl) _ _ 33 (by rfl) n1 24 i0 (.slice none 0 0) 1 24 Tryz.underlying33 hi hz hsz hbyt rfl (by decide) (.slice ra pre.length rc) pre.length us (by rfl) HR3.out ⟨w3.heap.size, 0, none⟩ 1 1 [.slice ua lx uc] (by rfl) (by rfl) (fun j u hu => by rw [Addr.add_mid]; exact range_new w3 [.slice ua lx uc] 24 j u hu) (fun u hu => by simp at hu; subst hu; rfl) (by have := HI.out.1; unfold maxLen; omega) (by have := HI.out.1; omega) (by have := HI.out.2; have := HB3.out.size; simp; omega) ?_
   intro v' w5 hown5 hgr5 hat5
   obtain ⟨g5, c5x, hv5⟩ := ownsRow_succ hown5
   subst hv5
   obtain ⟨x0, x1, x2, x3, x4⟩ := HEND.out w3 w5 _ _ HB3.out HO3.out hown5 hgr5
   have HX : Hid (KeepsFrom W0.heap.size W (w5.setCell ⟨n1, 5, none⟩ (.slice (some ⟨g5, 0, none⟩) (pre.length + 1) c5x)) ∧ KpB n1 (n1 + 2) W (w5.setCell ⟨n1, 5, none⟩ (.slice (some ⟨g5, 0, none⟩) (pre.length + 1) c5x)) ∧ SbI n1 hb (.slice a vs.length c) ls vs (pre ++ [⟨(xi, .slice xa lx xc), hxq⟩]) (w5.setCell ⟨n1, 5, none⟩ (.slice (some ⟨g5, 0, none⟩) (pre.length + 1) c5x)) ∧ Below n1 w1 (w5.setCell ⟨n1, 5, none⟩ (.slice (some ⟨g5, 0, none⟩) (pre.length + 1) c5x))) := ⟨x1, x2, x3, x4⟩
   have x5 := x0.trans HS1.out
   have c5 : w5.cell? ⟨n1, 5, none⟩ = some (.slice ra pre.length rc) := by rw [cell_of_row w5 n1 5 _ 104 (0, 0) x5]; rfl
   have f5 : w5.frozen? ⟨n1, 5, none⟩ = false := frozen_of_row w5 n1 5 _ 104 x5
   obtain ⟨_, _, x6, _⟩ := x3
   have s5' : (w5.setCell ⟨n1, 5, none⟩ (.slice (some ⟨g5, 0, none⟩) (pre.length + 1) c5x)).cell? ⟨n1 + 1, 0, none⟩ = some (.pointer (some ⟨n1, 0, none⟩)) := x6.cell
   have s5 : w5.cell? ⟨n1 + 1, 0, none⟩ = some (.pointer (some ⟨n1, 0, none⟩)) := Boxed.cell ((heap_setCell_other w5 ⟨n1, 5, none⟩ (n1 + 1) _ (by simp)).symm.trans x6)
   clear x0 x1 x2 x4 x5 x6 hown5 hgr5 hat5
   refine hK.out _ _ ?_ (fun hHeld => ?_)
   ·exact s5
   clear hK K
   try simp only [Act.put, qD, qE, qF]
   refine wpAnyH_take (i := 9) (v := ?_) (by simp only [qA, qB, qC]; rfl) (by kernel_rfl) (by kernel_rfl) (by kernel_rfl) (fun _ _ _ h => h) (Or.inl ⟨by rfl, ?_⟩) (by assumption) ?_
   rotate_left
   ·(intro w hSw; (try dsimp only at hSw); go_simp <;> with_reducible rfl)
   try simp only [Act.put, qD, qE, qF]
   refine wpAnyH_take (i := 10) (v := ?_) (by simp only [qA, qB, qC]; rfl) (by kernel_rfl) (by kernel_rfl) (by kernel_rfl) (fun _ _ _ h => h) (Or.inl ⟨by rfl, ?_⟩) (by assumption) ?_
   rotate_left
   ·(intro w hSw; (try dsimp only at hSw); go_simp <;> with_reducible rfl)
   try simp only [Act.put, qD, qE, qF]
   refine wpAnyH_ready (rs := [11]) (by kernel_rfl) (by simp) ?_
   refine AllReadyH.cons (by simp only [qA, qB, qC]; rfl) (fun K hK => ?_) AllReadyH.nil
   go_simp
   refine hK.out _ _ ?_ (fun hHeld => ?_)
   ·exact s5'
   clear hK K
   try simp only [Act.put, qD, qE, qF]
   refine wpAnyH_done (by kernel_rfl) ?_ _
   simp only [OnlyN]
   gi_wp2
   exact ⟨HX.out.1, HX.out.2.1, HX.out.2.2.1, HX.out.2.2.2⟩
  refine AllReadyH.cons (by simp only [qA, qB, qC]; rfl) (fun K hK => ?_) AllReadyH.nil
  go_simp
  go_at_call 56
  refine H42.mono ?_
  rintro e w3 ⟨u3, rfl, hT3, hg3, hb3, hO3⟩
  have HB3 : Hid (Below WD.heap.size WD w3) := hb3
  have HO3 : Hid (OwnT w3 WD.heap.size u3 ls[xi]) := hO3
  have hu3 := ownT_form hO3
  rw [hlx] at hu3
  obtain ⟨ua, uc, hu3⟩ := hu3
  subst hu3
  clear hT3 hg3 hb3 hO3
  refine hK.out _ _ ?_ (fun hHeld => ?_)
  ·exact cB w3 HB3
  clear hK K
  try simp only [Act.put, qD, qE, qF]
  refine wpAnyH_ready (rs := [4, 7]) (by kernel_rfl) (by simp) ?_
  refine AllReadyH.cons (by simp only [qA, qB, qC]; rfl) (fun K hK => ?_) ?_
  ·skip
   have cR4 := cR w3 HB3
   go_simp
   refine hK.out _ _ ?_ (fun hHeld => ?_)
   ·exact hHeld
   clear hK K
   try simp only [Act.put, qD, qE, qF]
   refine wpAnyH_ready (rs := [7]) (by kernel_rfl) (by simp) ?_
   refine AllReadyH.cons (by simp only [qA, qB, qC]; rfl) (fun K hK => ?_) AllReadyH.nil
   go_simp
   refine hK.out _ _ ?_ (fun hHeld => ?_)
   ·exact cB _ (HB3.out.alloc HB3.out.size _)
   clear hK K
   try simp only [Act.put, qD, qE, qF]
   refine wpAnyH_ready (rs := [8]) (by kernel_rfl) (by simp) ?_
   refine AllReadyH.cons (by simp only [qA, qB, qC]; rfl) (fun K hK => ?_) AllReadyH.nil
   have HR3 : Hid ((w3.alloc (.cells #[.slice ua lx uc] 24)).ownsRow n1 24 1 (.slice ra pre.length rc) pre.length us) := World.ownsRow.alloc (owns_low (owns_low HOw.out HWW.out) HB3.out) _
   refine stepH_append (by rfl) _ _ 33 (by rfl) n1 24 i0 (.slice none 0 0) 1 24 Tryz.underlying33 hi hz hsz hbyt rfl (by decide) (.slice ra pre.length rc) pre.length us (by rfl) HR3.out ⟨w3.heap.size, 0, none⟩ 1 1 [.slice ua lx uc] (by rfl) (by rfl) (fun j u hu => by rw [Addr.add_mid]; exact range_new w3 [.slice ua lx uc] 24 j u hu) (fun u hu => by simp at hu; subst hu; rfl) (by have := HI.out.1; unfold maxLen; omega) (by have := HI.out.1; omega) (by have := HI.out.2; have := HB3.out.size; simp; omega) ?_
   intro v' w5 hown5 hgr5 hat5
   obtain ⟨g5, c5x, hv5⟩ := ownsRow_succ hown5
   subst hv5
   obtain ⟨x0, x1, x2, x3, x4⟩ := HEND.out w3 w5 _ _ HB3.out HO3.out hown5 hgr5
   have HX : Hid (KeepsFrom W0.heap.size W (w5.setCell ⟨n1, 5, none⟩ (.slice (some ⟨g5, 0, none⟩) (pre.length + 1) c5x)) ∧ KpB n1 (n1 + 2) W (w5.setCell ⟨n1, 5, none⟩ (.slice (some ⟨g5, 0, none⟩) (pre.length + 1) c5x)) ∧ SbI n1 hb (.slice a vs.length c) ls vs (pre ++ [⟨(xi, .slice xa lx xc), hxq⟩]) (w5.setCell ⟨n1, 5, none⟩ (.slice (some ⟨g5, 0, none⟩) (pre.length + 1) c5x)) ∧ Below n1 w1 (w5.setCell ⟨n1, 5, none⟩ (.slice (some ⟨g5, 0, none⟩) (pre.length + 1) c5x))) := ⟨x1, x2, x3, x4⟩
   have x5 := x0.trans HS1.out
   have c5 : w5.cell? ⟨n1, 5, none⟩ = some (.slice ra pre.length rc) := by rw [cell_of_row w5 n1 5 _ 104 (0, 0) x5]; rfl
   have f5 : w5.frozen? ⟨n1, 5, none⟩ = false := frozen_of_row w5 n1 5 _ 104 x5
   obtain ⟨_, _, x6, _⟩ := x3
   have s5' : (w5.setCell ⟨n1, 5, none⟩ (.slice (some ⟨g5, 0, none⟩) (pre.length + 1) c5x)).cell? ⟨n1 + 1, 0, none⟩ = some (.pointer (some ⟨n1, 0, none⟩)) := x6.cell
   have s5 : w5.cell? ⟨n1 + 1, 0, none⟩ = some (.pointer (some ⟨n1, 0, none⟩)) := Boxed.cell ((heap_setCell_other w5 ⟨n1, 5, none⟩ (n1 + 1) _ (by simp)).symm.trans x6)
   clear x0 x1 x2 x4 x5 x6 hown5 hgr5 hat5
   refine hK.out _ _ ?_ (fun hHeld => ?_)
   ·exact s5
   clear hK K
   try simp only [Act.put, qD, qE, qF]
   refine wpAnyH_take (i := 9) (v := ?_) (by simp only [qA, qB, qC]; rfl) (by kernel_rfl) (by kernel_rfl) (by kernel_rfl) (fun _ _ _ h => h) (Or.inl ⟨by rfl, ?_⟩) (by assumption) ?_
   rotate_left
   ·(intro w hSw; (try dsimp only at hSw); go_simp <;> with_reducible rfl)
   try simp only [Act.put, qD, qE, qF]
   refine wpAnyH_take (i := 10) (v := ?_) (by simp only [qA, qB, qC]; rfl) (by kernel_rfl) (by kernel_rfl) (by kernel_rfl) (fun _ _ _ h => h) (Or.inl ⟨by rfl, ?_⟩) (by assumption) ?_
   rotate_left
   ·(intro w hSw; (try dsimp only at hSw); go_simp <;> with_reducible rfl)
   try simp only [Act.put, qD, qE, qF]
   refine wpAnyH_ready (rs := [11]) (by kernel_rfl) (by simp) ?_
   refine AllReadyH.cons (by simp only [qA, qB, qC]; rfl) (fun K hK => ?_) AllReadyH.nil
   go_simp
   refine hK.out _ _ ?_ (fun hHeld => ?_)
   ·exact s5'
   clear hK K
   try simp only [Act.put, qD, qE, qF]
   refine wpAnyH_done (by kernel_rfl) ?_ _
   simp only [OnlyN]
   gi_wp2
   exact ⟨HX.out.1, HX.out.2.1, HX.out.2.2.1, HX.out.2.2.2⟩
  refine AllReadyH.cons (by simp only [qA, qB, qC]; rfl) (fun K hK => ?_) AllReadyH.nil
  go_simp
  refine hK.out _ _ ?_ (fun hHeld => ?_)
  ·exact cB _ (HB3.out.alloc HB3.out.size _)
  clear hK K
  try simp only [Act.put, qD, qE, qF]
  refine wpAnyH_ready (rs := [4]) (by kernel_rfl) (by simp) ?_
  refine AllReadyH.cons (by simp only [qA, qB, qC]; rfl) (fun K hK => ?_) AllReadyH.nil
  have cR4 := cR _ (HB3.out.alloc HB3.out.size _ : Hid (Below WD.heap.size WD (w3.alloc (.cells #[.slice ua lx uc] 24))))
  go_simp
  refine hK.out _ _ ?_ (fun hHeld => ?_)
  ·exact hHeld
  clear hK K
  try simp only [Act.put, qD, qE, qF]
  refine wpAnyH_ready (rs := [8]) (by kernel_rfl) (by simp) ?_
  refine AllReadyH.cons (by simp only [qA, qB, qC]; rfl) (fun K hK => ?_) AllReadyH.nil
  have HR3 : Hid ((w3.alloc (.cells #[.slice ua lx uc] 24)).ownsRow n1 24 1 (.slice ra pre.length rc) pre.length us) := World.ownsRow.alloc (owns_low (owns_low HOw.out HWW.out) HB3.out) _
  refine stepH_append (by rfl) _ _ 33 (by rfl) n1 24 i0 (.slice none 0 0) 1 24 Tryz.underlying33 hi hz hsz hbyt rfl (by decide) (.slice ra pre.length rc) pre.length us (by rfl) HR3.out ⟨w3.heap.size, 0, none⟩ 1 1 [.slice ua lx uc] (by rfl) (by rfl) (fun j u hu => by rw [Addr.add_mid]; exact range_new w3 [.slice ua lx uc] 24 j u hu) (fun u hu => by simp at hu; subst hu; rfl) (by have := HI.out.1; unfold maxLen; omega) (by have := HI.out.1; omega) (by have := HI.out.2; have := HB3.out.size; simp; omega) ?_
  intro v' w5 hown5 hgr5 hat5
  obtain ⟨g5, c5x, hv5⟩ := ownsRow_succ hown5
  subst hv5
  obtain ⟨x0, x1, x2, x3, x4⟩ := HEND.out w3 w5 _ _ HB3.out HO3.out hown5 hgr5
  have HX : Hid (KeepsFrom W0.heap.size W (w5.setCell ⟨n1, 5, none⟩ (.slice (some ⟨g5, 0, none⟩) (pre.length + 1) c5x)) ∧ KpB n1 (n1 + 2) W (w5.setCell ⟨n1, 5, none⟩ (.slice (some ⟨g5, 0, none⟩) (pre.length + 1) c5x)) ∧ SbI n1 hb (.slice a vs.length c) ls vs (pre ++ [⟨(xi, .slice xa lx xc), hxq⟩]) (w5.setCell ⟨n1, 5, none⟩ (.slice (some ⟨g5, 0, none⟩) (pre.length + 1) c5x)) ∧ Below n1 w1 (w5.setCell ⟨n1, 5, none⟩ (.slice (some ⟨g5, 0, none⟩) (pre.length + 1) c5x))) := ⟨x1, x2, x3, x4⟩
  have x5 := x0.trans HS1.out
  have c5 : w5.cell? ⟨n1, 5, none⟩ = some (.slice ra pre.length rc) := by rw [cell_of_row w5 n1 5 _ 104 (0, 0) x5]; rfl
  have f5 : w5.frozen? ⟨n1, 5, none⟩ = false := frozen_of_row w5 n1 5 _ 104 x5
  obtain ⟨_, _, x6, _⟩ := x3
  have s5' : (w5.setCell ⟨n1, 5, none⟩ (.slice (some ⟨g5, 0, none⟩) (pre.length + 1) c5x)).cell? ⟨n1 + 1, 0, none⟩ = some (.pointer (some ⟨n1, 0, none⟩)) := x6.cell
  have s5 : w5.cell? ⟨n1 + 1, 0, none⟩ = some (.pointer (some ⟨n1, 0, none⟩)) := Boxed.cell ((heap_setCell_other w5 ⟨n1, 5, none⟩ (n1 + 1) _ (by simp)).symm.trans x6)
  clear x0 x1 x2 x4 x5 x6 hown5 hgr5 hat5
  refine hK.out _ _ ?_ (fun hHeld => ?_)
  ·exact s5
  clear hK K
  try simp only [Act.put, qD, qE, qF]
  refine wpAnyH_take (i := 9) (v := ?_) (by simp only [qA, qB, qC]; rfl) (by kernel_rfl) (by kernel_rfl) (by kernel_rfl) (fun _ _ _ h => h) (Or.inl ⟨by rfl, ?_⟩) (by assumption) ?_
  rotate_left
  ·(intro w hSw; (try dsimp only at hSw); go_simp <;> with_reducible rfl)
  try simp only [Act.put, qD, qE, qF]
  refine wpAnyH_take (i := 10) (v := ?_) (by simp only [qA, qB, qC]; rfl) (by kernel_rfl) (by kernel_rfl) (by kernel_rfl) (fun _ _ _ h => h) (Or.inl ⟨by rfl, ?_⟩) (by assumption) ?_
  rotate_left
  ·(intro w hSw; (try dsimp only at hSw); go_simp <;> with_reducible rfl)
  try simp only [Act.put, qD, qE, qF]
  refine wpAnyH_ready (rs := [11]) (by kernel_rfl) (by simp) ?_
  refine AllReadyH.cons (by simp only [qA, qB, qC]; rfl) (fun K hK => ?_) AllReadyH.nil
  go_simp
  refine hK.out _ _ ?_ (fun hHeld => ?_)
  ·exact s5'
  clear hK K
  try simp only [Act.put, qD, qE, qF]
  refine wpAnyH_done (by kernel_rfl) ?_ _
  simp only [OnlyN]
  gi_wp2
  exact ⟨HX.out.1, HX.out.2.1, HX.out.2.2.1, HX.out.2.2.2⟩
 case done =>
  rintro D zs W hD hzs ⟨⟨rv, h1, h2, h3, h4⟩, hB1⟩ hK
  have hg := grownBy_putObj' W D (.deferred none)
  have hr : ∀ r, some D = some r → ∃ o : Obj, W.heap[r]? = some o ∧ o.isCells = false := fun r e => by cases e; exact ⟨_, hK, rfl⟩
  have HS : Hid (SvAt (W.putObj D (.deferred none)) n1 hb (.slice none 0 0) rv 0) := cells_kept hg hr h1
  have HO : Hid (OwnRow (W.putObj D (.deferred none)) n1 rv ls.reverse) := by
   have h5 : (zs.map fun x => lsAt ls x.1) = ls.reverse := by
    have h6 := enB_ls vs ls HV.out.1
    rw [← hzs, List.map_map] at h6
    exact h6
   show OwnRow _ n1 rv ls.reverse
   rw [h5] at h3
   exact ownRow_cells hg hr h3
  have HBW : Hid (Below n1 w1 (W.putObj D (.deferred none))) := hB1.trans (belowK_b (w := W0) (by omega) W D _ _ hD hK rfl rfl)
  have cX := h2.cell
  clear h1 h2 h3 h4 hg hr hzs
  gi_wp2
  refine ⟨by simp, .inl ⟨_, _, rfl, run_takeDeferred hK, ?_⟩⟩
  refine ⟨.pointer (some ⟨n1, 0, none⟩), ?_, ?_⟩
  ·simp [results, Tryz.f59, go_sem]
  ·obtain ⟨k1, k2, k3, k4, k5⟩ := HH.out
   refine ⟨n1, hb, w.heap.size, rv, rfl, HS.out, ?_, ownRow_base HO.out (by omega), k2.trans (HBW.out.mono (by omega)), by omega, k5, Nat.le_refl _⟩
   have e := HBW.out
   rw [← hn1] at e
   exact k1.below e
 case stop =>
  rintro D c pre W hD hpre hF
  exact hF.elim
end Go.Proofs.YtljggjllijacjaaGreatDoor

namespace Go.Proofs.YtljggjllijacjaaGreatDoor
open Go.RowKit
attribute [local go_sem ↓] Go.wp_at_zero Go.wp_at_succ
/-- What was bound and what is left, in memory of one's own. -/
def SvR (B : Nat) (w : World) (bv lv : Value) (bd : List (Nm × List C)) (left : List (List C)) : Prop := ∃ ts us, w.ownsRow B 73 3 bv bd.length (encBd bd ts) ∧ w.ownsRow B 24 1 lv left.length us ∧ ts.length = bd.length ∧ (∀ (j : Nat) (u : Value) (b : Nm × List C), ts[j]? = some u → bd[j]? = some b → OwnT w B u b.2) ∧ (∀ (j : Nat) (u : Value) (l : List C), us[j]? = some u → left[j]? = some l → OwnT w B u l) ∧ Ap ts ∧ Ap us ∧ ∀ t ∈ ts, ∀ u ∈ us, ∀ g, t.ownBlock = some g → u.ownBlock ≠ some g
theorem svR_nil (B : Nat) (w : World) : SvR B w (.slice none 0 0) (.slice none 0 0) [] [] :=
 ⟨[], [], World.ownsRow_nil _ _ _ _, World.ownsRow_nil _ _ _ _, rfl, fun j u b h => by simp at h, fun j u l h => by simp at h, fun j j' x y g _ h => by simp at h, fun j j' x y g _ h => by simp at h, fun t h => by simp at h⟩
section
variable {w w' : World} {B sb hb M : Nat} {m : Hp} {bd : List (Nm × List C)} {row : List (List C)} {d : Nat} {bv rv : Value} {n : Nat} {D : DataW Value} {V : Nat → Prop} {ts us : List Value}
theorem Sc.not_sb (h : Sc w B sb hb M m bd row d bv rv n D V ts us) {k : Nat} {cur : Array Value} {t : TypeId} {fr : Nat × Nat} (ht : t ≠ 104) (hc : w.heap[k]? = some (.cells cur t fr)) : k ≠ sb := fun e => by
 have h1 := h.rc
 unfold SvAt at h1
 rw [e, h1] at hc
 simp only [Option.some.injEq, Obj.cells.injEq] at hc
 exact ht hc.2.1.symm
/-- Told as it stands, the row turned. -/
theorem Sc.toR {lv : Value} (h : Sc w B sb hb M m bd row d bv rv n D V ts us) (hk : ∀ k, k < w.heap.size → k ≠ sb → rv.ownBlock ≠ some k → w'.heap[k]? = w.heap[k]?) (hl : w'.ownsRow B 24 1 lv us.length us.reverse) : SvR B w' bv lv bd row := by
 have hul : us.length = row.length := by have := h.ro.1; omega
 have hty : ∀ (k : Nat) (cur : Array Value) (t : TypeId), t ≠ 104 → t ≠ 24 → w.heap[k]? = some (Obj.cells cur t (0, 0)) → w'.heap[k]? = w.heap[k]? := fun k cur t h1 h2 hc => hk k (Array.getElem?_eq_some_iff.1 hc).1 (h.not_sb h1 hc) fun e => by
  obtain ⟨cu, e2⟩ := own_typed h.ro k e
  rw [e2] at hc
  simp only [Option.some.injEq, Obj.cells.injEq] at hc
  exact h2 hc.2.1.symm
 refine ⟨ts, us.reverse, owns_blocks h.bo fun k cu hc => hty k cu _ (by decide) (by decide) hc, by rw [← hul]; exact hl, h.tl, fun j u b h1 h2 => owns_blocks (h.to j u b h1 h2) fun k cu hc => hty k cu _ (by decide) (by decide) hc, fun j u l h1 h2 => ?_, h.apt, ap_rev h.apu, fun t ht u hu => h.apx t ht u (List.mem_reverse.1 hu)⟩
 have hj : j < us.length := by have := (List.getElem?_eq_some_iff.1 h1).1; simpa using this
 rw [List.getElem?_reverse hj] at h1
 refine owns_blocks (h.uo _ u l h1 ?_) fun k cu hc => hty k cu _ (by decide) (by decide) hc
 rw [List.getElem?_reverse (by omega), hul, show row.length - 1 - (row.length - 1 - j) = j by omega]
 exact h2
end
/-- What solved tells. -/
def SoR (B : Nat) (out : Int) (bd : List (Nm × List C)) (left : List (List C)) (st : Nat) (e : Ending) (w w' : World) : Prop := ∃ ba bn bc la ln lc, e = .returned (.agg #[.int .u8 out, .slice ba bn bc, .slice la ln lc, .int .i64 st]) ∧ Hid (SvR B w' (.slice ba bn bc) (.slice la ln lc) bd left ∧ Below B w w')
set_option maxRecDepth 100000 in
set_option maxHeartbeats 4000000 in
theorem y61_no (B sb hb M n0 : Nat) (s : Sta) (w : World) (hr : s.row = []) (h : Sq w B sb hb M n0 s) :
  Calls Tryz.prog 61 #[.pointer (some ⟨sb, 0, none⟩)] w fun e w' => SoR B 1 s.bd [] s.d e w w' := by
 obtain ⟨bv, rv, n, D, V, ts, us, hn, hsc⟩ := h
 rw [hr] at hsc
 obtain ⟨ba, bc, hbf⟩ := rowv_form' hsc.bo
 obtain ⟨ra, rc, hrf⟩ := rowv_form' hsc.ro
 subst hbf hrf
 have hs := hsc.rc
 obtain ⟨x0, x1, x2, x3, x4, x5⟩ : w.cell? ⟨sb, 0, none⟩ = some (.int .u8 0) ∧ w.cell? ⟨sb, 1, none⟩ = some (.slice ba s.bd.length bc) ∧ w.cell? ⟨sb, 2, none⟩ = some (.slice none 0 0) ∧ w.cell? ⟨sb, 3, none⟩ = some (.int .i64 (s.d : Int)) ∧ w.cell? ⟨sb, 4, none⟩ = some (.pointer (some ⟨hb, 0, none⟩)) ∧ w.cell? ⟨sb, 5, none⟩ = some (.slice ra 0 rc) := by
  refine ⟨?_, ?_, ?_, ?_, ?_, ?_⟩ <;> (rw [cell_of_row w sb _ _ 104 (0, 0) hs]; rfl)
 have f0 : w.frozen? ⟨sb, 0, none⟩ = false := frozen_of_row w sb 0 _ 104 hs
 have hsb : sb < w.heap.size := (Array.getElem?_eq_some_iff.1 hs).1
 have hlow := hsc.low
 have hus : us = [] := List.eq_nil_of_length_eq_zero (by have := hsc.ro.1; simpa using this)
 subst hus
 have HB : Hid (∀ o : Obj, Below B w ((w.setCell ⟨sb, 0, none⟩ (.int .u8 1)).alloc o) ∧ SvR B ((w.setCell ⟨sb, 0, none⟩ (.int .u8 1)).alloc o) (.slice ba s.bd.length bc) (.slice none 0 0) s.bd []) := fun o => ⟨((Below.refl _ w).setCell (p := ⟨sb, 0, none⟩) hlow.1 _).alloc (by simp; omega) o, hsc.toR (fun k h1 h2 _ => (heap_alloc_old _ _ (by simpa using h1)).trans (heap_setCell_other w ⟨sb, 0, none⟩ k _ h2)) (World.ownsRow_nil _ _ _ _)⟩
 obtain ⟨bn, hbn⟩ : ∃ bn, s.bd.length = bn := ⟨_, rfl⟩
 have HBN : Hid (s.bd.length = bn) := hbn
 rw [hbn] at x1
 clear hsc hs hbn
 go_enter Tryz.func61, Tryz.ntmps61
 go_wp2_with fail
 exact bodyPost_ret (v := .agg #[.int .u8 1, .slice ba bn bc, .slice none 0 0, .int .i64 s.d]) (by simp [results, Tryz.results61, go_sem]) rfl ⟨ba, bn, bc, none, 0, 0, rfl, by rw [← HBN.out]; exact (HB.out _).2, (HB.out _).1⟩
set_option maxRecDepth 100000 in
set_option maxHeartbeats 4000000 in
theorem y61_some (B sb hb M n0 : Nat) (s : Sta) (w : World) (hr : s.row ≠ []) (hrl : s.row.length ≤ 1000000000) (h : Sq w B sb hb M n0 s) :
  Calls Tryz.prog 61 #[.pointer (some ⟨sb, 0, none⟩)] w fun e w' => SoR B 3 s.bd s.row s.d e w w' := by
 obtain ⟨bv, rv, n, D, V, ts, us, hn, hsc⟩ := h
 obtain ⟨ba, bc, hbf⟩ := rowv_form' hsc.bo
 obtain ⟨ra, rc, hrf⟩ := rowv_form' hsc.ro
 subst hbf hrf
 have hs := hsc.rc
 have hul : us.length = s.row.length := by have := hsc.ro.1; omega
 have hpos : 0 < s.row.length := List.length_pos_iff.2 hr
 obtain ⟨bn, hbn⟩ : ∃ bn, s.bd.length = bn := ⟨_, rfl⟩
 obtain ⟨rn, hrn⟩ : ∃ rn, s.row.length = rn := ⟨_, rfl⟩
 obtain ⟨x0, x1, x2, x3, x4, x5⟩ : w.cell? ⟨sb, 0, none⟩ = some (.int .u8 0) ∧ w.cell? ⟨sb, 1, none⟩ = some (.slice ba bn bc) ∧ w.cell? ⟨sb, 2, none⟩ = some (.slice none 0 0) ∧ w.cell? ⟨sb, 3, none⟩ = some (.int .i64 (s.d : Int)) ∧ w.cell? ⟨sb, 4, none⟩ = some (.pointer (some ⟨hb, 0, none⟩)) ∧ w.cell? ⟨sb, 5, none⟩ = some (.slice ra rn rc) := by
  rw [← hbn, ← hrn]
  refine ⟨?_, ?_, ?_, ?_, ?_, ?_⟩ <;> (rw [cell_of_row w sb _ _ 104 (0, 0) hs]; rfl)
 have f0 : w.frozen? ⟨sb, 0, none⟩ = false := frozen_of_row w sb 0 _ 104 hs
 have hsb : sb < w.heap.size := (Array.getElem?_eq_some_iff.1 hs).1
 rw [hrn] at hpos hrl
 have hposI : (0 : Int) < (rn : Int) := by omega
 have HN : Hid (s.bd.length = bn ∧ s.row.length = rn ∧ us.length = rn) := ⟨hbn, hrn, by omega⟩
 have HSC : Hid (Sc w B sb hb M s.m s.bd s.row s.d (.slice ba s.bd.length bc) (.slice ra s.row.length rc) n D V ts us) := hsc
 clear hsc hs hbn hrn hul hr
 go_enter Tryz.func61, Tryz.ntmps61
 go_wp2_with fail
 obtain ⟨W1, hW1⟩ : ∃ W, ((w.setCell ⟨sb, 0, none⟩ (.int .u8 1)).setCell ⟨sb, 0, none⟩ (.int .u8 3)).alloc (.cells #[.int .u8 0, .slice none 0 0, .slice none 0 0, .int .i64 0] 62) = W := ⟨_, rfl⟩
 have HW1 : Hid ((∀ k, k < w.heap.size → k ≠ sb → W1.heap[k]? = w.heap[k]?) ∧ W1.heap[sb]? = some (.cells #[.int .u8 3, .slice ba bn bc, .slice none 0 0, .int .i64 (s.d : Int), .pointer (some ⟨hb, 0, none⟩), .slice ra rn rc] 104 (0, 0)) ∧ W1.heap[w.heap.size]? = some (.cells #[.int .u8 0, .slice none 0 0, .slice none 0 0, .int .i64 0] 62 (0, 0)) ∧ Below B w W1 ∧ W1.heap.size = w.heap.size + 1) := by
  have hlow := HSC.out.low
  have hs := HSC.out.rc
  rw [HN.out.1, HN.out.2.1] at hs
  subst hW1
  refine ⟨fun k h1 h2 => (heap_alloc_old _ _ (by simpa using h1)).trans ((heap_setCell_other _ ⟨sb, 0, none⟩ k _ h2).trans (heap_setCell_other w ⟨sb, 0, none⟩ k _ h2)), ?_, ?_, (((Below.refl _ w).setCell (p := ⟨sb, 0, none⟩) hlow.1 _).setCell (p := ⟨sb, 0, none⟩) hlow.1 _).alloc (by simp; omega) _, by simp⟩
  ·rw [heap_alloc_old _ _ (by simpa using hsb), heap_setCell_same _ sb 0 _ 104 _ (heap_setCell_same w sb 0 _ 104 _ hs)]
   rfl
  ·have := heap_alloc_new ((w.setCell ⟨sb, 0, none⟩ (.int .u8 1)).setCell ⟨sb, 0, none⟩ (.int .u8 3)) (.cells #[.int .u8 0, .slice none 0 0, .slice none 0 0, .int .i64 0] 62)
   simpa using this
 rw [hW1]
 clear hW1 x0 x1 x2 x3 x4 x5 f0
 have HU : Hid (∀ u ∈ us, ∃ a n c, u = .slice a n c) := by
  intro u hu
  obtain ⟨j, hj, rfl⟩ := List.getElem_of_mem hu
  have h1 := HSC.out.uo j _ _ (List.getElem?_eq_getElem hj) (List.getElem?_eq_getElem (by rw [List.length_reverse, HN.out.2.1, ← HN.out.2.2]; exact hj))
  obtain ⟨a, c, e⟩ := rowv_form' h1
  exact ⟨a, _, c, e⟩
 have HO1 : Hid (W1.ownsRow B 24 1 (.slice ra rn rc) us.length us) := by
  have h1 := HSC.out.ro
  rw [HN.out.2.1] at h1
  rw [HN.out.2.2]
  exact owns_blocks h1 fun k cu hc => HW1.out.1 k (Array.getElem?_eq_some_iff.1 hc).1 (HSC.out.not_sb (by decide) hc)
 have H90 := rv90 B (.slice ra rn rc) us W1 HO1.out HU.out
 refine H90.mono ?_
 rintro e w2 ⟨rfl, H2⟩
 clear H90
 obtain ⟨rz, hrz⟩ : ∃ rz, w.heap.size = rz := ⟨_, rfl⟩
 have HT2 : Hid ((∀ (k : Nat) (cu : Array Value) (t : TypeId) (fr : Nat × Nat), t ≠ 24 → W1.heap[k]? = some (Obj.cells cu t fr) → w2.heap[k]? = some (Obj.cells cu t fr)) ∧ (∀ k, k < W1.heap.size → (Value.slice ra rn rc).ownBlock ≠ some k → w2.heap[k]? = W1.heap[k]?) ∧ W1.heap.size ≤ w2.heap.size ∧ Below B W1 w2 ∧ w.heap.size = rz) := by
  have hgr := H2.out.2
  have hz1 := HW1.out.2.2.2.2
  have hlow := HSC.out.low
  refine ⟨fun k cu t fr ht hc => (hgr.block k (Array.getElem?_eq_some_iff.1 hc).1 fun e => ?_).trans hc, fun k hk hne => hgr.block k hk fun e => hne e.symm, hgr.size, (Below.refl B W1).grown hgr (by omega) (fun z hz => (HO1.out.lt z hz).1), hrz⟩
  obtain ⟨cu', e2⟩ := own_typed HO1.out k e.symm
  rw [e2] at hc
  simp only [Option.some.injEq, Obj.cells.injEq] at hc
  exact ht hc.2.1.symm
 have hs2 := HT2.out.1 sb _ _ _ (by decide) HW1.out.2.1
 have hr2 := HT2.out.1 _ _ _ _ (by decide) HW1.out.2.2.1
 rw [hrz] at hr2
 obtain ⟨x0, x1, x2, x3, x4, x5⟩ : w2.cell? ⟨sb, 0, none⟩ = some (.int .u8 3) ∧ w2.cell? ⟨sb, 1, none⟩ = some (.slice ba bn bc) ∧ w2.cell? ⟨sb, 2, none⟩ = some (.slice none 0 0) ∧ w2.cell? ⟨sb, 3, none⟩ = some (.int .i64 (s.d : Int)) ∧ w2.cell? ⟨sb, 4, none⟩ = some (.pointer (some ⟨hb, 0, none⟩)) ∧ w2.cell? ⟨sb, 5, none⟩ = some (.slice ra rn rc) := by
  refine ⟨?_, ?_, ?_, ?_, ?_, ?_⟩ <;> (rw [cell_of_row w2 sb _ _ 104 (0, 0) hs2]; rfl)
 obtain ⟨y0, y1, y2, y3⟩ : w2.cell? ⟨rz, 0, none⟩ = some (.int .u8 0) ∧ w2.cell? ⟨rz, 1, none⟩ = some (.slice none 0 0) ∧ w2.cell? ⟨rz, 2, none⟩ = some (.slice none 0 0) ∧ w2.cell? ⟨rz, 3, none⟩ = some (.int .i64 0) := by
  refine ⟨?_, ?_, ?_, ?_⟩ <;> (rw [cell_of_row w2 rz _ _ 62 (0, 0) hr2]; rfl)
 have f2 : w2.frozen? ⟨sb, 2, none⟩ = false := frozen_of_row w2 sb 2 _ 104 hs2
 have g0 : w2.frozen? ⟨rz, 0, none⟩ = false := frozen_of_row w2 rz 0 _ 62 hr2
 have g1 : w2.frozen? ⟨rz, 1, none⟩ = false := frozen_of_row w2 rz 1 _ 62 hr2
 have g2 : w2.frozen? ⟨rz, 2, none⟩ = false := frozen_of_row w2 rz 2 _ 62 hr2
 have g3 : w2.frozen? ⟨rz, 3, none⟩ = false := frozen_of_row w2 rz 3 _ 62 hr2
 have hsr : ¬ sb = rz := by omega
 have hrs : ¬ rz = sb := by omega
 have HF : Hid (∀ a b c d, SvR B (((((w2.setCell ⟨sb, 2, none⟩ (.slice ra rn rc)).setCell ⟨rz, 0, none⟩ a).setCell ⟨rz, 1, none⟩ b).setCell ⟨rz, 2, none⟩ c).setCell ⟨rz, 3, none⟩ d) (.slice ba bn bc) (.slice ra rn rc) s.bd s.row ∧ Below B w (((((w2.setCell ⟨sb, 2, none⟩ (.slice ra rn rc)).setCell ⟨rz, 0, none⟩ a).setCell ⟨rz, 1, none⟩ b).setCell ⟨rz, 2, none⟩ c).setCell ⟨rz, 3, none⟩ d)) := by
  intro a b c d
  have hlow := HSC.out.low
  have hz2 := HT2.out.2.2.1
  have hz1 := HW1.out.2.2.2.2
  have keep : ∀ k, k ≠ sb → k ≠ rz → (((((w2.setCell ⟨sb, 2, none⟩ (.slice ra rn rc)).setCell ⟨rz, 0, none⟩ a).setCell ⟨rz, 1, none⟩ b).setCell ⟨rz, 2, none⟩ c).setCell ⟨rz, 3, none⟩ d).heap[k]? = w2.heap[k]? := fun k h1 h2 => by
   rw [heap_setCell_other _ ⟨rz, 3, none⟩ k _ h2, heap_setCell_other _ ⟨rz, 2, none⟩ k _ h2, heap_setCell_other _ ⟨rz, 1, none⟩ k _ h2, heap_setCell_other _ ⟨rz, 0, none⟩ k _ h2, heap_setCell_other _ ⟨sb, 2, none⟩ k _ h1]
  have hBr : B ≤ rz := by omega
  refine ⟨?_, (((((HW1.out.2.2.2.1.trans HT2.out.2.2.2.1).setCell (p := ⟨sb, 2, none⟩) hlow.1 _).setCell (p := ⟨rz, 0, none⟩) hBr _).setCell (p := ⟨rz, 1, none⟩) hBr _).setCell (p := ⟨rz, 2, none⟩) hBr _).setCell (p := ⟨rz, 3, none⟩) hBr _⟩
  have h1 := HSC.out
  rw [HN.out.1, HN.out.2.1] at h1
  refine h1.toR (fun k k1 k2 k3 => (keep k k2 (by omega)).trans ((HT2.out.2.1 k (by omega) k3).trans (HW1.out.1 k k1 k2))) ?_
  refine owns_blocks H2.out.1 fun k cu hc => keep k (fun e => ?_) fun e => ?_
  ·rw [e, hs2] at hc
   simp at hc
  ·rw [e, hr2] at hc
   simp at hc
 have HE : Hid (s.row.length = rn ∧ s.bd.length = bn) := ⟨HN.out.2.1, HN.out.1⟩
 clear hs2 hr2 H2 HO1 HU HW1 HT2 HSC hsb
 rw [hrz]
 clear hrz
 go_wp2_with fail
 exact bodyPost_ret (v := .agg #[.int .u8 3, .slice ba bn bc, .slice ra rn rc, .int .i64 s.d]) (by simp [results, Tryz.results61, go_sem, y0, y1, y2, y3]) rfl ⟨ba, bn, bc, ra, rn, rc, rfl, (HF.out _ _ _ _).1, (HF.out _ _ _ _).2⟩
end Go.Proofs.YtljggjllijacjaaGreatDoor

namespace Go.Proofs.YtljggjllijacjaaGreatDoor
open Go.RowKit
attribute [local go_sem ↓] Go.wp_at_zero Go.wp_at_succ
/-- A map, or none, of at most so many values. -/
def HpQ (w : World) (p : Value) (m : Hp) (n0 : Nat) : Prop := (p = .pointer none ∧ m = []) ∨ ∃ h0 M0 n D, ∃ V : Nat → Prop, p = .pointer (some ⟨h0, 0, none⟩) ∧ HpAt w h0 M0 n D m ∧ VB D V ∧ (∀ g, V g → g < w.heap.size) ∧ n ≤ n0
theorem HpQ.below {w w' : World} {p : Value} {m : Hp} {n0 : Nat} (h : HpQ w p m n0) (hb : Below w.heap.size w w') : HpQ w' p m n0 := by
 rcases h with h | ⟨h0, M0, n, D, V, h1, h2, h3, h4, h5⟩
 ·exact .inl h
 ·exact .inr ⟨h0, M0, n, D, V, h1, h2.below hb, h3, fun g hg => Nat.lt_of_lt_of_le (h4 g hg) hb.size, h5⟩
/-- What is to be solved, at its start. -/
def Sta0 (m : Hp) (ls : List (List C)) : Sta := ⟨m, ls, [], 0⟩
theorem sq_start {w w' : World} {m : Hp} {ls : List (List C)} {sb hb M n n0 : Nat} {D : DataW Value} {V : Nat → Prop} {rv : Value} (hn : n ≤ n0) (h1 : SvAt w' sb hb (.slice none 0 0) rv 0) (h2 : HpAt w' hb M n D m) (h3 : OwnRow w' w.heap.size rv ls.reverse) (hbel : Below w.heap.size w w') (l1 : w.heap.size ≤ sb) (l2 : w.heap.size ≤ hb) (l3 : w.heap.size ≤ M) (hV : VB D V) (hVl : ∀ g, V g → g < w.heap.size) : Sq w' w.heap.size sb hb M n0 (Sta0 m ls) := by
 obtain ⟨us, o1, o2, o3⟩ := h3
 rw [List.length_reverse] at o1
 refine ⟨.slice none 0 0, rv, n, D, V, [], us, hn, ⟨h1, World.ownsRow_nil _ _ _ _, o1, rfl, fun j u b h => by simp at h, o2, fun j j' x y g _ h => by simp at h, o3, fun t h => by simp at h, h2, hV, fun g hg => ?_, l1, l2, l3, hbel.size⟩⟩
 have h4 := hVl g hg
 refine ⟨by have := hbel.size; omega, by omega, by simp [Value.ownBlock], fun e => ?_⟩
 have := (o1.lt g e).1
 omega
theorem z59all (m : Hp) (p : Value) (n0 : Nat) (ls : List (List C)) (v : Value) (w : World) (hp : HpQ w p m n0) (h : RowAt w v ls) (hby : ∀ l ∈ ls, l.length * 48 ≤ 140737488355328) (hln : ls.length * 24 ≤ 140737488355328) :
  Calls Tryz.prog 59 #[p, v] w fun e w' => ∃ sb hb M, e = .returned (.pointer (some ⟨sb, 0, none⟩)) ∧ Hid (Sq w' w.heap.size sb hb M n0 (Sta0 m ls) ∧ Below w.heap.size w w') := by
 rcases hp with ⟨rfl, rfl⟩ | ⟨h0, M0, n, D, V, rfl, h2, h3, h4, h5⟩
 ·refine (u48 ls v w h hby hln).mono ?_
  rintro e w' ⟨sb, hb, M, rv, rfl, k1, k2, k3, k4, k5, k6, k7⟩
  refine ⟨sb, hb, M, rfl, sq_start (V := fun _ => False) (Nat.zero_le _) k1 k2 k3 k4 k5 k6 k7 (fun x v hx hv g hg => ?_) (fun g hg => hg.elim), k4⟩
  have e1 := Maps.has_true_of_atKey hv
  rw [k2.no x hx rfl] at e1
  simp at e1
 ·refine (z59 m h0 M0 n D ls v w h2 h hby hln).mono ?_
  rintro e w' ⟨sb, hb, M, rv, rfl, k1, k2, k3, k4, k5, k6, k7⟩
  exact ⟨sb, hb, M, rfl, sq_start h5 k1 k2 k3 k4 k5 k6 k7 h3 h4, k4⟩
theorem svR_keep {B : Nat} {w w' : World} {bv lv : Value} {bd : List (Nm × List C)} {left : List (List C)} (h : SvR B w bv lv bd left) (hk : ∀ k, B ≤ k → w'.heap[k]? = w.heap[k]?) : SvR B w' bv lv bd left := by
 obtain ⟨ts, us, h1, h2, h3, h4, h5, h6⟩ := h
 have ho : ∀ {e s n : Nat} {v : Value} {xs : List Value}, w.ownsRow B e s v n xs → w'.ownsRow B e s v n xs := fun {e s n v xs} h => owns_eq2 h fun g hg => hk g (h.lt g hg).1
 exact ⟨ts, us, ho h1, ho h2, h3, fun j u b k1 k2 => ho (h4 j u b k1 k2), fun j u l k1 k2 => ho (h5 j u l k1 k2), h6⟩
theorem svR_base {B B' : Nat} {w : World} {bv lv : Value} {bd : List (Nm × List C)} {left : List (List C)} (h : SvR B w bv lv bd left) (hb : B' ≤ B) : SvR B' w bv lv bd left := by
 obtain ⟨ts, us, h1, h2, h3, h4, h5, h6⟩ := h
 exact ⟨ts, us, rows_base h1 hb, rows_base h2 hb, h3, fun j u b k1 k2 => rows_base (h4 j u b k1 k2) hb, fun j u l k1 k2 => rows_base (h5 j u l k1 k2) hb, h6⟩
/-- What comes of equations. -/
noncomputable def slvF (m : Hp) (ls : List (List C)) (N : Int) : Sol := if ls.any noneB then ⟨2, [], [], 0⟩ else solF N.toNat (Sta0 m ls)
/-- The box of the answer, and what stays ahead of it. -/
structure Bx (w : World) (rz : Nat) (wn : World) : Prop where
 blk : wn.heap[rz]? = some (.cells #[.int .u8 0, .slice none 0 0, .slice none 0 0, .int .i64 0] 62 (0, 0))
 bel : Below w.heap.size w wn
 low : w.heap.size = rz
theorem Bx.cells {w wn : World} {rz : Nat} (h : Bx w rz wn) : (wn.cell? ⟨rz, 0, none⟩ = some (.int .u8 0) ∧ wn.cell? ⟨rz, 1, none⟩ = some (.slice none 0 0) ∧ wn.cell? ⟨rz, 2, none⟩ = some (.slice none 0 0) ∧ wn.cell? ⟨rz, 3, none⟩ = some (.int .i64 0)) ∧ wn.frozen? ⟨rz, 0, none⟩ = false ∧ wn.frozen? ⟨rz, 1, none⟩ = false ∧ wn.frozen? ⟨rz, 2, none⟩ = false ∧ wn.frozen? ⟨rz, 3, none⟩ = false := by
 refine ⟨⟨?_, ?_, ?_, ?_⟩, frozen_of_row wn rz 0 _ 62 h.blk, frozen_of_row wn rz 1 _ 62 h.blk, frozen_of_row wn rz 2 _ 62 h.blk, frozen_of_row wn rz 3 _ 62 h.blk⟩ <;> (rw [cell_of_row wn rz _ _ 62 (0, 0) h.blk]; rfl)
theorem Bx.next {w wn wm : World} {rz B : Nat} (h : Bx w rz wn) (hb : Below B wn wm) (hB : rz < B) : Bx w rz wm := by
 have h1 := h.low
 exact ⟨(hb.block rz hB).trans h.blk, h.bel.trans (hb.mono (by omega)), h1⟩
theorem Bx.fill {w wn : World} {rz : Nat} (h : Bx w rz wn) (a b c d : Value) : Below w.heap.size w ((((wn.setCell ⟨rz, 0, none⟩ a).setCell ⟨rz, 1, none⟩ b).setCell ⟨rz, 2, none⟩ c).setCell ⟨rz, 3, none⟩ d) ∧ ∀ k, k ≠ rz → ((((wn.setCell ⟨rz, 0, none⟩ a).setCell ⟨rz, 1, none⟩ b).setCell ⟨rz, 2, none⟩ c).setCell ⟨rz, 3, none⟩ d).heap[k]? = wn.heap[k]? := by
 have h1 : w.heap.size ≤ rz := Nat.le_of_eq h.low
 refine ⟨(((h.bel.setCell (p := ⟨rz, 0, none⟩) h1 a).setCell (p := ⟨rz, 1, none⟩) h1 b).setCell (p := ⟨rz, 2, none⟩) h1 c).setCell (p := ⟨rz, 3, none⟩) h1 d, fun k hk => ?_⟩
 rw [heap_setCell_other _ ⟨rz, 3, none⟩ k _ hk, heap_setCell_other _ ⟨rz, 2, none⟩ k _ hk, heap_setCell_other _ ⟨rz, 1, none⟩ k _ hk, heap_setCell_other _ ⟨rz, 0, none⟩ k _ hk]
theorem solF_none {g : Nat} {s : Sta} (h : s.row = []) : solF g s = ⟨1, s.bd, [], s.d⟩ := by
 cases g <;> (unfold solF; rw [h])
theorem solF_zero {s : Sta} {t : List C} {r : List (List C)} (h : s.row = t :: r) : solF 0 s = ⟨3, s.bd, t :: r, s.d⟩ := by
 unfold solF; rw [h]
theorem solF_clash {g : Nat} {s : Sta} {t : List C} {r : List (List C)} (h : s.row = t :: r) (hk : (nxK s t).k = 4) : solF (g + 1) s = ⟨2, [], [], s.d + 1⟩ := by
 unfold solF; rw [h]; simp [hk]
theorem solF_next {g : Nat} {s : Sta} {t : List C} {r : List (List C)} (h : s.row = t :: r) (hk : (nxK s t).k ≠ 4) : solF (g + 1) s = solF g (nxS s t r) := by
 conv => lhs; unfold solF
 rw [h]; simp [hk]
/-- The record's cells. -/
theorem Sq.cells {w : World} {B sb hb M n0 : Nat} {s : Sta} (h : Sq w B sb hb M n0 s) : ∃ bv ra rc, (w.cell? ⟨sb, 0, none⟩ = some (.int .u8 0) ∧ w.cell? ⟨sb, 1, none⟩ = some bv ∧ w.cell? ⟨sb, 2, none⟩ = some (.slice none 0 0) ∧ w.cell? ⟨sb, 3, none⟩ = some (.int .i64 (s.d : Int)) ∧ w.cell? ⟨sb, 4, none⟩ = some (.pointer (some ⟨hb, 0, none⟩)) ∧ w.cell? ⟨sb, 5, none⟩ = some (.slice ra s.row.length rc)) := by
 obtain ⟨bv, rv, n, D, V, ts, us, hn, hsc⟩ := h
 obtain ⟨ra, rc, hrf⟩ := rowv_form' hsc.ro
 subst hrf
 have hs := hsc.rc
 refine ⟨bv, ra, rc, ?_, ?_, ?_, ?_, ?_, ?_⟩ <;> (rw [cell_of_row w sb _ _ 104 (0, 0) hs]; rfl)
set_option maxRecDepth 100000 in
set_option maxHeartbeats 8000000 in
theorem y20 (m : Hp) (p : Value) (n0 : Nat) (N : Int) (ls : List (List C)) (v : Value) (w : World) (hp : HpQ w p m n0) (hW : HpW m) (h : RowAt w v ls) (hwf : ∀ l ∈ ls, WfT l) (hby : ∀ l ∈ ls, l.length * 48 ≤ 140737488355328) (hln : ls.length ≤ n0) (hn0 : n0 ≤ 100000000) (hS : Signs w) (hN : N ≤ 100000) :
  Calls Tryz.prog 20 #[p, .int .i64 N, v] w fun e w' => SoR w.heap.size (slvF m ls N).out (slvF m ls N).bd (slvF m ls N).left (slvF m ls N).st e w w' := by
 have hpf : ∃ q, p = .pointer q := by
  rcases hp with ⟨h, _⟩ | ⟨_, _, _, _, _, h, _⟩ <;> exact ⟨_, h⟩
 obtain ⟨pq, rfl⟩ := hpf
 obtain ⟨a, c, hf⟩ := h.form
 subst hf
 obtain ⟨SOL, hSOL⟩ : ∃ x, slvF m ls N = x := ⟨_, rfl⟩
 have HX : Hid (slvF m ls N = SOL) := hSOL
 rw [hSOL]
 clear hSOL
 have HB0 : Hid (Below w.heap.size w (w.alloc (.cells #[.int .u8 0, .slice none 0 0, .slice none 0 0, .int .i64 0] 62)) ∧ (w.alloc (.cells #[.int .u8 0, .slice none 0 0, .slice none 0 0, .int .i64 0] 62)).heap[w.heap.size]? = some (.cells #[.int .u8 0, .slice none 0 0, .slice none 0 0, .int .i64 0] 62 (0, 0)) ∧ (w.alloc (.cells #[.int .u8 0, .slice none 0 0, .slice none 0 0, .int .i64 0] 62)).heap.size = w.heap.size + 1) := ⟨below_alloc _ _, heap_alloc_new w _, by simp⟩
 have HV : Hid (HpQ w (.pointer pq) m n0 ∧ HpW m ∧ RowAt w (.slice a ls.length c) ls ∧ (∀ l ∈ ls, WfT l) ∧ (∀ l ∈ ls, l.length * 48 ≤ 140737488355328) ∧ ls.length ≤ n0 ∧ Signs w) := ⟨hp, hW, h, hwf, hby, hln, hS⟩
 have H57 : Calls Tryz.prog 57 #[.slice a ls.length c, .func (.func 58) #[] #[]] (w.alloc (.cells #[.int .u8 0, .slice none 0 0, .slice none 0 0, .int .i64 0] 62)) fun e w' => e = .returned (.bool (ls.any noneB)) ∧ Below (w.alloc (.cells #[.int .u8 0, .slice none 0 0, .slice none 0 0, .int .i64 0] 62)).heap.size (w.alloc (.cells #[.int .u8 0, .slice none 0 0, .slice none 0 0, .int .i64 0] 62)) w' := u46 ls _ _ (h.below HB0.out.1) (hS.below HB0.out.1)
 obtain ⟨q, hq⟩ : ∃ q, ls.length = q := ⟨_, rfl⟩
 have HQ : Hid (ls.length = q) := hq
 rw [hq] at H57
 rw [hq]
 clear hp hW h hwf hby hln hS hq
 go_enter Tryz.func20, Tryz.ntmps20
 go_wp2_with fail
 obtain ⟨W0, hW0⟩ : ∃ W0, w.alloc (.cells #[.int .u8 0, .slice none 0 0, .slice none 0 0, .int .i64 0] 62) = W0 := ⟨_, rfl⟩
 obtain ⟨rz, hrz⟩ : ∃ rz, w.heap.size = rz := ⟨_, rfl⟩
 rw [hW0] at H57 HB0 ⊢
 rw [hrz]
 have HBX : Hid (Bx w rz W0 ∧ W0.heap.size = rz + 1) := ⟨⟨by rw [← hrz]; exact HB0.out.2.1, HB0.out.1, hrz⟩, by rw [← hrz]; exact HB0.out.2.2⟩
 clear hW0 HB0 hrz
 refine H57.mono ?_
 rintro e w1 ⟨rfl, hb1⟩
 clear H57
 have HB1 : Hid (Bx w rz w1 ∧ rz < w1.heap.size) := ⟨HBX.out.1.next hb1 (by have := HBX.out.2; omega), by have := hb1.size; have := HBX.out.2; omega⟩
 clear hb1 HBX
 cases hany : ls.any noneB
 ·have HSN : Hid (solF N.toNat (Sta0 m ls) = SOL) := by
   have h := HX.out
   unfold slvF at h
   rw [hany] at h
   exact h
  have HOk : Hid (StaOk (Sta0 m ls) n0) := by
   refine ⟨HV.out.2.1, fun t ht => ⟨?_, HV.out.2.2.2.1 t ht⟩, fun b hb => (by cases hb), (by have := HV.out.2.2.2.2.2.1; show ls.length ≤ n0 + 8 * 0; omega), Nat.le_refl _⟩
   have h1 : noneB t = false := by
    cases h2 : noneB t
    ·rfl
    ·have h3 : ls.any noneB = true := List.any_eq_true.2 ⟨t, ht, h2⟩
     rw [h3] at hany
     cases hany
   unfold noneB at h1
   simp only [Bool.or_eq_false_iff, Bool.not_eq_false'] at h1
   exact sht_right (global_right h1.1)
  have H59 : Calls Tryz.prog 59 #[.pointer pq, .slice a q c] w1 fun e w' => ∃ sb hb M, e = .returned (.pointer (some ⟨sb, 0, none⟩)) ∧ Hid (Sq w' w1.heap.size sb hb M n0 (Sta0 m ls) ∧ Below w1.heap.size w1 w') := by
   have hl := HV.out.2.2.2.2.2.1
   have h := z59all m (.pointer pq) n0 ls _ w1 (HV.out.1.below HB1.out.1.bel) (HV.out.2.2.1.below HB1.out.1.bel) HV.out.2.2.2.2.1 (by omega)
   rw [HQ.out] at h
   exact h
  have HSg : Hid (Signs w1) := HV.out.2.2.2.2.2.2.below HB1.out.1.bel
  clear HX HV hany HQ
  go_wp2_with fail
  refine H59.mono ?_
  rintro e w2 ⟨sb, hb, M, rfl, H2⟩
  clear H59
  obtain ⟨B, hB⟩ : ∃ B, w1.heap.size = B := ⟨_, rfl⟩
  have HB2 : Hid (Sq w2 B sb hb M n0 (Sta0 m ls) ∧ Bx w rz w2 ∧ rz < B ∧ Signs w2 ∧ B ≤ w2.heap.size) := by
   rw [← hB]
   exact ⟨H2.out.1, HB1.out.1.next H2.out.2 HB1.out.2, HB1.out.2, HSg.out.below H2.out.2, H2.out.2.size⟩
  clear H2 HB1 HSg hB
  go_wp2_with fail
  go_loopg [] (N.toNat) (fun gg wr => ∃ s : Sta, s.d + gg = N.toNat ∧ Hid (Sq wr B sb hb M n0 s ∧ StaOk s n0 ∧ solF gg s = SOL ∧ Below B w2 wr))
  case atStart => exact ⟨Sta0 m ls, Nat.zero_add _, HB2.out.1, HOk.out, HSN.out, Below.refl _ _⟩
  case round =>
   obtain ⟨s, hsg, HI⟩ := hrel
   obtain ⟨bv, ra, rc, x0, x1, x2, x3, x4, x5⟩ := HI.out.1.cells
   cases hrow : s.row with
   | nil =>
    have H61 := y61_no B sb hb M n0 s wr hrow HI.out.1
    rw [hrow] at x5
    simp only [List.length_nil] at x5
    have HSO : Hid (SOL = ⟨1, s.bd, [], s.d⟩) := HI.out.2.2.1.symm.trans (solF_none hrow)
    clear hrow
    go_wp2_with fail
    refine H61.mono ?_
    rintro e w5 ⟨ba, bn, bc, la, ln, lc, rfl, H5⟩
    have HB5 : Hid (Bx w rz w5) := (HB2.out.2.1.next (HI.out.2.2.2.trans H5.out.2) HB2.out.2.2.1)
    obtain ⟨⟨y0, y1, y2, y3⟩, g0, g1, g2, g3⟩ := HB5.out.cells
    clear H61 x0 x1 x2 x3 x4 x5
    go_wp2_with fail
    refine bodyPost_ret (v := .agg #[.int .u8 1, .slice ba bn bc, .slice la ln lc, .int .i64 (s.d : Int)]) (by simp [results, Tryz.results20, go_sem, y0, y1, y2, y3]) rfl ?_
    rw [HSO.out]
    have hlow := HB5.out.low
    have hrB := HB2.out.2.2.1
    exact ⟨ba, bn, bc, la, ln, lc, rfl, svR_base (svR_keep H5.out.1 fun k hk => (HB5.out.fill _ _ _ _).2 k (by omega)) (by omega), (HB5.out.fill _ _ _ _).1⟩
   | cons t r =>
    obtain ⟨q1, hq1⟩ : ∃ q1, s.row.length = q1 := ⟨_, rfl⟩
    have hq1p : (0 : Int) < (q1 : Int) := by rw [hrow] at hq1; simp at hq1; omega
    have hOk := HI.out.2.1
    have hq1l : q1 ≤ 1000000000 := by have := hOk.len; omega
    rw [hq1] at x5
    cases gk with
    | zero =>
     have H61 := y61_some B sb hb M n0 s wr (by rw [hrow]; simp) (by omega) HI.out.1
     have hnl : ¬ (s.d : Int) < N := by omega
     have HSO : Hid (SOL = ⟨3, s.bd, s.row, s.d⟩) := by
      have h := HI.out.2.2.1.symm.trans (solF_zero hrow)
      rw [hrow]
      exact h
     clear hrow hq1 hOk
     go_wp2_with fail
     refine H61.mono ?_
     rintro e w5 ⟨ba, bn, bc, la, ln, lc, rfl, H5⟩
     have HB5 : Hid (Bx w rz w5) := (HB2.out.2.1.next (HI.out.2.2.2.trans H5.out.2) HB2.out.2.2.1)
     obtain ⟨⟨y0, y1, y2, y3⟩, g0, g1, g2, g3⟩ := HB5.out.cells
     clear H61 x0 x1 x2 x3 x4 x5
     go_wp2_with fail
     refine bodyPost_ret (v := .agg #[.int .u8 3, .slice ba bn bc, .slice la ln lc, .int .i64 (s.d : Int)]) (by simp [results, Tryz.results20, go_sem, y0, y1, y2, y3]) rfl ?_
     rw [HSO.out]
     have hlow := HB5.out.low
     have hrB := HB2.out.2.2.1
     exact ⟨ba, bn, bc, la, ln, lc, rfl, svR_base (svR_keep H5.out.1 fun k hk => (HB5.out.fill _ _ _ _).2 k (by omega)) (by omega), (HB5.out.fill _ _ _ _).1⟩
    | succ gg =>
     have hnl : (s.d : Int) < N := by omega
     have H60 := y60 B sb hb M n0 s t r wr hrow hOk HI.out.1 (signs_low HB2.out.2.2.2.1 HI.out.2.2.2 (by have := HB2.out.2.2.1; omega) HB2.out.2.2.2.2) (by have := HB2.out.2.2.1; omega) (by omega) hn0
     have HN : Hid (s.row = t :: r) := hrow
     clear hrow hq1 hOk
     cases hk4 : ((nxK s t).k == 4)
     ·have hne : (nxK s t).k ≠ 4 := by simpa using hk4
      rw [hk4] at H60
      have HNX : Hid (solF gg (nxS s t r) = SOL ∧ StaOk (nxS s t r) n0 ∧ (nxS s t r).d = s.d + 1 ∧ (nxK s t).k ≠ 4) := ⟨(solF_next HN.out hne).symm.trans HI.out.2.2.1, HI.out.2.1.next HN.out, rfl, hne⟩
      clear hk4 hne
      go_wp2_with fail
      refine H60.mono ?_
      rintro e w5 ⟨rfl, hb5, hq5, _⟩
      have HQ5 : Hid (Sq w5 B sb hb M n0 (nxS s t r) ∧ Below B w2 w5) := ⟨hq5 HNX.out.2.2.2, HI.out.2.2.2.trans hb5⟩
      clear H60 hb5 hq5 x0 x1 x2 x3 x4 x5
      go_wp2_with fail
      go_roundg gg
      case rel => exact ⟨nxS s t r, by have := HNX.out.2.2.1; omega, HQ5.out.1, HNX.out.2.1, HNX.out.1, HQ5.out.2⟩
      case measure => omega
     ·have hne : (nxK s t).k = 4 := by simpa using hk4
      rw [hk4] at H60
      have HSO : Hid (SOL = ⟨2, [], [], s.d + 1⟩ ∧ (nxK s t).k = 4) := ⟨HI.out.2.2.1.symm.trans (solF_clash HN.out hne), hne⟩
      clear hk4 hne
      go_wp2_with fail
      refine H60.mono ?_
      rintro e w5 ⟨rfl, hb5, _, hq5⟩
      obtain ⟨bv5, rv5, hs5⟩ := hq5 HSO.out.2
      have HB5 : Hid (Bx w rz w5) := (HB2.out.2.1.next (HI.out.2.2.2.trans hb5) HB2.out.2.2.1)
      obtain ⟨⟨y0, y1, y2, y3⟩, g0, g1, g2, g3⟩ := HB5.out.cells
      have z3 : w5.cell? ⟨sb, 3, none⟩ = some (.int .i64 ((s.d + 1 : Nat) : Int)) := by rw [cell_of_row w5 sb _ _ 104 (0, 0) hs5]; rfl
      clear H60 hb5 hq5 hs5 x0 x1 x2 x3 x4 x5
      go_wp2_with fail
      refine bodyPost_ret (v := .agg #[.int .u8 2, .slice none 0 0, .slice none 0 0, .int .i64 ((s.d + 1 : Nat) : Int)]) (by simp [results, Tryz.results20, go_sem, y0, y1, y2, y3]) rfl ?_
      rw [HSO.out.1]
      exact ⟨none, 0, 0, none, 0, 0, rfl, svR_nil _ _, (HB5.out.fill _ _ _ _).1⟩
 ·have HF : Hid (SOL = ⟨2, [], [], 0⟩) := by
   have h := HX.out
   unfold slvF at h
   rw [hany] at h
   exact h.symm
  obtain ⟨⟨y0, y1, y2, y3⟩, g0, g1, g2, g3⟩ := HB1.out.1.cells
  clear HX HV hany
  go_wp2_with fail
  refine bodyPost_ret (v := .agg #[.int .u8 2, .slice none 0 0, .slice none 0 0, .int .i64 0]) (by simp [results, Tryz.results20, go_sem, y0, y1, y2, y3]) rfl ?_
  rw [HF.out]
  exact ⟨none, 0, 0, none, 0, 0, rfl, svR_nil _ _, (HB1.out.1.fill _ _ _ _).1⟩
end Go.Proofs.YtljggjllijacjaaGreatDoor
