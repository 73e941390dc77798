/- How things lie while a network is played with: the network, what went in, what came out. -/
import Derived.Test.YthpbfaddojcohaaNT
namespace Go.Proofs.Ythpbfaddojcohaa
open Go.RowKit
theorem beside {w w' : World} {nb n0 : Nat} {v v' u : Value} {N : Nt} {cs xs : List Dc} {l : List Dg} (hN : NtC w nb n0 v N cs) (hr : RowG w n0 u l xs) (hF : FromN nb v w v' w') (hd : ∀ g, u.ownBlock = some g → v.ownBlock ≠ some g) (hnb : n0 ≤ nb) (hn : n0 ≤ w.heap.size) : RowG w' n0 u l xs ∧ ∀ g, u.ownBlock = some g → v'.ownBlock ≠ some g := by
  refine ⟨hr.stay (.of_keep hF.keep hN.at_ (Nat.le_refl _) hnb hn) fun g hg => hF.keep.block g (hr.lt hg).2 (fun e => hr.not_net hN.at_.blk (by rw [← e]; exact hg)) (hd g hg), fun g hg e => ?_⟩
  rcases hF.own g e with e2 | e2
  · exact hd g hg e2
  · have := (hr.lt hg).2; omega
structure Mem (w0 w : World) (n0 nb : Nat) (v : Value) (N : Nt) (cs : List Dc) (iV : Value) (iL : List Dg) (iC : List Dc) (oV : Value) (oL : List Dg) (oC : List Dc) : Prop where
  net : NtC w nb n0 v N cs
  inR : RowG w n0 iV iL iC
  outR : RowG w n0 oV oL oC
  iv : ∀ g, iV.ownBlock = some g → v.ownBlock ≠ some g
  ov : ∀ g, oV.ownBlock = some g → v.ownBlock ≠ some g
  io : ∀ g, iV.ownBlock = some g → oV.ownBlock ≠ some g
  nbn : n0 ≤ nb
  n0w : n0 ≤ w.heap.size
  low : Below n0 w0 w
section
variable {w0 w w' : World} {n0 nb : Nat} {v v' : Value} {N N' : Nt} {cs cs' : List Dc} {iV : Value} {iL : List Dg} {iC : List Dc} {oV : Value} {oL : List Dg} {oC : List Dc}
theorem Mem.below (h : Mem w0 w n0 nb v N cs iV iL iC oV oL oC) (hb : Below w.heap.size w w') : Mem w0 w' n0 nb v N cs iV iL iC oV oL oC :=
  ⟨h.net.below hb, h.inR.below hb h.n0w, h.outR.below hb h.n0w, h.iv, h.ov, h.io, h.nbn, Nat.le_trans h.n0w hb.size, h.low.trans (hb.mono h.n0w)⟩
theorem Mem.op (h : Mem w0 w n0 nb v N cs iV iL iC oV oL oC) (hF : FromN nb v w v' w') (hN : NtC w' nb n0 v' N' cs') : Mem w0 w' n0 nb v' N' cs' iV iL iC oV oL oC := by
  obtain ⟨h1, h2⟩ := beside h.net h.inR hF h.iv h.nbn h.n0w
  obtain ⟨h3, h4⟩ := beside h.net h.outR hF h.ov h.nbn h.n0w
  exact ⟨hN, h1, h3, h2, h4, h.io, h.nbn, Nat.le_trans h.n0w hF.keep.size, h.low.trans (hF.under h.net.at_ h.nbn h.n0w)⟩
theorem Mem.addIn {u' : Value} {m : List Dg} {xs : List Dc} (h : Mem w0 w n0 nb v N cs iV iL iC oV oL oC) (hg : w.grownBy w' iV.ownBlock) (ho : w'.ownsRow n0 46 5 u' (iL.length + m.length) (flatD iL ++ flatD m)) (hat : u'.ownBlock = iV.ownBlock ∨ u'.ownBlock = some w.heap.size) (hm : GoodL w n0 m xs) : Mem w0 w' n0 nb v N cs u' (iL ++ m) (iC ++ xs) oV oL oC := by
  have hs := Stay.of_grown hg h.inR.own h.n0w
  have hoth : ∀ g, g < w.heap.size → iV.ownBlock ≠ some g → w'.heap[g]? = w.heap[g]? := fun g h1 h2 => hg.block g h1 (Ne.symm h2)
  have hnb : w'.heap[nb]? = w.heap[nb]? := hoth nb h.net.at_.lt (h.inR.not_net h.net.at_.blk)
  refine ⟨h.net.stay hs (fun g e => hoth g (owns_lt h.net.at_.own e).2 (fun e2 => h.iv g e2 e)) hnb, h.inR.grow hg ho hm h.n0w, h.outR.stay hs fun g e => hoth g (h.outR.lt e).2 (fun e2 => h.io g e2 e), fun g e => ?_, h.ov, fun g e => ?_, h.nbn, Nat.le_trans h.n0w hg.size, h.low.grown hg h.n0w (fun g e => (h.inR.lt e).1)⟩
  · rcases hat with e2 | e2
    · exact h.iv g (e2.symm.trans e)
    · rw [e] at e2; cases e2
      intro e3; have := (owns_lt h.net.at_.own e3).2; omega
  · rcases hat with e2 | e2
    · exact h.io g (e2.symm.trans e)
    · rw [e] at e2; cases e2
      intro e3; have := (h.outR.lt e3).2; omega
theorem Mem.addOut {u' : Value} {m : List Dg} {xs : List Dc} (h : Mem w0 w n0 nb v N cs iV iL iC oV oL oC) (hg : w.grownBy w' oV.ownBlock) (ho : w'.ownsRow n0 46 5 u' (oL.length + m.length) (flatD oL ++ flatD m)) (hat : u'.ownBlock = oV.ownBlock ∨ u'.ownBlock = some w.heap.size) (hm : GoodL w n0 m xs) : Mem w0 w' n0 nb v N cs iV iL iC u' (oL ++ m) (oC ++ xs) := by
  have hs := Stay.of_grown hg h.outR.own h.n0w
  have hoth : ∀ g, g < w.heap.size → oV.ownBlock ≠ some g → w'.heap[g]? = w.heap[g]? := fun g h1 h2 => hg.block g h1 (Ne.symm h2)
  have hnb : w'.heap[nb]? = w.heap[nb]? := hoth nb h.net.at_.lt (h.outR.not_net h.net.at_.blk)
  refine ⟨h.net.stay hs (fun g e => hoth g (owns_lt h.net.at_.own e).2 (fun e2 => h.ov g e2 e)) hnb, h.inR.stay hs fun g e => hoth g (h.inR.lt e).2 (fun e2 => h.io g e e2), h.outR.grow hg ho hm h.n0w, h.iv, fun g e => ?_, fun g e => ?_, h.nbn, Nat.le_trans h.n0w hg.size, h.low.grown hg h.n0w (fun g e => (h.outR.lt e).1)⟩
  · rcases hat with e2 | e2
    · exact h.ov g (e2.symm.trans e)
    · rw [e] at e2; cases e2
      intro e3; have := (owns_lt h.net.at_.own e3).2; omega
  · intro e3
    rcases hat with e2 | e2
    · exact h.io g e (e2.symm.trans e3)
    · rw [e3] at e2; cases e2
      have := (h.inR.lt e).2; omega
end
theorem cnt_rest (x : Dc) {cs : List Dc} {k : Nat} {y : Dc} (h : cs[k]? = some y) : cnt x cs = cnt x (restC k cs) + cnt x [y] := by
  obtain ⟨hk, e⟩ := List.getElem?_eq_some_iff.1 h
  have h2 : cs = cs.take k ++ ([y] ++ cs.drop (k + 1)) := by
    rw [← e]
    have := List.take_append_drop k cs
    rw [List.drop_eq_getElem_cons hk] at this
    simp
  calc cnt x cs = cnt x (cs.take k ++ ([y] ++ cs.drop (k + 1))) := by rw [← h2]
    _ = cnt x (restC k cs) + cnt x [y] := by
      unfold restC
      rw [cnt_append, cnt_append, cnt_append]; omega
theorem rest_length {cs : List Dc} {k : Nat} (h : k < cs.length) : (restC k cs).length + 1 = cs.length := by simp [restC]; omega
/-- What was counted. -/
structure Num (T k : Nat) (N : Nt) (cs iC oC : List Dc) : Prop where
  nn : N.n = 4
  s0 : 0 ≤ N.s
  s1 : N.s ≤ T
  d0 : 0 ≤ N.d
  d1 : N.d ≤ k
  r0 : 0 ≤ N.r
  r1 : N.r ≤ k
  x0 : 0 ≤ N.x
  x1 : N.x ≤ k
  cnts : ∀ x, cnt x cs + cnt x oC = cnt x iC
  len : cs.length + oC.length = iC.length
  lim : iC.length ≤ T + k
  small : ∀ x, x ∈ cs ∨ x ∈ iC ∨ x ∈ oC → x.xs.length ≤ 65536
theorem Num.wait {T T' k : Nat} {N : Nt} {cs iC oC : List Dc} (h : Num T k N cs iC oC) (hT : T ≤ T') : Num T' (k + 1) N cs iC oC :=
  ⟨h.nn, h.s0, by have := h.s1; omega, h.d0, by have := h.d1; omega, h.r0, by have := h.r1; omega, h.x0, by have := h.x1; omega, h.cnts, h.len, by have := h.lim; omega, h.small⟩
theorem Num.send {T T' k : Nat} {N N' : Nt} {cs iC oC xs : List Dc} (h : Num T k N cs iC oC) (hT : T + xs.length ≤ T') (hN : N'.s = N.s + xs.length ∧ N'.d = N.d ∧ N'.r = N.r ∧ N'.x = N.x ∧ N'.n = N.n) (hx : ∀ x ∈ xs, x.xs.length ≤ 65536) : Num T' (k + 1) N' (cs ++ xs) (iC ++ xs) oC := by
  obtain ⟨e1, e2, e3, e4, e5⟩ := hN
  have a1 := h.s0; have a2 := h.s1; have a3 := h.d1; have a4 := h.r1; have a5 := h.x1; have a6 := h.lim; have a7 := h.len
  refine ⟨by rw [e5]; exact h.nn, by omega, by omega, by rw [e2]; exact h.d0, by omega, by rw [e3]; exact h.r0, by omega, by rw [e4]; exact h.x0, by omega, fun x => ?_, by simp; omega, by simp; omega, fun x hx' => ?_⟩
  · rw [cnt_append, cnt_append]; have := h.cnts x; omega
  · rcases hx' with hx' | hx' | hx'
    · rcases List.mem_append.1 hx' with q | q
      · exact h.small x (.inl q)
      · exact hx x q
    · rcases List.mem_append.1 hx' with q | q
      · exact h.small x (.inr (.inl q))
      · exact hx x q
    · exact h.small x (.inr (.inr hx'))
theorem Num.out {T T' k q : Nat} {N N' : Nt} {cs iC oC : List Dc} {y : Dc} (h : Num T k N cs iC oC) (hT : T ≤ T') (hy : cs[q]? = some y) (hN : N'.s = N.s ∧ (N'.d = N.d ∨ N'.d = N.d + 1) ∧ (N'.r = N.r ∨ N'.r = N.r + 1) ∧ N'.x = N.x ∧ N'.n = N.n) : Num T' (k + 1) N' (restC q cs) iC (oC ++ [y]) := by
  obtain ⟨e1, e2, e3, e4, e5⟩ := hN
  have a1 := h.s0; have a2 := h.s1; have a3 := h.d1; have a4 := h.r1; have a5 := h.x1; have a6 := h.lim; have a7 := h.len; have a8 := h.d0; have a9 := h.r0
  have hl := rest_length (List.getElem?_eq_some_iff.1 hy).1
  refine ⟨by rw [e5]; exact h.nn, by omega, by omega, by omega, by omega, by omega, by omega, by rw [e4]; exact h.x0, by omega, fun x => ?_, by simp; omega, by omega, fun x hx' => ?_⟩
  · rw [cnt_append]; have := h.cnts x; have := cnt_rest x hy; omega
  · rcases hx' with hx' | hx' | hx'
    · exact h.small x (.inl (restC_mem hx'))
    · exact h.small x (.inr (.inl hx'))
    · rcases List.mem_append.1 hx' with q2 | q2
      · exact h.small x (.inr (.inr q2))
      · simp at q2; subst q2; exact h.small x (.inl (List.mem_of_getElem? hy))
theorem Num.dbl {T T' k q : Nat} {N N' : Nt} {cs iC oC : List Dc} {y : Dc} (h : Num T k N cs iC oC) (hT : T ≤ T') (hy : cs[q]? = some y) (hN : N'.s = N.s ∧ N'.d = N.d ∧ N'.r = N.r ∧ N'.x = N.x + 1 ∧ N'.n = N.n) : Num T' (k + 1) N' (cs ++ [y]) (iC ++ [y]) oC := by
  obtain ⟨e1, e2, e3, e4, e5⟩ := hN
  have a1 := h.s0; have a2 := h.s1; have a3 := h.d1; have a4 := h.r1; have a5 := h.x1; have a6 := h.lim; have a7 := h.len; have a8 := h.x0
  have hsm : y.xs.length ≤ 65536 := h.small y (.inl (List.mem_of_getElem? hy))
  refine ⟨by rw [e5]; exact h.nn, by omega, by omega, by rw [e2]; exact h.d0, by omega, by rw [e3]; exact h.r0, by omega, by omega, by omega, fun x => ?_, by simp; omega, by simp; omega, fun x hx' => ?_⟩
  · rw [cnt_append, cnt_append]; have := h.cnts x; omega
  · rcases hx' with hx' | hx' | hx'
    · rcases List.mem_append.1 hx' with q | q
      · exact h.small x (.inl q)
      · simp at q; subst q; exact hsm
    · rcases List.mem_append.1 hx' with q | q
      · exact h.small x (.inr (.inl q))
      · simp at q; subst q; exact hsm
    · exact h.small x (.inr (.inr hx'))
/-- A deed: what it is, a number, a row of datagrams. -/
structure Deed where
  kd : Int
  kk : Int
  a : Option Addr
  n : Nat
  c : Nat
def Deed.vals (e : Deed) : List Value := [.int .i64 e.kd, .int .i64 e.kk, .slice e.a e.n e.c]
def flatE : List Deed → List Value
  | [] => []
  | e :: r => e.vals ++ flatE r
def sumN : List Deed → Nat
  | [] => 0
  | e :: r => e.n + sumN r
theorem sumN_append : ∀ l m : List Deed, sumN (l ++ m) = sumN l + sumN m
  | [], m => by simp [sumN]
  | e :: r, m => by simp [sumN, sumN_append r m]; omega
theorem sumN_take (l : List Deed) (k : Nat) : sumN (l.take k) ≤ sumN l := by
  have h := sumN_append (l.take k) (l.drop k)
  rw [List.take_append_drop] at h; omega
theorem sumN_succ (l : List Deed) (k : Nat) (hk : k < l.length) : sumN (l.take (k + 1)) = sumN (l.take k) + l[k].n := by
  rw [List.take_succ_eq_append_getElem hk, sumN_append]; simp [sumN]
theorem flatE_len : ∀ l : List Deed, (flatE l).length = l.length * 3
  | [] => rfl
  | e :: r => by simp [flatE, Deed.vals, flatE_len r]; omega
theorem flatE_get (l : List Deed) (i j : Nat) (hi : i < l.length) (hj : j < 3) : (flatE l)[3 * i + j]? = (l[i].vals)[j]? := by
  induction l generalizing i with
  | nil => simp at hi
  | cons a r ih =>
    cases i with
    | zero =>
      have : j < a.vals.length := by simp [Deed.vals]; omega
      simp [flatE, List.getElem?_append_left, this]
    | succ i =>
      have e : 3 * (i + 1) + j = a.vals.length + (3 * i + j) := by simp [Deed.vals]; omega
      show (a.vals ++ flatE r)[3 * (i + 1) + j]? = _
      rw [e, List.getElem?_append_right (by omega), Nat.add_sub_cancel_left, ih i (by simp at hi; omega)]
      rfl
/-- Deeds that are handed in. -/
structure DeedRow (w : World) (a : Option Addr) (n : Nat) (es : List Deed) : Prop where
  len : es.length = n
  row : n = 0 ∨ ∃ b o, a = some ⟨b, o, none⟩ ∧ b < w.heap.size ∧ w.rangeAt b o (flatE es)
  each : ∀ (i : Nat) (e : Deed), es[i]? = some e → ∃ ds cs, ArgRow w (fun k => k < w.heap.size) e.a e.n ds cs ∧ (e.a = none → e.n = 0 ∧ e.c = 0)
theorem DeedRow.at {w : World} {a : Option Addr} {n : Nat} {es : List Deed} (h : DeedRow w a n es) (k : Nat) (hk : k < n) : ∃ b o e, a = some ⟨b, o, none⟩ ∧ es[k]? = some e ∧ ∀ w', Below w.heap.size w w' → w'.cell? ⟨b, o + k * 3, none⟩ = some (.int .i64 e.kd) ∧ w'.cell? ⟨b, o + k * 3 + 1, none⟩ = some (.int .i64 e.kk) ∧ w'.cell? ⟨b, o + k * 3 + 2, none⟩ = some (.slice e.a e.n e.c) := by
  have h1 : k < es.length := by rw [h.len]; exact hk
  rcases h.row with e | ⟨b, o, e, hbl, hr⟩
  · omega
  · refine ⟨b, o, es[k], e, List.getElem?_eq_getElem h1, fun w' hb => ?_⟩
    have g : ∀ j v, j < 3 → (es[k].vals)[j]? = some v → w'.cell? ⟨b, o + k * 3 + j, none⟩ = some v := fun j v hj hv => by
      have := hr (3 * k + j) v ((flatE_get es k j h1 hj).trans hv)
      rw [show o + (3 * k + j) = o + k * 3 + j by omega] at this
      exact (hb.cell (p := ⟨b, o + k * 3 + j, none⟩) hbl).trans this
    exact ⟨g 0 _ (by omega) rfl, g 1 _ (by omega) rfl, g 2 _ (by omega) rfl⟩
theorem ArgRow.news {w w' : World} {ad : Addr} {n : Nat} {ds : List Dg} {cs : List Dc} (h : ArgRow w (fun k => k < w.heap.size) (some ad) n ds cs) (hb : Below w.heap.size w w') : (flatD ds).length = n * 5 ∧ ∀ j u, (flatD ds)[j]? = some u → w'.cell? (ad.add j) = some u := by
  refine ⟨by rw [flatD_length, h.len], fun j u hu => ?_⟩
  rcases h.row with e | ⟨b, o, e, hbl, hr⟩
  · have : ds = [] := List.eq_nil_of_length_eq_zero (by rw [h.len]; exact e)
    subst this
    simp [flatD] at hu
  · simp only [Option.some.injEq] at e
    subst e
    rw [Addr.add_mid]
    exact (hb.cell (p := ⟨b, o + j, none⟩) hbl).trans (hr j u hu)
end Go.Proofs.Ythpbfaddojcohaa
