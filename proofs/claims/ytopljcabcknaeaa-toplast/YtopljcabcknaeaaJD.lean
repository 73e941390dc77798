/- The complete records of bytes; the iterator over them. -/
import Derived.Test.YtopljcabcknaeaaJC
namespace Go.Proofs.Ytopljcabcknaeaa
open Go.RowKit Go.Shelf
attribute [local go_sem] Oper.semAt_some
/-- The complete records from a place on: the place behind each, and its payload. -/
def recsF : Nat → Nat → List Int → List (Nat × List Int)
  | 0, _, _ => []
  | f + 1, k, xs => bif okI xs then (k + (8 + (payI xs).length), payI xs) :: recsF f (k + (8 + (payI xs).length)) (xs.drop (8 + (payI xs).length)) else []
def recs (k : Nat) (xs : List Int) : List (Nat × List Int) := recsF (xs.length + 1) k xs
theorem ok_room {xs : List Int} (h : okI xs = true) : roomI xs = true := by
  unfold okI at h
  cases hr : roomI xs
  · rw [hr] at h; simp at h
  · rfl
theorem pay_len {xs : List Int} (h : roomI xs = true) : (payI xs).length = (lenI xs).toNat ∧ 8 + (lenI xs).toNat ≤ xs.length := by
  have := room_len h
  rw [payI, List.length_take, List.length_drop]
  omega
theorem recsF_same : ∀ (f g k : Nat) (xs : List Int), xs.length < f → xs.length < g → recsF f k xs = recsF g k xs
  | 0, _, _, _, h, _ => by omega
  | _ + 1, 0, _, _, _, h => by omega
  | f + 1, g + 1, k, xs, h1, h2 => by
    unfold recsF
    cases ho : okI xs
    · rfl
    · have := pay_len (ok_room ho)
      simp only [cond_true]
      rw [recsF_same f g _ _ (by rw [List.length_drop]; omega) (by rw [List.length_drop]; omega)]
theorem recs_ok {k : Nat} {xs : List Int} (h : okI xs = true) : recs k xs = (k + (8 + (payI xs).length), payI xs) :: recs (k + (8 + (payI xs).length)) (xs.drop (8 + (payI xs).length)) := by
  have := pay_len (ok_room h)
  unfold recs
  rw [recsF, h, cond_true]
  rw [recsF_same _ ((xs.drop (8 + (payI xs).length)).length + 1) _ _ (by rw [List.length_drop]; omega) (by omega)]
theorem recs_no {k : Nat} {xs : List Int} (h : okI xs = false) : recs k xs = [] := by
  unfold recs
  rw [recsF, h, cond_false]
/-- A record as it is yielded. -/
structure It where
  e : Nat
  ad : Addr
  ps : List Int
def It.st (x : It) : Nat × List Int := (x.e, x.ps)
abbrev encR (x : It) : Array Value := #[.int .i64 x.e, .slice (some x.ad) x.ps.length x.ps.length]
/-- Some blocks stay. -/
def KK (gs : List Nat) (A B : World) : Prop := A.heap.size ≤ B.heap.size ∧ ∀ g ∈ gs, g < A.heap.size → B.heap[g]? = A.heap[g]?
theorem KK.refl (gs : List Nat) (A : World) : KK gs A A := ⟨Nat.le_refl _, fun _ _ _ => rfl⟩
theorem KK.trans {gs : List Nat} {A B C : World} (h : KK gs A B) (k : KK gs B C) : KK gs A C :=
  ⟨Nat.le_trans h.1 k.1, fun g hg hl => (k.2 g hg (Nat.lt_of_lt_of_le hl h.1)).trans (h.2 g hg hl)⟩
theorem By.keeps {w w' : World} {a : Option Addr} {n c : Nat} {xs : List Int} (h : By w a n c xs) (hs : w.heap.size ≤ w'.heap.size) (hk : n ≠ 0 → ∀ g, blk a = some g → g < w.heap.size → w'.heap[g]? = w.heap[g]?) : By w' a n c xs := by
  refine ⟨h.len, h.cap, h.nil, h.rng, ?_⟩
  by_cases hn : n = 0
  · exact .inl hn
  rcases h.mem with e | ⟨b, o, rfl, hl, hr⟩
  · exact .inl e
  · exact .inr ⟨b, o, rfl, by omega, fun j u hu => (World.cell?_of_block (hk hn b rfl hl)).trans (hr j u hu)⟩
theorem By.kk {w w' : World} {a : Option Addr} {n c : Nat} {xs : List Int} {gs : List Nat} (h : By w a n c xs) (hk : KK gs w w') (hg : n ≠ 0 → ∀ g, blk a = some g → g ∈ gs) : By w' a n c xs :=
  h.keeps hk.1 fun hn g e hl => hk.2 g (hg hn g e) hl
theorem grown_dN (w : World) (d : Nat) : w.grownBy (w.drewN d) none := by
  have h := below_drewN (Below.refl w.heap.size w) d
  exact ⟨h.os, h.tape, h.output, h.size, fun k hk _ => h.block k hk⟩
/-- The part of a slice from a place on. -/
def fromA (a : Option Addr) (c k : Nat) : Option Addr := if c = k then a else a.map (·.add k)
theorem By.from {w : World} {a : Option Addr} {n c : Nat} {xs : List Int} (h : By w a n c xs) {k : Nat} (hk : k ≤ n) : By w (fromA a c k) (n - k) (c - k) (xs.drop k) := by
  have hl := h.len
  have hc := h.cap
  unfold fromA
  by_cases e : c = k
  · rw [if_pos e]
    have hn : n = k := by omega
    refine ⟨by rw [List.length_drop]; omega, by omega, fun ha => by have := h.nil ha; omega, fun x hx => h.rng x (List.mem_of_mem_drop hx), .inl (by omega)⟩
  · rw [if_neg e]
    refine ⟨by rw [List.length_drop]; omega, by omega, fun ha => ?_, fun x hx => h.rng x (List.mem_of_mem_drop hx), ?_⟩
    · cases a with
      | none => have := h.nil rfl; omega
      | some _ => cases ha
    · rcases h.mem with e1 | ⟨b, o, rfl, hlt, hr⟩
      · exact .inl (by omega)
      · refine .inr ⟨b, o + k, by simp [Addr.add_mid], hlt, fun j u hu => ?_⟩
        rw [Nat.add_assoc]
        refine hr (k + j) u ?_
        rw [u8s, List.getElem?_map, List.getElem?_drop] at hu
        rw [u8s, List.getElem?_map]
        exact hu
theorem blk_from {a : Option Addr} {c k g : Nat} (h : blk (fromA a c k) = some g) : blk a = some g := by
  unfold fromA at h
  split at h
  · exact h
  · cases a with
    | none => cases h
    | some x =>
      have : (x.add k).block = x.block := by unfold Addr.add; split <;> rfl
      simpa [blk, this] using h
theorem run_from (a : Option Addr) (n c k : Nat) (hk : k ≤ n) (W : World) : (Instr.slice 29 (.slice a n c) (some (.int .i64 (k : Int))) none none).run Try.prog W = .ok (.slice (fromA a c k) (n - k) (c - k)) W := by
  obtain ⟨i0, hi, _, hs, _⟩ := infoU8
  have h0 : (0 : Int) ≤ (k : Int) := by omega
  have h1 : (k : Int) ≤ (n : Int) := by omega
  simp [Instr.slice, run_underlying Try.underlying29, Instr.sliceBounds, run_sliceBound, sizeOf, typeInfo, hi, hs, h0, h1, fromA]
/-- A payload lies in the bytes. -/
def InBy (a : Option Addr) (n c : Nat) (xs : List Int) (x : It) : Prop := x.ps.length ≤ 131072 ∧ ∀ w, By w a n c xs → By w (some x.ad) x.ps.length x.ps.length x.ps
theorem abides_dN {β : Type} {B : Nat} {J : β → World → Prop} (h : AbidesFrom B J) {s : β} {W : World} (d : Nat) (hs : J s W) : J s (W.drewN d) :=
  h s W _ none hs (grown_dN W d) (fun r e => by cases e)
set_option maxRecDepth 100000 in
set_option maxHeartbeats 2000000 in
theorem recs_in (n : Nat) (hn : 1 ≤ n) (l Bs : Nat) (gs : List Nat) (w0 : World) (B0 : Nat) (J Jx : List It → World → Prop) (hJ : AbidesFrom B0 J) (a : Option Addr) (m c : Nat) (xs : List Int) (h : By w0 a m c xs) (hc : m ≤ 140737488355328)
    (hBs : Bs ∈ gs) (hgs : m ≠ 0 → ∀ g, blk a = some g → g ∈ gs) (hlt : Bs < w0.heap.size) (hbx : w0.heap[Bs]? = some (.cells #[.slice a m c] 29 (0, 0)))
    (hY : ∀ pre x W, J pre W → (pre ++ [x]).map It.st <+: recs 0 xs → InBy a m c xs x → YieldAt Fence.wide (n - 1) Try.prog l (encR x) W fun e W' =>
      (e = .returned (.bool true) ∧ J (pre ++ [x]) W' ∧ KK gs W W') ∨ (e = .returned (.bool false) ∧ Jx (pre ++ [x]) W'))
    (W : World) (hW : KK gs w0 W) (h0 : J [] W) :
    CallsIn Fence.wide n Try.prog 30 #[.func (.yield l) #[] #[], .pointer (some ⟨Bs, 0, none⟩)] W fun e W' => (∃ v, e = .returned v) ∧
      ((∃ ys : List It, ys.map It.st = recs 0 xs ∧ J ys W') ∨ (∃ pre : List It, pre.map It.st <+: recs 0 xs ∧ Jx pre W')) := by
  have HH : Hid (By w0 a m c xs) := h
  have HY : Hid (∀ pre x W, J pre W → (pre ++ [x]).map It.st <+: recs 0 xs → InBy a m c xs x → YieldAt Fence.wide (n - 1) Try.prog l (encR x) W fun e W' =>
      (e = .returned (.bool true) ∧ J (pre ++ [x]) W' ∧ KK gs W W') ∨ (e = .returned (.bool false) ∧ Jx (pre ++ [x]) W')) := hY
  have HJ : Hid (AbidesFrom B0 J) := hJ
  have HG : Hid (m ≠ 0 → ∀ g, blk a = some g → g ∈ gs) := hgs
  have HBX : Hid (∀ W, KK gs w0 W → W.cell? ⟨Bs, 0, none⟩ = some (.slice a m c)) := fun W hk => by
    have e := (hk.2 Bs hBs hlt).trans hbx
    rw [cell_of_row W Bs 0 _ 29 (0, 0) e]; rfl
  have hlen := h.len
  have hcap := h.cap
  have HLN : Hid (xs.length = m ∧ m ≤ c) := ⟨hlen, hcap⟩
  clear hY hJ h hgs hbx hlen hcap
  refine callsIn_of_wp Try.func30 rfl trivial ?_ rfl
  simp only [Try.ntmps30, List.size_toArray, List.length_cons, List.length_nil, Nat.reduceAdd, Nat.reduceSub, Array.replicate_succ, Array.replicate_zero, List.push_toArray, List.append_toArray, List.nil_append, List.cons_append]
  gi_wp2
  gi_loopw [3] (fun i wr => ∃ (k : Nat) (pre : List It), k ≤ m ∧ i = .int .i64 k ∧ Hid (J pre wr ∧ KK gs w0 wr ∧ pre.map It.st ++ recs k (xs.drop k) = recs 0 xs)) (fun i _ => m - (intOf i).toNat)
  case atStart => exact ⟨0, [], Nat.zero_le _, rfl, h0, hW, by simp⟩
  case round =>
    obtain ⟨k, pre, hk, rfl, hI⟩ := hrel
    have hbox := HBX.out wr hI.out.2.1
    have hsl := run_from a m c k hk wr
    have H59 := j59 (fromA a c k) (m - k) (c - k) (xs.drop k) wr ((HH.out.kk hI.out.2.1 HG.out).from hk) (by omega)
    have hln : (xs.drop k).length = m - k := by rw [List.length_drop, HLN.out.1]
    cases hok : okI (xs.drop k)
    · have HNO : Hid (pre.map It.st = recs 0 xs) := by
        have h3 := hI.out.2.2
        rw [recs_no hok, List.append_nil] at h3
        exact h3
      have H59' : Calls Try.prog 31 #[.slice (fromA a c k) (m - k) (c - k)] wr fun e w' => ∃ a' L d, e = .returned (.tuple #[.slice a' L L, .bool false]) ∧ L ≤ 131072 ∧ w' = wr.drewN d := by
        refine H59.mono ?_
        rintro e w' ⟨⟨v, rfl, hv⟩, d, rfl⟩
        rcases hv with ⟨_, rfl⟩ | ⟨hr, ad, rfl, _⟩
        · exact ⟨none, 0, d, rfl, by omega, rfl⟩
        · exact ⟨_, _, d, by rw [hok], (room_len hr).2, rfl⟩
      clear H59 hok hln
      gi_wp2_with (refine ⟨trivial, ?_⟩; gi_at_call 31; refine (callsIn_wide.2 H59').mono ?_; rintro e w' ⟨a', L, dd, rfl, hL, rfl⟩)
      refine ⟨(fun _ e => by cases e), ?_⟩
      gi_wp2
      refine bodyPost_ret (results_none rfl _ _ _) rfl ?_
      exact ⟨⟨_, rfl⟩, .inl ⟨pre, HNO.out, abides_dN HJ.out _ hI.out.1⟩⟩
    · have hrm := ok_room hok
      have hpl := pay_len hrm
      have hr2 := room_len hrm
      have HEQ : Hid (pre.map It.st ++ (k + (8 + (payI (xs.drop k)).length), payI (xs.drop k)) :: recs (k + (8 + (payI (xs.drop k)).length)) (xs.drop (k + (8 + (payI (xs.drop k)).length))) = recs 0 xs) := by
        have h3 := hI.out.2.2
        rw [recs_ok hok, List.drop_drop] at h3
        exact h3
      have H59' : Calls Try.prog 31 #[.slice (fromA a c k) (m - k) (c - k)] wr fun e w' => ∃ ad d, e = .returned (.tuple #[.slice (some ad) (payI (xs.drop k)).length (payI (xs.drop k)).length, .bool true]) ∧ Hid (InBy a m c xs ⟨k + (8 + (payI (xs.drop k)).length), ad, payI (xs.drop k)⟩) ∧ w' = wr.drewN d := by
        refine H59.mono ?_
        rintro e w' ⟨⟨v, rfl, hv⟩, d, rfl⟩
        rcases hv with ⟨hr, rfl⟩ | ⟨hr, ad, rfl, had⟩
        · rw [hr] at hrm; cases hrm
        · refine ⟨ad, d, by rw [hok, hpl.1], ⟨by simp only; omega, fun w hb => ?_⟩, rfl⟩
          have := pay_by (hb.from hk) hr had
          rw [← hpl.1] at this
          exact this
      have hkb : k + (8 + (payI (xs.drop k)).length) ≤ m := by omega
      have hLb : (payI (xs.drop k)).length ≤ 131072 := by omega
      have hkm : k ≤ 140737488355328 := by have := HLN.out.2; omega
      clear H59 hok hln hrm hpl hr2
      generalize payI (xs.drop k) = py at *
      obtain ⟨pl, hpl⟩ : ∃ pl, py.length = pl := ⟨_, rfl⟩
      have HPL : Hid (py.length = pl) := hpl
      rw [hpl] at hkb hLb
      rw [hpl] at H59' HEQ
      clear hpl
      have HYY : Hid (∀ (ad : Addr) (dd : Nat), InBy a m c xs ⟨k + (8 + pl), ad, py⟩ → ∃ fn tmps assign body, (Instr.yield l #[.int .i64 ((k : Int) + (8 + (pl : Int))), .slice (some ad) pl pl]).run Try.prog (wr.drewN dd) = .ok (.round l fn tmps assign body) (wr.drewN dd) ∧ RoundIn Fence.wide (n - 1) Try.prog l fn tmps assign body (wr.drewN dd) (fun e W' => (e = .returned (.bool true) ∧ J (pre ++ [⟨k + (8 + pl), ad, py⟩]) W' ∧ KK gs (wr.drewN dd) W') ∨ (e = .returned (.bool false) ∧ Jx (pre ++ [⟨k + (8 + pl), ad, py⟩]) W'))) := fun ad dd hin => by
        have hp : (pre ++ [(⟨k + (8 + pl), ad, py⟩ : It)]).map It.st <+: recs 0 xs := by
          rw [List.map_append, ← HEQ.out]
          exact ⟨recs (k + (8 + pl)) (xs.drop (k + (8 + pl))), by simp [It.st]⟩
        have h5 := HY.out pre ⟨k + (8 + pl), ad, py⟩ (wr.drewN dd) (abides_dN HJ.out _ hI.out.1) hp hin
        unfold YieldAt at h5
        dsimp only [encR] at h5
        rw [HPL.out, show ((k + (8 + pl) : Nat) : Int) = (k : Int) + (8 + (pl : Int)) by omega] at h5
        exact h5
      gi_wp2_with (refine ⟨trivial, ?_⟩; gi_at_call 31; refine (callsIn_wide.2 H59').mono ?_; rintro e w' ⟨ad, dd, rfl, hin, rfl⟩; obtain ⟨fn, tmps, assign, body, hy, hR⟩ := HYY.out ad dd hin.out)
      refine hR.mono ?_
      rintro e W3 (⟨rfl, hJ3, hk3⟩ | ⟨rfl, hJx3⟩)
      · have HI3 : Hid (J (pre ++ [⟨k + (8 + pl), ad, py⟩]) W3 ∧ KK gs w0 W3 ∧ (pre ++ [(⟨k + (8 + pl), ad, py⟩ : It)]).map It.st ++ recs (k + (8 + pl)) (xs.drop (k + (8 + pl))) = recs 0 xs) := ⟨hJ3, hI.out.2.1.trans (KK.trans ⟨Nat.le_refl _, fun _ _ _ => rfl⟩ hk3), by rw [← HEQ.out]; simp [It.st]⟩
        gi_wp2
        go_roundw
        case rel => exact ⟨k + (8 + pl), pre ++ [⟨k + (8 + pl), ad, py⟩], hkb, by go_num, HI3⟩
        case measure => simp [intOf]; omega
      · have HPX : Hid ((pre ++ [(⟨k + (8 + pl), ad, py⟩ : It)]).map It.st <+: recs 0 xs) := by
          show (pre ++ [(⟨k + (8 + pl), ad, py⟩ : It)]).map It.st <+: recs 0 xs
          rw [List.map_append, ← HEQ.out]
          exact ⟨recs (k + (8 + pl)) (xs.drop (k + (8 + pl))), by simp [It.st]⟩
        gi_wp2
        refine bodyPost_ret (results_none rfl _ _ _) rfl ?_
        exact ⟨⟨_, rfl⟩, .inr ⟨_, HPX.out, hJx3⟩⟩
theorem kk_below {gs : List Nat} {w W : World} (h : Below w.heap.size w W) : KK gs w W := ⟨h.size, fun g _ hl => h.block g hl⟩
theorem recs_stops (n : Nat) (hn : 1 ≤ n) (Bs : Nat) (gs : List Nat) (w0 : World) (a : Option Addr) (m c : Nat) (xs : List Int) (h : By w0 a m c xs) (hc : m ≤ 140737488355328)
    (hBs : Bs ∈ gs) (hgs : m ≠ 0 → ∀ g, blk a = some g → g ∈ gs) (hbx : w0.heap[Bs]? = some (.cells #[.slice a m c] 29 (0, 0))) :
    SeqStopsK Fence.wide n Try.prog 30 #[.pointer (some ⟨Bs, 0, none⟩)] (fun x : { x : It // InBy a m c xs x } => encR x.1) (KK gs) (fun ys => ys.map (fun x => x.1.st) = recs 0 xs) (fun pre => pre.map (fun x => x.1.st) <+: recs 0 xs) (recs 0 xs).length w0 := by
  intro l J Jx W hW hJ hJx hY h0
  let J' : List It → World → Prop := fun pre W => ∃ q : List { x : It // InBy a m c xs x }, q.map (·.1) = pre ∧ J q W
  let Jx' : List It → World → Prop := fun pre W => ∃ q : List { x : It // InBy a m c xs x }, q.map (·.1) = pre ∧ Jx q W
  have key := recs_in n hn l Bs gs w0 W.heap.size J' Jx' (by
    rintro s A B row ⟨q, rfl, hq⟩ hg hr
    exact ⟨q, rfl, hJ _ _ _ _ hq hg hr⟩) a m c xs h hc hBs hgs (Array.getElem?_eq_some_iff.1 hbx).1 hbx (by
    rintro pre x W1 ⟨q, rfl, hq⟩ hp hx
    have hl : q.length < (recs 0 xs).length := by
      have := hp.length_le; simp at this; omega
    refine (hY q ⟨x, hx⟩ W1 hq hl).mono ?_
    rintro e W2 (⟨rfl, h1, h2⟩ | ⟨rfl, h1⟩)
    · exact .inl ⟨rfl, ⟨_, by simp, h1⟩, h2⟩
    · exact .inr ⟨rfl, ⟨_, by simp, h1⟩⟩) W (kk_below hW) ⟨[], rfl, h0⟩
  refine key.mono ?_
  rintro e W' ⟨hv, ⟨ys, h1, q, h2, h3⟩ | ⟨pre, h1, q, h2, h3⟩⟩
  · refine ⟨hv, .inl ⟨q, ?_, h3⟩⟩
    rw [← h1, ← h2, List.map_map]; rfl
  · refine ⟨hv, .inr ⟨q, ?_, h3⟩⟩
    have e1 : q.map (fun x => x.1.st) = pre.map It.st := by rw [← h2, List.map_map]; rfl
    show q.map (fun x => x.1.st) <+: recs 0 xs
    rw [e1]; exact h1
set_option maxRecDepth 100000 in
theorem j39 (a : Option Addr) (k c : Nat) (w : World) :
    Calls Try.prog 27 #[.slice a k c] w fun e w' => e = .returned (.func (.func 30) #[] #[.pointer (some ⟨w.heap.size, 0, none⟩)]) ∧ w' = w.alloc (.cells #[.slice a k c] 29) := by
  go_enter Try.func27, Try.ntmps27
  go_wp2_with fail
  go_ret
  exact ⟨rfl, rfl⟩
/-- A slice. -/
structure Sl where
  a : Option Addr
  n : Nat
  c : Nat
def Sl.v (s : Sl) : Value := .slice s.a s.n s.c
/-- Payloads of one's own, each in memory of its own. -/
structure Pays (w : World) (B : Nat) (l : List Sl) (ps : List (List Int)) : Prop where
  len : l.length = ps.length
  own : ∀ (i : Nat) (s : Sl) (xs : List Int), l[i]? = some s → ps[i]? = some xs → Row w B 5 s.a s.n s.c (u8s xs)
  apart : ∀ (i j : Nat) (s t : Sl) (g : Nat), i < j → l[i]? = some s → l[j]? = some t → blk s.a = some g → blk t.a ≠ some g
  ex : ∀ s ∈ l, Ex w 5 s.a s.c
theorem Pays.nil (w : World) (B : Nat) : Pays w B [] [] := ⟨rfl, fun i s xs h => by simp at h, fun i j s t g _ h => by simp at h, fun s h => by cases h⟩
theorem Pays.keeps {w w' : World} {B : Nat} {l : List Sl} {ps : List (List Int)} (h : Pays w B l ps) (hk : ∀ g s, s ∈ l → blk s.a = some g → w'.heap[g]? = w.heap[g]?) : Pays w' B l ps :=
  ⟨h.len, fun i s xs h1 h2 => (h.own i s xs h1 h2).keeps fun g hg => hk g s (List.mem_of_getElem? h1) hg, h.apart, fun s hs => (h.ex s hs).keeps fun g hg => hk g s hs hg⟩
theorem Pays.lt {w : World} {B : Nat} {l : List Sl} {ps : List (List Int)} (h : Pays w B l ps) {s : Sl} (hs : s ∈ l) {g : Nat} (hg : blk s.a = some g) : B ≤ g ∧ g < w.heap.size ∧ ∃ cu, w.heap[g]? = some (.cells cu 5 (0, 0)) := by
  obtain ⟨i, hi, rfl⟩ := List.getElem_of_mem hs
  have hi2 : i < ps.length := by rw [← h.len]; exact hi
  have hr := h.own i _ _ (List.getElem?_eq_getElem hi) (List.getElem?_eq_getElem hi2)
  refine ⟨(hr.lt hg).1, (hr.lt hg).2, ?_⟩
  rcases hr.mem with ⟨e, _⟩ | ⟨g', cu, e, _, h3, _⟩
  · rw [e] at hg; cases hg
  · rw [e] at hg; cases hg
    exact ⟨cu, h3⟩
theorem Pays.base {w : World} {B B' : Nat} {l : List Sl} {ps : List (List Int)} (h : Pays w B l ps) (hB : B' ≤ B) : Pays w B' l ps :=
  ⟨h.len, fun i s xs h1 h2 => (h.own i s xs h1 h2).base hB, h.apart, h.ex⟩
theorem Pays.below {w w' : World} {B : Nat} {l : List Sl} {ps : List (List Int)} (h : Pays w B l ps) (hb : Below w.heap.size w w') : Pays w' B l ps :=
  h.keeps fun g _ hs hg => hb.block g (h.lt hs hg).2.1
/-- One more, in memory that no other has. -/
theorem Pays.snoc {w : World} {B : Nat} {l : List Sl} {ps : List (List Int)} (h : Pays w B l ps) {s : Sl} {xs : List Int} (hr : Row w B 5 s.a s.n s.c (u8s xs)) (hx : Ex w 5 s.a s.c) (hn : ∀ g t, blk s.a = some g → t ∈ l → blk t.a ≠ some g) : Pays w B (l ++ [s]) (ps ++ [xs]) := by
  refine ⟨by simp [h.len], fun i t ys h1 h2 => ?_, fun i j t u g hij h1 h2 h3 => ?_, fun t ht => ?_⟩
  · rcases Nat.lt_or_ge i l.length with hi | hi
    · rw [List.getElem?_append_left hi] at h1
      rw [List.getElem?_append_left (by rw [← h.len]; exact hi)] at h2
      exact h.own i t ys h1 h2
    · have hi2 : i = l.length := by
        have := (List.getElem?_eq_some_iff.1 h1).1; simp at this; omega
      subst hi2
      have e1 : s = t := by simpa using h1
      have e2 : xs = ys := by rw [h.len] at h2; simpa using h2
      subst e1; subst e2; exact hr
  · have hj : j < l.length + 1 := by have := (List.getElem?_eq_some_iff.1 h2).1; simpa using this
    have hi : i < l.length := by omega
    rw [List.getElem?_append_left hi] at h1
    rcases Nat.lt_or_ge j l.length with hj2 | hj2
    · rw [List.getElem?_append_left hj2] at h2
      exact h.apart i j t u g hij h1 h2 h3
    · obtain rfl : j = l.length := by omega
      have e1 : s = u := by simpa using h2
      subst e1
      intro e4
      exact hn g t e4 (List.mem_of_getElem? h1) h3
  · rcases List.mem_append.1 ht with ht | ht
    · exact h.ex t ht
    · simp only [List.mem_cons, List.not_mem_nil, or_false] at ht
      subst ht; exact hx
end Go.Proofs.Ytopljcabcknaeaa
