/- Contract of Read: payloads of the caller's own. -/
import Derived.Test.YtopljcabcknaeaaJD
namespace Go.Proofs.Ytopljcabcknaeaa
open Go.RowKit Go.Shelf
attribute [local go_sem] Oper.semAt_some
theorem infoSl : ∃ i, Try.prog.info? 29 = some i ∧ i.zero = some (.slice none 0 0) ∧ i.size = 1 ∧ i.bytes = 24 := by
  have h : (Try.prog.info? 29).map (fun i => (i.zero, i.size, i.bytes)) = some (some (.slice none 0 0), 1, 24) := by kernel_rfl
  cases hq : Try.prog.info? 29 with
  | none => rw [hq] at h; cases h
  | some i =>
    rw [hq] at h
    simp only [Option.map_some, Option.some.injEq, Prod.mk.injEq] at h
    exact ⟨i, rfl, h.1, h.2.1, h.2.2⟩
theorem cells_kept {A B : World} {row : Option Nat} (hg : A.grownBy B row) (hr : ∀ r, row = some r → ∃ o : Obj, A.heap[r]? = some o ∧ o.isCells = false) {k : Nat} {cs : Array Value} {t : TypeId} {fr : Nat × Nat} (h : A.heap[k]? = some (.cells cs t fr)) : B.heap[k]? = some (.cells cs t fr) :=
  (hg.block k (Array.getElem?_eq_some_iff.1 h).1 (fun e => by
    obtain ⟨o, h1, h2⟩ := hr k e.symm
    rw [h] at h1; cases h1; cases h2)).trans h
theorem Row.cells {A B : World} {row : Option Nat} (hg : A.grownBy B row) (hr : ∀ r, row = some r → ∃ o : Obj, A.heap[r]? = some o ∧ o.isCells = false) {n0 : Nat} {e : TypeId} {a : Option Addr} {n c : Nat} {xs : List Value} (h : Row A n0 e a n c xs) : Row B n0 e a n c xs := by
  refine ⟨h.len, h.cap, h.max, ?_⟩
  rcases h.mem with h1 | ⟨g, cu, h1, h2, h3, h4⟩
  · exact .inl h1
  · exact .inr ⟨g, cu, h1, h2, cells_kept hg hr h3, h4⟩
theorem Row.type {w : World} {B : Nat} {e : TypeId} {a : Option Addr} {n c : Nat} {xs : List Value} (h : Row w B e a n c xs) {g : Nat} (hg : blk a = some g) : ∃ cu : Array Value, w.heap[g]? = some (.cells cu e (0, 0)) := by
  rcases h.mem with ⟨rfl, _⟩ | ⟨g', cu, rfl, _, h3, _⟩
  · cases hg
  · cases hg; exact ⟨cu, h3⟩
theorem Pays.cells {A B : World} {row : Option Nat} (hg : A.grownBy B row) (hr : ∀ r, row = some r → ∃ o : Obj, A.heap[r]? = some o ∧ o.isCells = false) {n0 : Nat} {l : List Sl} {ps : List (List Int)} (h : Pays A n0 l ps) : Pays B n0 l ps :=
  ⟨h.len, fun i s xs h1 h2 => (h.own i s xs h1 h2).cells hg hr, h.apart, fun s hs g hgs => by
    obtain ⟨cu, h1, h2⟩ := h.ex s hs g hgs
    exact ⟨cu, cells_kept hg hr h1, h2⟩⟩
theorem keeps_below {W W' : World} (hb : Below W.heap.size W W') : KeepsOthers W W' := ⟨hb.size, fun k _ hk _ => (hb.block k (Array.getElem?_eq_some_iff.1 hk).1).trans hk⟩
theorem keeps_grown {W W' : World} {row : Option Nat} (hg : W.grownBy W' row) (hr : ∀ g, row = some g → ∃ (cu : Array Value) (t : TypeId), W.heap[g]? = some (.cells cu t (0, 0))) : KeepsOthers W W' :=
  ⟨hg.size, fun k o hk ho => (hg.block k (Array.getElem?_eq_some_iff.1 hk).1 (fun e => by
    obtain ⟨cu, t, h1⟩ := hr k e.symm
    rw [hk] at h1; cases h1; cases ho)).trans hk⟩
theorem keeps_set {W : World} {b o : Nat} {u : Value} {cs : Array Value} {t : TypeId} (h : W.heap[b]? = some (.cells cs t (0, 0))) : KeepsOthers W (W.setCell ⟨b, o, none⟩ u) :=
  ⟨by simp, fun k ob hk ho => by
    rw [heap_setCell_other _ _ _ _ (by
      intro e
      have e : k = b := e
      subst e
      rw [h] at hk; cases hk; cases ho)]
    exact hk⟩
/-- The place behind the last one. -/
def lastE (l : List (Nat × List Int)) : Nat := (l.getLast?.map (·.1)).getD 0
theorem lastE_snoc (l : List (Nat × List Int)) (x : Nat × List Int) : lastE (l ++ [x]) = x.1 := by simp [lastE]
/-- How far Read has come. -/
def RdI (n0 : Nat) (pre : List (Nat × List Int)) (W : World) : Prop :=
  ∃ ua uc l1, Boxed W n0 22 (.slice ua l1.length uc) ∧ Boxed W (n0 + 1) 3 (.int .i64 (lastE pre)) ∧ Row W (n0 + 3) 29 ua l1.length uc (l1.map Sl.v) ∧ Pays W (n0 + 3) l1 (pre.map (·.2))
theorem rdI_own (n0 : Nat) : Own (RdI n0) := by
  rintro s A B row ⟨ua, uc, l1, h1, h2, h3, h4⟩ hg hr
  exact ⟨ua, uc, l1, cells_kept hg hr h1, cells_kept hg hr h2, h3.cells hg hr, h4.cells hg hr⟩
/-- Payloads in a row of the caller's own. -/
def Told (w : World) (a : Option Addr) (n c : Nat) (ps : List (List Int)) (w' : World) : Prop :=
  ∃ l, l.length = n ∧ Row w' w.heap.size 29 a n c (l.map Sl.v) ∧ Pays w' w.heap.size l ps ∧ Below w.heap.size w w'
/-- Something behind the records. -/
def tornE (xs : List Int) : Int := if lastE (recs 0 xs) < xs.length then 140 else 0
theorem recs_len : ∀ (N k : Nat) (xs : List Int), xs.length ≤ N → (recs k xs).length * 8 ≤ xs.length
  | N, k, xs, hN => by
    cases ho : okI xs
    · rw [recs_no ho]; simp
    · have := pay_len (ok_room ho)
      rw [recs_ok ho, List.length_cons]
      cases N with
      | zero => omega
      | succ N =>
        have := recs_len N (k + (8 + (payI xs).length)) (xs.drop (8 + (payI xs).length)) (by rw [List.length_drop]; omega)
        rw [List.length_drop] at this
        omega
theorem recs_mem : ∀ (N k : Nat) (xs : List Int), xs.length ≤ N → ∀ x ∈ recs k xs, x.1 ≤ k + xs.length ∧ x.2.length ≤ 131072 ∧ ∀ y ∈ x.2, y ∈ xs
  | N, k, xs, hN => by
    cases ho : okI xs
    · rw [recs_no ho]; simp
    · have h1 := pay_len (ok_room ho)
      have h2 := room_len (ok_room ho)
      rw [recs_ok ho]
      intro x hx
      rcases List.mem_cons.1 hx with rfl | hx
      · refine ⟨by simp; omega, by simp; omega, fun y hy => List.mem_of_mem_drop (List.mem_of_mem_take hy)⟩
      · cases N with
        | zero => omega
        | succ N =>
          have h3 := recs_mem N (k + (8 + (payI xs).length)) (xs.drop (8 + (payI xs).length)) (by rw [List.length_drop]; omega) x hx
          rw [List.length_drop] at h3
          exact ⟨by omega, h3.2.1, fun y hy => List.mem_of_mem_drop (h3.2.2 y hy)⟩
theorem boxed_set {w : World} {b : Nat} {t : TypeId} {u : Value} (h : w.heap[b]? = some (.cells #[u] t (0, 0))) (v : Value) : (w.setCell ⟨b, 0, none⟩ v).heap[b]? = some (.cells #[v] t (0, 0)) := by
  rw [heap_setCell_same w b 0 _ t _ h]; rfl
theorem set_far {w : World} {b o g : Nat} {u : Value} (h : g ≠ b) : (w.setCell ⟨b, o, none⟩ u).heap[g]? = w.heap[g]? := heap_setCell_other _ _ _ _ h
theorem ownFrom_kk {β : Type} {n0 B : Nat} {w : World} (h1 : n0 ≤ B) (h2 : n0 ≤ w.heap.size) : OwnFrom B (fun (_ : β) W => Below n0 w W) := ownFrom_below h2 h1
set_option maxRecDepth 100000 in
set_option maxHeartbeats 8000000 in
theorem j12 (a : Option Addr) (m c : Nat) (xs : List Int) (w : World) (h : By w a m c xs) (hm : m ≤ 1000000000) :
    Calls Try.prog 21 #[.slice a m c] w fun e w' => ∃ ra rc, e = .returned (.tuple #[.slice ra (recs 0 xs).length rc, .int .i64 (lastE (recs 0 xs)), .int .i64 (tornE xs)]) ∧ Told w ra (recs 0 xs).length rc ((recs 0 xs).map (·.2)) w' := by
  refine (callsIn_wide (n := 6)).1 ?_
  obtain ⟨i0, hi, hz, hsz, hby⟩ := infoSl
  have HH : Hid (By w a m c xs) := h
  have HLN : Hid (xs.length = m) := h.len
  have hL0 : Below w.heap.size w ((w.alloc (.cells #[.slice none 0 0] 22)).alloc (.cells #[.int .i64 0] 3)) := ((Below.refl _ w).alloc (Nat.le_refl _) _).alloc (by simp) _
  have H39 := j39 a m c ((w.alloc (.cells #[.slice none 0 0] 22)).alloc (.cells #[.int .i64 0] 3))
  clear h
  refine callsIn_of_wp_marks Try.func21 rfl trivial ?_ rfl
  simp only [Try.ntmps21, List.size_toArray, List.length_cons, List.length_nil, Nat.reduceAdd, Nat.reduceSub, Array.replicate_succ, Array.replicate_zero, List.push_toArray, List.append_toArray, List.nil_append, List.cons_append]
  gi_wp2_with (refine ⟨trivial, ?_⟩; gi_at_call 27; refine (callsIn_wide.2 H39).mono ?_; rintro e w' ⟨rfl, rfl⟩)
  have bL := ((Boxed.new w 22 (.slice none 0 0)).alloc (.cells #[.int .i64 0] 3)).alloc (.cells #[.slice a m c] 29)
  have bE := (Boxed.new (w.alloc (.cells #[.slice none 0 0] 22)) 3 (.int .i64 0)).alloc (.cells #[.slice a m c] 29)
  have bS := Boxed.new ((w.alloc (.cells #[.slice none 0 0] 22)).alloc (.cells #[.int .i64 0] 3)) 29 (.slice a m c)
  simp only [World.size_alloc] at bS bE
  have hB0 : Below w.heap.size w (((w.alloc (.cells #[.slice none 0 0] 22)).alloc (.cells #[.int .i64 0] 3)).alloc (.cells #[.slice a m c] 29)) := hL0.alloc (by simp; omega) _
  have hs0 : (((w.alloc (.cells #[.slice none 0 0] 22)).alloc (.cells #[.int .i64 0] 3)).alloc (.cells #[.slice a m c] 29)).heap.size = w.heap.size + 3 := by simp
  obtain ⟨W0, hW0⟩ : ∃ W0, (((w.alloc (.cells #[.slice none 0 0] 22)).alloc (.cells #[.int .i64 0] 3)).alloc (.cells #[.slice a m c] 29)) = W0 := ⟨_, rfl⟩
  rw [hW0] at bL bE bS hB0 hs0 ⊢
  clear hW0 H39 hL0
  obtain ⟨n0, hn0⟩ : ∃ n0, w.heap.size = n0 := ⟨_, rfl⟩
  obtain ⟨gs, hgs0, hgs1, hgs2⟩ : ∃ gs : List Nat, w.heap.size + 2 ∈ gs ∧ (m ≠ 0 → ∀ g, blk a = some g → g ∈ gs) ∧ (∀ g ∈ gs, g = w.heap.size + 2 ∨ g < w.heap.size) := by
    rcases HH.out.mem with e | ⟨b, o, e, hl, _⟩
    · exact ⟨[w.heap.size + 2], by simp, fun h => absurd e h, fun g hg => .inl (by simpa using hg)⟩
    · subst e
      refine ⟨[w.heap.size + 2, b], by simp, fun _ g e => by cases e; simp, fun g hg => ?_⟩
      simp only [List.mem_cons, List.not_mem_nil, or_false] at hg
      rcases hg with rfl | rfl
      · exact .inl rfl
      · exact .inr hl
  have HST := recs_stops 5 (by decide) (w.heap.size + 2) gs W0 a m c xs (HH.out.below hB0) (by omega) hgs0 hgs1 bS
  have HGS : Hid (∀ A B : World, Below n0 A B → B.heap[n0 + 2]? = A.heap[n0 + 2]? → KK gs A B) := fun A B h2 h3 => ⟨h2.size, fun g hg hl => by
    rcases hgs2 g hg with e | e
    · rw [e, hn0]; exact h3
    · exact h2.block _ (by rw [← hn0]; exact e)⟩
  have HGB : Hid (∀ g ∈ gs, g < W0.heap.size) := fun g hg => by
    rcases hgs2 g hg with e | e <;> omega
  clear hgs0 hgs1 hgs2
  rw [hn0] at bL bE bS hB0 hs0 HST ⊢
  have hRL := recs_len _ 0 xs (Nat.le_refl _)
  have HRL : Hid ((recs 0 xs).length * 8 ≤ m) := by rw [HLN.out] at hRL; exact hRL
  have HRM : Hid (∀ x ∈ recs 0 xs, x.1 ≤ m ∧ x.2.length ≤ 131072 ∧ ∀ y ∈ x.2, y ∈ xs) := fun x hx => by
    have := recs_mem _ 0 xs (Nat.le_refl _) x hx
    rw [HLN.out, Nat.zero_add] at this
    exact this
  clear hRL
  refine wpIn_rangeFunc_ownH rfl (by decide) (gf := 30) (lb := #[.pointer (some ⟨n0 + 2, 0, none⟩)]) rfl trivial (enters_of Try.func30 (by kernel_rfl) rfl)
    HST KK.trans (fun W l o o' hl ho hc _ => ⟨by simp, fun g hg hlt => World.putObj_heap_other (by have := HGB.out g hg; omega)⟩) (Below.refl _ _) (fun _ => rfl)
    (fun pre W => RdI n0 (pre.map (fun x => x.1.st)) W ∧ W.heap[n0 + 2]? = some (.cells #[.slice a m c] 29 (0, 0)) ∧ Below n0 w W)
    (fun _ _ _ => False)
    (OwnFrom.and (fun s A B row hs hg hr => rdI_own n0 (s.map (fun x => x.1.st)) A B row hs hg (fun r e => (hr r e).2)) (OwnFrom.and (fun s A B row hs hg hr => cells_kept hg (fun r e => (hr r e).2) hs) (ownFrom_below (by omega) (by omega))))
    (fun _ _ _ _ _ hs _ _ => hs)
    ⟨⟨none, 0, [], bL, bE, row_nil _ _ _, Pays.nil _ _⟩, bS, hB0⟩
    (fun x a' W => a' = { tmps := #[.slice a m c, undef, .pointer (some ⟨n0, 0, none⟩), .pointer (some ⟨n0 + 1, 0, none⟩), .int .i64 0, .int .i64 x.1.e, .slice (some x.1.ad) x.1.ps.length x.1.ps.length, .slice a m c, .func (.func 30) #[] #[.pointer (some ⟨n0 + 2, 0, none⟩)], .int .i64 x.1.e, .slice (some x.1.ad) x.1.ps.length x.1.ps.length, undef, undef, undef, undef, undef, undef, undef, undef, undef, undef, undef, undef, undef], defers := [] })
    (fun x a' _ X Y row hs hg hr => hs)
    ?assign ?body ?done ?stop
  case assign =>
    rintro lp pre x W K hI hK
    gi_wp2
    exact hK _ _ ((KeepsOthers.refl _).from _) (KK.refl _ _) hI rfl
  case body =>
    rintro lp pre ⟨⟨xe, xad, ps⟩, hx⟩ a' W hlp ⟨r, hr⟩ ⟨⟨ua, uc, l1, bU, bE, rU, pU⟩, bX, hB1⟩ rfl hlt
    simp only
    have hlU : l1.length = pre.length := by have := pU.len; simpa using this
    have hnn : Below w.heap.size w W := by rw [hn0]; exact hB1
    have hby1 : By W (some xad) ps.length ps.length ps := hx.2 W (HH.out.below hnn)
    have hszn : n0 + 3 ≤ W.heap.size := by have := (Array.getElem?_eq_some_iff.1 bX).1; omega
    have hszW : Hid (n0 + 3 ≤ W.drew.heap.size) := hszn
    have hpl : ps.length ≤ 140737488355328 := by have : ps.length ≤ 131072 := hx.1; omega
    have H40 : Calls Try.prog 18 #[.slice (some xad) ps.length ps.length] W.drew fun e w' => ∃ a' c', e = .returned (.slice a' ps.length c') ∧ (Row w' W.drew.heap.size 5 a' ps.length c' (u8s ps) ∧ Ex w' 5 a' c') ∧ Below W.drew.heap.size W.drew w' := (j40x (some xad) ps.length ps.length ps W.drew (hby1.below (Below.drew (Below.refl _ _))) hpl).mono fun _ _ ⟨a', c', h1, h2, h3⟩ => ⟨a', c', h1, ⟨h2.1, h3⟩, h2.2⟩
    have eU := bU.cell
    have HB3 : Hid (∀ w3, Below W.drew.heap.size W.drew w3 → w3.cell? ⟨n0, 0, none⟩ = some (.slice ua l1.length uc) ∧ (∀ ob : Obj, (w3.alloc ob).cell? ⟨n0, 0, none⟩ = some (.slice ua l1.length uc))) := fun w3 hb => by
      have b3 : Boxed w3 n0 22 (.slice ua l1.length uc) := (hb.block n0 bU.lt).trans bU
      exact ⟨b3.cell, fun ob => (b3.alloc ob).cell⟩
    have HR3 : Hid (∀ w3, Below W.drew.heap.size W.drew w3 → Row w3 (n0 + 3) 29 ua l1.length uc (l1.map Sl.v)) := fun w3 hb => Row.below (w := W.drew) (rU.keeps fun _ _ => rfl) hb
    have HBK : Hid (∀ (w3 : World) (a3 : Option Addr) (c3 : Nat) (w5 : World), Below W.drew.heap.size W.drew w3 → (w3.alloc (.cells #[.slice a3 ps.length c3] 29)).grownBy w5 (blk ua) → ∀ k, k < n0 + 3 → w5.heap[k]? = W.heap[k]?) := fun w3 a3 c3 w5 hb hg k hk => by
      have h1 : k < W.drew.heap.size := Nat.lt_of_lt_of_le hk hszn
      have h2 : k < w3.heap.size := Nat.lt_of_lt_of_le h1 hb.size
      rw [hg.block k (by simp; omega) (fun e => by have := ((HR3.out w3 hb).lt e.symm).1; omega), heap_alloc_old w3 _ h2]
      exact hb.block k h1
    have HW5 : Hid (∀ (w3 : World) (a3 : Option Addr) (c3 : Nat) (ua' : Option Addr) (uc' : Nat) (w5 : World), Below W.drew.heap.size W.drew w3 → Row w5 (n0 + 3) 29 ua' (l1.length + 1) uc' (l1.map Sl.v ++ [.slice a3 ps.length c3]) → (w3.alloc (.cells #[.slice a3 ps.length c3] 29)).grownBy w5 (blk ua) → True →
        w5.cell? ⟨n0, 0, none⟩ = some (.slice ua l1.length uc) ∧ w5.frozen? ⟨n0, 0, none⟩ = false ∧ (∀ v, (w5.setCell ⟨n0, 0, none⟩ v).cell? ⟨n0 + 1, 0, none⟩ = some (.int .i64 (lastE (pre.map (fun x => x.1.st))))) ∧ (∀ v, (w5.setCell ⟨n0, 0, none⟩ v).frozen? ⟨n0 + 1, 0, none⟩ = false)) := fun w3 a3 c3 ua' uc' w5 hb hrow hg _ => by
      have e0 : Boxed w5 n0 22 (.slice ua l1.length uc) := (HBK.out w3 a3 c3 w5 hb hg n0 (by omega)).trans bU
      have e1 : ∀ v, Boxed (w5.setCell ⟨n0, 0, none⟩ v) (n0 + 1) 3 (.int .i64 (lastE (pre.map (fun x => x.1.st)))) := fun v => (set_far (by omega)).trans ((HBK.out w3 a3 c3 w5 hb hg (n0 + 1) (by omega)).trans bE)
      exact ⟨e0.cell, e0.frozen, fun v => (e1 v).cell, fun v => (e1 v).frozen⟩
    have hl1 : (l1.length + 1) * 24 ≤ 140737488355328 := by have := HRL.out; rw [hlU]; omega
    have HEND : Hid (∀ (w3 : World) (a3 : Option Addr) (c3 : Nat) (ua' : Option Addr) (uc' : Nat) (w5 : World), Below W.drew.heap.size W.drew w3 → Row w3 W.drew.heap.size 5 a3 ps.length c3 (u8s ps) ∧ Ex w3 5 a3 c3 →
        Row w5 (n0 + 3) 29 ua' (l1.length + 1) uc' (l1.map Sl.v ++ [.slice a3 ps.length c3]) → (w3.alloc (.cells #[.slice a3 ps.length c3] 29)).grownBy w5 (blk ua) →
        KeepsFrom W0.heap.size W ((w5.setCell ⟨n0, 0, none⟩ (.slice ua' (l1.length + 1) uc')).setCell ⟨n0 + 1, 0, none⟩ (.int .i64 xe)) ∧ KK gs W ((w5.setCell ⟨n0, 0, none⟩ (.slice ua' (l1.length + 1) uc')).setCell ⟨n0 + 1, 0, none⟩ (.int .i64 xe)) ∧
        RdI n0 ((pre ++ [(⟨⟨xe, xad, ps⟩, hx⟩ : { x : It // InBy a m c xs x })]).map (fun x => x.1.st)) ((w5.setCell ⟨n0, 0, none⟩ (.slice ua' (l1.length + 1) uc')).setCell ⟨n0 + 1, 0, none⟩ (.int .i64 xe)) ∧
        ((w5.setCell ⟨n0, 0, none⟩ (.slice ua' (l1.length + 1) uc')).setCell ⟨n0 + 1, 0, none⟩ (.int .i64 xe)).heap[n0 + 2]? = some (.cells #[.slice a m c] 29 (0, 0)) ∧
        Below n0 w ((w5.setCell ⟨n0, 0, none⟩ (.slice ua' (l1.length + 1) uc')).setCell ⟨n0 + 1, 0, none⟩ (.int .i64 xe))) := fun w3 a3 c3 ua' uc' w5 hb ho0 hrow hg => by
      obtain ⟨ho, hox⟩ := ho0
      have hbW : Below W.heap.size W w3 := ((Below.refl _ W).drew).trans hb
      have r3 := (HR3.out w3 hb).alloc (.cells #[.slice a3 ps.length c3] 29)
      have e0 : Boxed w5 n0 22 (.slice ua l1.length uc) := (HBK.out w3 a3 c3 w5 hb hg n0 (by omega)).trans bU
      have e1 : Boxed w5 (n0 + 1) 3 (.int .i64 (lastE (pre.map (fun x => x.1.st)))) := (HBK.out w3 a3 c3 w5 hb hg (n0 + 1) (by omega)).trans bE
      have e2 : w5.heap[n0 + 2]? = some (.cells #[.slice a m c] 29 (0, 0)) := (HBK.out w3 a3 c3 w5 hb hg (n0 + 2) (by omega)).trans bX
      have e1' : (w5.setCell ⟨n0, 0, none⟩ (.slice ua' (l1.length + 1) uc')).heap[n0 + 1]? = some (.cells #[.int .i64 (lastE (pre.map (fun x => x.1.st)))] 3 (0, 0)) := (set_far (by omega)).trans e1
      have hbn : Below n0 W ((w5.setCell ⟨n0, 0, none⟩ (.slice ua' (l1.length + 1) uc')).setCell ⟨n0 + 1, 0, none⟩ (.int .i64 xe)) :=
        (((((hbW.mono (show n0 ≤ W.heap.size by omega)).alloc (by have := hbW.size; omega) _).grown hg (by have := hbW.size; simp; omega) (fun g e => by have := (r3.lt e).1; omega))).setCell (Nat.le_refl _) _).setCell (Nat.le_succ _) _
      have f2 : ((w5.setCell ⟨n0, 0, none⟩ (.slice ua' (l1.length + 1) uc')).setCell ⟨n0 + 1, 0, none⟩ (.int .i64 xe)).heap[n0 + 2]? = some (.cells #[.slice a m c] 29 (0, 0)) := (set_far (by omega)).trans ((set_far (by omega)).trans e2)
      have hfar : ∀ g, n0 + 3 ≤ g → ((w5.setCell ⟨n0, 0, none⟩ (.slice ua' (l1.length + 1) uc')).setCell ⟨n0 + 1, 0, none⟩ (.int .i64 xe)).heap[g]? = w5.heap[g]? := fun g hge => (set_far (by omega)).trans (set_far (by omega))
      have hpay : ∀ (g : Nat) (cu : Array Value), w3.heap[g]? = some (.cells cu 5 (0, 0)) → w5.heap[g]? = w3.heap[g]? := fun g cu h5 => by
        have hlt3 := (Array.getElem?_eq_some_iff.1 h5).1
        rw [hg.block g (by simp; omega) (fun e => by
          obtain ⟨cu2, h6⟩ := r3.type e.symm
          rw [heap_alloc_old w3 _ hlt3, h5] at h6; cases h6)]
        exact heap_alloc_old w3 _ hlt3
      refine ⟨(((keeps_below hbW).trans ((KeepsOthers.alloc _ _).trans ((keeps_grown hg (fun g e => by obtain ⟨cu, h6⟩ := r3.type e; exact ⟨cu, _, h6⟩)).trans ((keeps_set e0).trans (keeps_set e1'))))).from _), HGS.out _ _ hbn (f2.trans bX.symm), ?_, f2, hB1.trans hbn⟩
      refine ⟨ua', uc', l1 ++ [⟨a3, ps.length, c3⟩], ?_, ?_, ?_, ?_⟩
      · rw [List.length_append]
        exact (set_far (g := n0) (b := n0 + 1) (by omega)).trans (boxed_set e0 _)
      · have := boxed_set e1' (.int .i64 xe)
        rw [List.map_append, List.map_cons, List.map_nil, lastE_snoc]
        exact this
      · rw [List.length_append, List.map_append]
        exact Row.keeps hrow fun g e => hfar g (hrow.lt e).1
      · rw [List.map_append, List.map_append]
        have p3 := Pays.below (pU.keeps (w' := W.drew) fun _ _ _ _ => rfl) hb
        have p5 : Pays ((w5.setCell ⟨n0, 0, none⟩ (.slice ua' (l1.length + 1) uc')).setCell ⟨n0 + 1, 0, none⟩ (.int .i64 xe)) (n0 + 3) l1 ((pre.map (fun x => x.1.st)).map (·.2)) := p3.keeps fun g s hs e => by
          obtain ⟨h1, _, cu, h2⟩ := p3.lt hs e
          exact (hfar g h1).trans (hpay g cu h2)
        have hk3 : ∀ g, blk a3 = some g → ((w5.setCell ⟨n0, 0, none⟩ (.slice ua' (l1.length + 1) uc')).setCell ⟨n0 + 1, 0, none⟩ (.int .i64 xe)).heap[g]? = w3.heap[g]? := fun g e => by
          obtain ⟨cu, h2⟩ := ho.type e
          exact (hfar g (Nat.le_trans hszn (ho.lt e).1)).trans (hpay g cu h2)
        refine p5.snoc (Row.keeps (ho.base hszn) hk3) (hox.keeps hk3) ?_
        · intro g t e ht e2
          have h1 := (ho.lt e).1
          have h2 := (pU.lt ht e2).2.1
          have h3 : W.drew.heap.size = W.heap.size := rfl
          omega
    have mixed : Try.prog.follows Departure.mixedOrders = true := by kernel_rfl
    clear hnn bX bU bE rU pU hr hlt hlU hby1 hB1 HBK
    gi_wp2
    refine wpIn_region_any mixed ?_
    change wpAnyIn _ _ _ _ _ _ _ _ _ (World.drew _)
    refine wpAnyIn_ready (rs := [0, 1]) (by kernel_rfl) (by simp) ?_
    refine AllReadyIn.cons rfl (fun K hK => ?_) ?_
    · go_simp
      refine hK _ _ ?_
      clear hK K
      try simp only [Act.put, List.setIfInBounds_toArray, List.set_cons_zero, List.set_cons_succ]
      refine wpAnyIn_ready (rs := [1]) (by kernel_rfl) (by simp) ?_
      refine AllReadyIn.cons rfl (fun K hK => ?_) AllReadyIn.nil
      go_simp
      refine hK _ _ ?_
      clear hK K
      try simp only [Act.put, List.setIfInBounds_toArray, List.set_cons_zero, List.set_cons_succ]
      refine wpAnyIn_ready (rs := [2]) (by kernel_rfl) (by simp) ?_
      refine AllReadyIn.cons rfl (fun K hK => ?_) AllReadyIn.nil
      go_simp
      refine ⟨trivial, ?_⟩
      gi_at_call 18
      refine (CallsIn.inRound lp (callsIn_wide.2 H40)).mono ?_
      rintro e w3 ⟨a3, c3, rfl, ho3, hb3⟩
      obtain ⟨e3a, e3b⟩ := HB3.out w3 hb3
      simp only
      refine hK _ _ ?_
      clear hK K
      try simp only [Act.put, List.setIfInBounds_toArray, List.set_cons_zero, List.set_cons_succ]
      refine wpAnyIn_ready (rs := [3]) (by kernel_rfl) (by simp) ?_
      refine AllReadyIn.cons rfl (fun K hK => ?_) AllReadyIn.nil
      go_simp
      refine hK _ _ ?_
      clear hK K
      try simp only [Act.put, List.setIfInBounds_toArray, List.set_cons_zero, List.set_cons_succ]
      refine wpAnyIn_ready (rs := [4]) (by kernel_rfl) (by simp) ?_
      refine AllReadyIn.cons rfl (fun K hK => ?_) AllReadyIn.nil
      refine stepIn_append_row _ (by rfl) _ _ 22 (by rfl) (n0 + 3) 29 i0 _ 24 Try.underlying22 hi hz hsz hby rfl ua l1.length uc (l1.map Sl.v) (by rfl) ((HR3.out w3 hb3).alloc _) (some ⟨w3.heap.size, 0, none⟩) 1 1 [.slice a3 ps.length c3] (by rfl) (reads_block (cs := #[.slice a3 ps.length c3]) (heap_alloc_new w3 _)) (by simp [Value.oneCell']) (fun e => by cases e) (by unfold maxLen; omega) (by omega) (by simp; have := hb3.size; have := hszW.out; omega) ?_
      intro ua' uc' w5 hrow5 hgrow5 hat5 _ _
      obtain ⟨q1, q2, q3, q4⟩ := HW5.out w3 a3 c3 ua' uc' w5 hb3 hrow5 hgrow5 trivial
      clear hat5
      refine hK _ _ ?_
      clear hK K
      try simp only [Act.put, List.setIfInBounds_toArray]
      refine wpAnyIn_ready (rs := [5]) (by kernel_rfl) (by simp) ?_
      refine AllReadyIn.cons rfl (fun K hK => ?_) AllReadyIn.nil
      go_simp
      refine hK _ _ ?_
      clear hK K
      try simp only [Act.put, List.setIfInBounds_toArray, List.set_cons_zero, List.set_cons_succ]
      refine wpAnyIn_done (by kernel_rfl) ?_ _
      gi_wp2
      exact HEND.out w3 a3 c3 ua' uc' w5 hb3 ho3 hrow5 hgrow5
    refine AllReadyIn.cons rfl (fun K hK => ?_) AllReadyIn.nil
    go_simp
    refine hK _ _ ?_
    clear hK K
    try simp only [Act.put, List.setIfInBounds_toArray, List.set_cons_zero, List.set_cons_succ]
    refine wpAnyIn_ready (rs := [0, 2]) (by kernel_rfl) (by simp) ?_
    refine AllReadyIn.cons rfl (fun K hK => ?_) ?_
    · go_simp
      refine hK _ _ ?_
      clear hK K
      try simp only [Act.put, List.setIfInBounds_toArray, List.set_cons_zero, List.set_cons_succ]
      refine wpAnyIn_ready (rs := [2]) (by kernel_rfl) (by simp) ?_
      refine AllReadyIn.cons rfl (fun K hK => ?_) AllReadyIn.nil
      go_simp
      refine ⟨trivial, ?_⟩
      gi_at_call 18
      refine (CallsIn.inRound lp (callsIn_wide.2 H40)).mono ?_
      rintro e w3 ⟨a3, c3, rfl, ho3, hb3⟩
      obtain ⟨e3a, e3b⟩ := HB3.out w3 hb3
      simp only
      refine hK _ _ ?_
      clear hK K
      try simp only [Act.put, List.setIfInBounds_toArray, List.set_cons_zero, List.set_cons_succ]
      refine wpAnyIn_ready (rs := [3]) (by kernel_rfl) (by simp) ?_
      refine AllReadyIn.cons rfl (fun K hK => ?_) AllReadyIn.nil
      go_simp
      refine hK _ _ ?_
      clear hK K
      try simp only [Act.put, List.setIfInBounds_toArray, List.set_cons_zero, List.set_cons_succ]
      refine wpAnyIn_ready (rs := [4]) (by kernel_rfl) (by simp) ?_
      refine AllReadyIn.cons rfl (fun K hK => ?_) AllReadyIn.nil
      refine stepIn_append_row _ (by rfl) _ _ 22 (by rfl) (n0 + 3) 29 i0 _ 24 Try.underlying22 hi hz hsz hby rfl ua l1.length uc (l1.map Sl.v) (by rfl) ((HR3.out w3 hb3).alloc _) (some ⟨w3.heap.size, 0, none⟩) 1 1 [.slice a3 ps.length c3] (by rfl) (reads_block (cs := #[.slice a3 ps.length c3]) (heap_alloc_new w3 _)) (by simp [Value.oneCell']) (fun e => by cases e) (by unfold maxLen; omega) (by omega) (by simp; have := hb3.size; have := hszW.out; omega) ?_
      intro ua' uc' w5 hrow5 hgrow5 hat5 _ _
      obtain ⟨q1, q2, q3, q4⟩ := HW5.out w3 a3 c3 ua' uc' w5 hb3 hrow5 hgrow5 trivial
      clear hat5
      refine hK _ _ ?_
      clear hK K
      try simp only [Act.put, List.setIfInBounds_toArray]
      refine wpAnyIn_ready (rs := [5]) (by kernel_rfl) (by simp) ?_
      refine AllReadyIn.cons rfl (fun K hK => ?_) AllReadyIn.nil
      go_simp
      refine hK _ _ ?_
      clear hK K
      try simp only [Act.put, List.setIfInBounds_toArray, List.set_cons_zero, List.set_cons_succ]
      refine wpAnyIn_done (by kernel_rfl) ?_ _
      gi_wp2
      exact HEND.out w3 a3 c3 ua' uc' w5 hb3 ho3 hrow5 hgrow5
    refine AllReadyIn.cons rfl (fun K hK => ?_) AllReadyIn.nil
    go_simp
    refine ⟨trivial, ?_⟩
    gi_at_call 18
    refine (CallsIn.inRound lp (callsIn_wide.2 H40)).mono ?_
    rintro e w3 ⟨a3, c3, rfl, ho3, hb3⟩
    obtain ⟨e3a, e3b⟩ := HB3.out w3 hb3
    simp only
    refine hK _ _ ?_
    clear hK K
    try simp only [Act.put, List.setIfInBounds_toArray, List.set_cons_zero, List.set_cons_succ]
    refine wpAnyIn_ready (rs := [0, 3]) (by kernel_rfl) (by simp) ?_
    refine AllReadyIn.cons rfl (fun K hK => ?_) ?_
    · go_simp
      refine hK _ _ ?_
      clear hK K
      try simp only [Act.put, List.setIfInBounds_toArray, List.set_cons_zero, List.set_cons_succ]
      refine wpAnyIn_ready (rs := [3]) (by kernel_rfl) (by simp) ?_
      refine AllReadyIn.cons rfl (fun K hK => ?_) AllReadyIn.nil
      go_simp
      refine hK _ _ ?_
      clear hK K
      try simp only [Act.put, List.setIfInBounds_toArray, List.set_cons_zero, List.set_cons_succ]
      refine wpAnyIn_ready (rs := [4]) (by kernel_rfl) (by simp) ?_
      refine AllReadyIn.cons rfl (fun K hK => ?_) AllReadyIn.nil
      refine stepIn_append_row _ (by rfl) _ _ 22 (by rfl) (n0 + 3) 29 i0 _ 24 Try.underlying22 hi hz hsz hby rfl ua l1.length uc (l1.map Sl.v) (by rfl) ((HR3.out w3 hb3).alloc _) (some ⟨w3.heap.size, 0, none⟩) 1 1 [.slice a3 ps.length c3] (by rfl) (reads_block (cs := #[.slice a3 ps.length c3]) (heap_alloc_new w3 _)) (by simp [Value.oneCell']) (fun e => by cases e) (by unfold maxLen; omega) (by omega) (by simp; have := hb3.size; have := hszW.out; omega) ?_
      intro ua' uc' w5 hrow5 hgrow5 hat5 _ _
      obtain ⟨q1, q2, q3, q4⟩ := HW5.out w3 a3 c3 ua' uc' w5 hb3 hrow5 hgrow5 trivial
      clear hat5
      refine hK _ _ ?_
      clear hK K
      try simp only [Act.put, List.setIfInBounds_toArray]
      refine wpAnyIn_ready (rs := [5]) (by kernel_rfl) (by simp) ?_
      refine AllReadyIn.cons rfl (fun K hK => ?_) AllReadyIn.nil
      go_simp
      refine hK _ _ ?_
      clear hK K
      try simp only [Act.put, List.setIfInBounds_toArray, List.set_cons_zero, List.set_cons_succ]
      refine wpAnyIn_done (by kernel_rfl) ?_ _
      gi_wp2
      exact HEND.out w3 a3 c3 ua' uc' w5 hb3 ho3 hrow5 hgrow5
    refine AllReadyIn.cons rfl (fun K hK => ?_) AllReadyIn.nil
    go_simp
    refine hK _ _ ?_
    clear hK K
    try simp only [Act.put, List.setIfInBounds_toArray, List.set_cons_zero, List.set_cons_succ]
    refine wpAnyIn_ready (rs := [0]) (by kernel_rfl) (by simp) ?_
    refine AllReadyIn.cons rfl (fun K hK => ?_) AllReadyIn.nil
    go_simp
    refine hK _ _ ?_
    clear hK K
    try simp only [Act.put, List.setIfInBounds_toArray, List.set_cons_zero, List.set_cons_succ]
    refine wpAnyIn_ready (rs := [4]) (by kernel_rfl) (by simp) ?_
    refine AllReadyIn.cons rfl (fun K hK => ?_) AllReadyIn.nil
    refine stepIn_append_row _ (by rfl) _ _ 22 (by rfl) (n0 + 3) 29 i0 _ 24 Try.underlying22 hi hz hsz hby rfl ua l1.length uc (l1.map Sl.v) (by rfl) ((HR3.out w3 hb3).alloc _) (some ⟨w3.heap.size, 0, none⟩) 1 1 [.slice a3 ps.length c3] (by rfl) (reads_block (cs := #[.slice a3 ps.length c3]) (heap_alloc_new w3 _)) (by simp [Value.oneCell']) (fun e => by cases e) (by unfold maxLen; omega) (by omega) (by simp; have := hb3.size; have := hszW.out; omega) ?_
    intro ua' uc' w5 hrow5 hgrow5 hat5 _ _
    obtain ⟨q1, q2, q3, q4⟩ := HW5.out w3 a3 c3 ua' uc' w5 hb3 hrow5 hgrow5 trivial
    clear hat5
    refine hK _ _ ?_
    clear hK K
    try simp only [Act.put, List.setIfInBounds_toArray]
    refine wpAnyIn_ready (rs := [5]) (by kernel_rfl) (by simp) ?_
    refine AllReadyIn.cons rfl (fun K hK => ?_) AllReadyIn.nil
    go_simp
    refine hK _ _ ?_
    clear hK K
    try simp only [Act.put, List.setIfInBounds_toArray, List.set_cons_zero, List.set_cons_succ]
    refine wpAnyIn_done (by kernel_rfl) ?_ _
    gi_wp2
    exact HEND.out w3 a3 c3 ua' uc' w5 hb3 ho3 hrow5 hgrow5
  case done =>
    rintro D zs W hD hzs ⟨⟨ua, uc, l1, b1, b2, r1, p1⟩, bX, hB1⟩ hK
    rw [hzs] at p1 b2
    have hll : l1.length = (recs 0 xs).length := by have := p1.len; simpa using this
    have HEP : Hid (lastE (recs 0 xs) ≤ m) := by
      show lastE (recs 0 xs) ≤ m
      unfold lastE
      cases hq : (recs 0 xs).getLast? with
      | none => simp
      | some x => simpa using (HRM.out x (List.mem_of_getLast? hq)).1
    have HTE : Hid (tornE xs = if (lastE (recs 0 xs) : Int) < (m : Int) then 140 else 0) := by
      show tornE xs = _
      unfold tornE
      rw [HLN.out]
      congr 1
      apply propext
      omega
    rw [hll] at r1 b1
    have HPP : Hid (l1.length = (recs 0 xs).length ∧ Row W (n0 + 3) 29 ua (recs 0 xs).length uc (l1.map Sl.v) ∧ Pays W (n0 + 3) l1 ((recs 0 xs).map (·.2)) ∧ Below n0 w W) := ⟨hll, r1, p1, hB1⟩
    clear hzs hll p1 r1
    obtain ⟨le, hle⟩ : ∃ le, lastE (recs 0 xs) = le := ⟨_, rfl⟩
    rw [hle] at b2 HTE HEP
    have HLE : Hid (lastE (recs 0 xs) = le) := hle
    obtain ⟨cn, hcn⟩ : ∃ cn, (recs 0 xs).length = cn := ⟨_, rfl⟩
    rw [hcn] at b1 HPP
    have HCN : Hid ((recs 0 xs).length = cn) := hcn
    have e1 := b1.cell
    have e2 := b2.cell
    have f1 := b1.frozen
    have f2 := b2.frozen
    have b1' : Boxed W.drew n0 22 (.slice ua cn uc) := b1
    have b2' : Boxed W.drew (n0 + 1) 3 (.int .i64 le) := b2
    have e3 : ∀ v, (W.drew.setCell ⟨n0, 0, none⟩ v).cell? ⟨n0 + 1, 0, none⟩ = some (.int .i64 le) := fun v => Boxed.cell (t := 3) ((set_far (by omega)).trans b2')
    have f3 : ∀ v, (W.drew.setCell ⟨n0, 0, none⟩ v).frozen? ⟨n0 + 1, 0, none⟩ = false := fun v => Boxed.frozen (t := 3) (v := .int .i64 le) ((set_far (by omega)).trans b2')
    have mixed : Try.prog.follows Departure.mixedOrders = true := by kernel_rfl
    have hD1 : n0 + 3 ≤ D := by omega
    have HFA : Hid ((∃ v, ((((W.drew.setCell ⟨n0, 0, none⟩ (.slice ua cn uc)).setCell ⟨n0 + 1, 0, none⟩ (.int .i64 le)).putObj D (.deferred none)).cell? ⟨n0, 0, none⟩ = some v ∧ v = .slice ua cn uc)) ∧
        (((W.drew.setCell ⟨n0, 0, none⟩ (.slice ua cn uc)).setCell ⟨n0 + 1, 0, none⟩ (.int .i64 le)).putObj D (.deferred none)).cell? ⟨n0 + 1, 0, none⟩ = some (.int .i64 le) ∧
        ((W.drew.setCell ⟨n0, 0, none⟩ (.slice ua cn uc)).setCell ⟨n0 + 1, 0, none⟩ (.int .i64 le)).heap[D]? = some (.deferred (some [])) ∧
        Told w ua cn uc ((recs 0 xs).map (·.2)) (((W.drew.setCell ⟨n0, 0, none⟩ (.slice ua cn uc)).setCell ⟨n0 + 1, 0, none⟩ (.int .i64 le)).putObj D (.deferred none))) := by
      have q1 : (W.drew.setCell ⟨n0, 0, none⟩ (.slice ua cn uc)).heap[n0]? = some (.cells #[.slice ua cn uc] 22 (0, 0)) := boxed_set b1' _
      have q2 : ((W.drew.setCell ⟨n0, 0, none⟩ (.slice ua cn uc)).setCell ⟨n0 + 1, 0, none⟩ (.int .i64 le)).heap[n0 + 1]? = some (.cells #[.int .i64 le] 3 (0, 0)) := boxed_set (u := .int .i64 le) ((set_far (by omega)).trans b2') _
      have q3 : ((W.drew.setCell ⟨n0, 0, none⟩ (.slice ua cn uc)).setCell ⟨n0 + 1, 0, none⟩ (.int .i64 le)).heap[n0]? = some (.cells #[.slice ua cn uc] 22 (0, 0)) := (set_far (g := n0) (b := n0 + 1) (by omega)).trans q1
      have hfar : ∀ g, n0 + 3 ≤ g → ((W.drew.setCell ⟨n0, 0, none⟩ (.slice ua cn uc)).setCell ⟨n0 + 1, 0, none⟩ (.int .i64 le)).heap[g]? = W.heap[g]? := fun g hge => (set_far (by omega)).trans (set_far (by omega))
      have qD : ((W.drew.setCell ⟨n0, 0, none⟩ (.slice ua cn uc)).setCell ⟨n0 + 1, 0, none⟩ (.int .i64 le)).heap[D]? = some (.deferred (some [])) := (hfar D hD1).trans hK
      have hput : ∀ g, g ≠ D → (((W.drew.setCell ⟨n0, 0, none⟩ (.slice ua cn uc)).setCell ⟨n0 + 1, 0, none⟩ (.int .i64 le)).putObj D (.deferred none)).heap[g]? = ((W.drew.setCell ⟨n0, 0, none⟩ (.slice ua cn uc)).setCell ⟨n0 + 1, 0, none⟩ (.int .i64 le)).heap[g]? := fun g hg => World.putObj_heap_other hg
      have hcells : ∀ (g : Nat) (cu : Array Value) (t : TypeId), W.heap[g]? = some (.cells cu t (0, 0)) → g ≠ D := fun g cu t h1 e => by subst e; rw [hK] at h1; cases h1
      refine ⟨⟨_, Boxed.cell (t := 22) ((hput n0 (by omega)).trans q3), rfl⟩, Boxed.cell (t := 3) ((hput (n0 + 1) (by omega)).trans q2), qD, l1, HPP.out.1.trans (by rfl), ?_, ?_, ?_⟩
      · rw [hn0]
        refine (HPP.out.2.1.keeps fun g e => ?_).base (Nat.le_add_right _ _)
        obtain ⟨cu, h1⟩ := HPP.out.2.1.type e
        exact (hput g (hcells g cu _ h1)).trans (hfar g (HPP.out.2.1.lt e).1)
      · rw [hn0]
        refine (HPP.out.2.2.1.keeps fun g s hs e => ?_).base (Nat.le_add_right _ _)
        obtain ⟨h0, _, cu, h1⟩ := HPP.out.2.2.1.lt hs e
        exact (hput g (hcells g cu _ h1)).trans (hfar g h0)
      · rw [hn0]
        have hb5 : Below n0 w ((W.drew.setCell ⟨n0, 0, none⟩ (.slice ua cn uc)).setCell ⟨n0 + 1, 0, none⟩ (.int .i64 le)) := ((HPP.out.2.2.2.drew).setCell (Nat.le_refl _) _).setCell (Nat.le_succ _) _
        exact hb5.trans ((Below.refl n0 _).grown (grownBy_putObj' _ D (.deferred none)) (by have := hb5.size; omega) (fun k e => by cases e; omega))
    clear b1 b2 b1' b2' hle hcn bX hB1 hK
    by_cases hte : (le : Int) < (m : Int)
    · have HT : Hid (tornE xs = 140) := by show tornE xs = 140; rw [HTE.out, if_pos hte]
      have HFIN : Hid (∀ (tm : Array Value), tm = #[.slice a m c, undef, .pointer (some ⟨n0, 0, none⟩), .pointer (some ⟨n0 + 1, 0, none⟩), .int .i64 140, undef, undef, .slice a m c, .func (.func 30) #[] #[.pointer (some ⟨n0 + 1 + 1, 0, none⟩)], undef, undef, undef, undef, undef, undef, undef, undef, .int .i64 le, .slice a m c, .int .i64 m, .bool true, .slice ua cn uc, .int .i64 le, .int .i64 140] → bodyPostM Fence.wide 6 Try.prog Try.f21 (fun e w' => ∃ ra rc, e = .returned (.tuple #[.slice ra (recs 0 xs).length rc, .int .i64 (lastE (recs 0 xs)), .int .i64 (tornE xs)]) ∧ Told w ra (recs 0 xs).length rc ((recs 0 xs).map (·.2)) w') Exit.ret { tmps := tm, defers := [{ target := .collected D, args := #[] }] } (((W.setCell ⟨n0, 0, none⟩ (.slice ua cn uc)).setCell ⟨n0 + 1, 0, none⟩ (.int .i64 le)).drew)) := fun tm htm => by
        rw [htm, HT.out, HLE.out, HCN.out]
        obtain ⟨⟨v, hv1, rfl⟩, hv2, hv3, hv4⟩ := HFA.out
        refine ⟨by simp, .inl ⟨_, _, rfl, run_takeDeferred hv3, ?_⟩⟩
        refine ⟨.tuple #[.slice ua cn uc, .int .i64 le, .int .i64 140], ?_, ua, uc, rfl, hv4⟩
        have hv1' : ((((W.setCell ⟨n0, 0, none⟩ (.slice ua cn uc)).setCell ⟨n0 + 1, 0, none⟩ (.int .i64 le)).drew).putObj D (.deferred none)).cell? ⟨n0, 0, none⟩ = some (.slice ua cn uc) := hv1
        have hv2' : ((((W.setCell ⟨n0, 0, none⟩ (.slice ua cn uc)).setCell ⟨n0 + 1, 0, none⟩ (.int .i64 le)).drew).putObj D (.deferred none)).cell? ⟨n0 + 1, 0, none⟩ = some (.int .i64 le) := hv2
        simp [results, Try.f21, go_sem, hv1', hv2']
      gi_wp2
      refine wpIn_region_any mixed ?_
      change wpAnyIn _ _ _ _ _ _ _ _ _ (World.drew _)
      refine wpAnyIn_ready (rs := [0, 1, 2]) (by kernel_rfl) (by simp) ?_
      refine AllReadyIn.cons rfl (fun K hK => ?_) ?_
      · go_simp
        refine hK _ _ ?_
        clear hK K
        try simp only [Act.put, List.setIfInBounds_toArray, List.set_cons_zero, List.set_cons_succ]
        refine wpAnyIn_ready (rs := [1, 2, 3]) (by kernel_rfl) (by simp) ?_
        refine AllReadyIn.cons rfl (fun K hK => ?_) ?_
        · go_simp
          refine hK _ _ ?_
          clear hK K
          try simp only [Act.put, List.setIfInBounds_toArray, List.set_cons_zero, List.set_cons_succ]
          refine wpAnyIn_ready (rs := [2, 3]) (by kernel_rfl) (by simp) ?_
          refine AllReadyIn.cons rfl (fun K hK => ?_) ?_
          · go_simp
            refine hK _ _ ?_
            clear hK K
            try simp only [Act.put, List.setIfInBounds_toArray, List.set_cons_zero, List.set_cons_succ]
            refine wpAnyIn_ready (rs := [3]) (by kernel_rfl) (by simp) ?_
            refine AllReadyIn.cons rfl (fun K hK => ?_) AllReadyIn.nil
            go_simp
            refine hK _ _ ?_
            clear hK K
            try simp only [Act.put, List.setIfInBounds_toArray, List.set_cons_zero, List.set_cons_succ]
            refine wpAnyIn_ready (rs := [4]) (by kernel_rfl) (by simp) ?_
            refine AllReadyIn.cons rfl (fun K hK => ?_) AllReadyIn.nil
            go_simp
            refine hK _ _ ?_
            clear hK K
            try simp only [Act.put, List.setIfInBounds_toArray, List.set_cons_zero, List.set_cons_succ]
            refine wpAnyIn_ready (rs := [5]) (by kernel_rfl) (by simp) ?_
            refine AllReadyIn.cons rfl (fun K hK => ?_) AllReadyIn.nil
            go_simp
            refine hK _ _ ?_
            clear hK K
            try simp only [Act.put, List.setIfInBounds_toArray, List.set_cons_zero, List.set_cons_succ]
            refine wpAnyIn_done (by kernel_rfl) ?_ _
            gi_wp2
            exact HFIN.out _ rfl
          refine AllReadyIn.cons rfl (fun K hK => ?_) AllReadyIn.nil
          go_simp
          refine hK _ _ ?_
          clear hK K
          try simp only [Act.put, List.setIfInBounds_toArray, List.set_cons_zero, List.set_cons_succ]
          refine wpAnyIn_ready (rs := [2, 4]) (by kernel_rfl) (by simp) ?_
          refine AllReadyIn.cons rfl (fun K hK => ?_) ?_
          · go_simp
            refine hK _ _ ?_
            clear hK K
            try simp only [Act.put, List.setIfInBounds_toArray, List.set_cons_zero, List.set_cons_succ]
            refine wpAnyIn_ready (rs := [4]) (by kernel_rfl) (by simp) ?_
            refine AllReadyIn.cons rfl (fun K hK => ?_) AllReadyIn.nil
            go_simp
            refine hK _ _ ?_
            clear hK K
            try simp only [Act.put, List.setIfInBounds_toArray, List.set_cons_zero, List.set_cons_succ]
            refine wpAnyIn_ready (rs := [5]) (by kernel_rfl) (by simp) ?_
            refine AllReadyIn.cons rfl (fun K hK => ?_) AllReadyIn.nil
            go_simp
            refine hK _ _ ?_
            clear hK K
            try simp only [Act.put, List.setIfInBounds_toArray, List.set_cons_zero, List.set_cons_succ]
            refine wpAnyIn_done (by kernel_rfl) ?_ _
            gi_wp2
            exact HFIN.out _ rfl
          refine AllReadyIn.cons rfl (fun K hK => ?_) AllReadyIn.nil
          go_simp
          refine hK _ _ ?_
          clear hK K
          try simp only [Act.put, List.setIfInBounds_toArray, List.set_cons_zero, List.set_cons_succ]
          refine wpAnyIn_ready (rs := [2]) (by kernel_rfl) (by simp) ?_
          refine AllReadyIn.cons rfl (fun K hK => ?_) AllReadyIn.nil
          go_simp
          refine hK _ _ ?_
          clear hK K
          try simp only [Act.put, List.setIfInBounds_toArray, List.set_cons_zero, List.set_cons_succ]
          refine wpAnyIn_ready (rs := [5]) (by kernel_rfl) (by simp) ?_
          refine AllReadyIn.cons rfl (fun K hK => ?_) AllReadyIn.nil
          go_simp
          refine hK _ _ ?_
          clear hK K
          try simp only [Act.put, List.setIfInBounds_toArray, List.set_cons_zero, List.set_cons_succ]
          refine wpAnyIn_done (by kernel_rfl) ?_ _
          gi_wp2
          exact HFIN.out _ rfl
        refine AllReadyIn.cons rfl (fun K hK => ?_) ?_
        · go_simp
          refine hK _ _ ?_
          clear hK K
          try simp only [Act.put, List.setIfInBounds_toArray, List.set_cons_zero, List.set_cons_succ]
          refine wpAnyIn_ready (rs := [1, 3]) (by kernel_rfl) (by simp) ?_
          refine AllReadyIn.cons rfl (fun K hK => ?_) ?_
          · go_simp
            refine hK _ _ ?_
            clear hK K
            try simp only [Act.put, List.setIfInBounds_toArray, List.set_cons_zero, List.set_cons_succ]
            refine wpAnyIn_ready (rs := [3]) (by kernel_rfl) (by simp) ?_
            refine AllReadyIn.cons rfl (fun K hK => ?_) AllReadyIn.nil
            go_simp
            refine hK _ _ ?_
            clear hK K
            try simp only [Act.put, List.setIfInBounds_toArray, List.set_cons_zero, List.set_cons_succ]
            refine wpAnyIn_ready (rs := [4]) (by kernel_rfl) (by simp) ?_
            refine AllReadyIn.cons rfl (fun K hK => ?_) AllReadyIn.nil
            go_simp
            refine hK _ _ ?_
            clear hK K
            try simp only [Act.put, List.setIfInBounds_toArray, List.set_cons_zero, List.set_cons_succ]
            refine wpAnyIn_ready (rs := [5]) (by kernel_rfl) (by simp) ?_
            refine AllReadyIn.cons rfl (fun K hK => ?_) AllReadyIn.nil
            go_simp
            refine hK _ _ ?_
            clear hK K
            try simp only [Act.put, List.setIfInBounds_toArray, List.set_cons_zero, List.set_cons_succ]
            refine wpAnyIn_done (by kernel_rfl) ?_ _
            gi_wp2
            exact HFIN.out _ rfl
          refine AllReadyIn.cons rfl (fun K hK => ?_) AllReadyIn.nil
          go_simp
          refine hK _ _ ?_
          clear hK K
          try simp only [Act.put, List.setIfInBounds_toArray, List.set_cons_zero, List.set_cons_succ]
          refine wpAnyIn_ready (rs := [1]) (by kernel_rfl) (by simp) ?_
          refine AllReadyIn.cons rfl (fun K hK => ?_) AllReadyIn.nil
          go_simp
          refine hK _ _ ?_
          clear hK K
          try simp only [Act.put, List.setIfInBounds_toArray, List.set_cons_zero, List.set_cons_succ]
          refine wpAnyIn_ready (rs := [4]) (by kernel_rfl) (by simp) ?_
          refine AllReadyIn.cons rfl (fun K hK => ?_) AllReadyIn.nil
          go_simp
          refine hK _ _ ?_
          clear hK K
          try simp only [Act.put, List.setIfInBounds_toArray, List.set_cons_zero, List.set_cons_succ]
          refine wpAnyIn_ready (rs := [5]) (by kernel_rfl) (by simp) ?_
          refine AllReadyIn.cons rfl (fun K hK => ?_) AllReadyIn.nil
          go_simp
          refine hK _ _ ?_
          clear hK K
          try simp only [Act.put, List.setIfInBounds_toArray, List.set_cons_zero, List.set_cons_succ]
          refine wpAnyIn_done (by kernel_rfl) ?_ _
          gi_wp2
          exact HFIN.out _ rfl
        refine AllReadyIn.cons rfl (fun K hK => ?_) AllReadyIn.nil
        go_simp
        refine hK _ _ ?_
        clear hK K
        try simp only [Act.put, List.setIfInBounds_toArray, List.set_cons_zero, List.set_cons_succ]
        refine wpAnyIn_ready (rs := [1, 2]) (by kernel_rfl) (by simp) ?_
        refine AllReadyIn.cons rfl (fun K hK => ?_) ?_
        · go_simp
          refine hK _ _ ?_
          clear hK K
          try simp only [Act.put, List.setIfInBounds_toArray, List.set_cons_zero, List.set_cons_succ]
          refine wpAnyIn_ready (rs := [2, 4]) (by kernel_rfl) (by simp) ?_
          refine AllReadyIn.cons rfl (fun K hK => ?_) ?_
          · go_simp
            refine hK _ _ ?_
            clear hK K
            try simp only [Act.put, List.setIfInBounds_toArray, List.set_cons_zero, List.set_cons_succ]
            refine wpAnyIn_ready (rs := [4]) (by kernel_rfl) (by simp) ?_
            refine AllReadyIn.cons rfl (fun K hK => ?_) AllReadyIn.nil
            go_simp
            refine hK _ _ ?_
            clear hK K
            try simp only [Act.put, List.setIfInBounds_toArray, List.set_cons_zero, List.set_cons_succ]
            refine wpAnyIn_ready (rs := [5]) (by kernel_rfl) (by simp) ?_
            refine AllReadyIn.cons rfl (fun K hK => ?_) AllReadyIn.nil
            go_simp
            refine hK _ _ ?_
            clear hK K
            try simp only [Act.put, List.setIfInBounds_toArray, List.set_cons_zero, List.set_cons_succ]
            refine wpAnyIn_done (by kernel_rfl) ?_ _
            gi_wp2
            exact HFIN.out _ rfl
          refine AllReadyIn.cons rfl (fun K hK => ?_) AllReadyIn.nil
          go_simp
          refine hK _ _ ?_
          clear hK K
          try simp only [Act.put, List.setIfInBounds_toArray, List.set_cons_zero, List.set_cons_succ]
          refine wpAnyIn_ready (rs := [2]) (by kernel_rfl) (by simp) ?_
          refine AllReadyIn.cons rfl (fun K hK => ?_) AllReadyIn.nil
          go_simp
          refine hK _ _ ?_
          clear hK K
          try simp only [Act.put, List.setIfInBounds_toArray, List.set_cons_zero, List.set_cons_succ]
          refine wpAnyIn_ready (rs := [5]) (by kernel_rfl) (by simp) ?_
          refine AllReadyIn.cons rfl (fun K hK => ?_) AllReadyIn.nil
          go_simp
          refine hK _ _ ?_
          clear hK K
          try simp only [Act.put, List.setIfInBounds_toArray, List.set_cons_zero, List.set_cons_succ]
          refine wpAnyIn_done (by kernel_rfl) ?_ _
          gi_wp2
          exact HFIN.out _ rfl
        refine AllReadyIn.cons rfl (fun K hK => ?_) AllReadyIn.nil
        go_simp
        refine hK _ _ ?_
        clear hK K
        try simp only [Act.put, List.setIfInBounds_toArray, List.set_cons_zero, List.set_cons_succ]
        refine wpAnyIn_ready (rs := [1]) (by kernel_rfl) (by simp) ?_
        refine AllReadyIn.cons rfl (fun K hK => ?_) AllReadyIn.nil
        go_simp
        refine hK _ _ ?_
        clear hK K
        try simp only [Act.put, List.setIfInBounds_toArray, List.set_cons_zero, List.set_cons_succ]
        refine wpAnyIn_ready (rs := [4]) (by kernel_rfl) (by simp) ?_
        refine AllReadyIn.cons rfl (fun K hK => ?_) AllReadyIn.nil
        go_simp
        refine hK _ _ ?_
        clear hK K
        try simp only [Act.put, List.setIfInBounds_toArray, List.set_cons_zero, List.set_cons_succ]
        refine wpAnyIn_ready (rs := [5]) (by kernel_rfl) (by simp) ?_
        refine AllReadyIn.cons rfl (fun K hK => ?_) AllReadyIn.nil
        go_simp
        refine hK _ _ ?_
        clear hK K
        try simp only [Act.put, List.setIfInBounds_toArray, List.set_cons_zero, List.set_cons_succ]
        refine wpAnyIn_done (by kernel_rfl) ?_ _
        gi_wp2
        exact HFIN.out _ rfl
      refine AllReadyIn.cons rfl (fun K hK => ?_) ?_
      · go_simp
        refine hK _ _ ?_
        clear hK K
        try simp only [Act.put, List.setIfInBounds_toArray, List.set_cons_zero, List.set_cons_succ]
        refine wpAnyIn_ready (rs := [0, 2]) (by kernel_rfl) (by simp) ?_
        refine AllReadyIn.cons rfl (fun K hK => ?_) ?_
        · go_simp
          refine hK _ _ ?_
          clear hK K
          try simp only [Act.put, List.setIfInBounds_toArray, List.set_cons_zero, List.set_cons_succ]
          refine wpAnyIn_ready (rs := [2, 3]) (by kernel_rfl) (by simp) ?_
          refine AllReadyIn.cons rfl (fun K hK => ?_) ?_
          · go_simp
            refine hK _ _ ?_
            clear hK K
            try simp only [Act.put, List.setIfInBounds_toArray, List.set_cons_zero, List.set_cons_succ]
            refine wpAnyIn_ready (rs := [3]) (by kernel_rfl) (by simp) ?_
            refine AllReadyIn.cons rfl (fun K hK => ?_) AllReadyIn.nil
            go_simp
            refine hK _ _ ?_
            clear hK K
            try simp only [Act.put, List.setIfInBounds_toArray, List.set_cons_zero, List.set_cons_succ]
            refine wpAnyIn_ready (rs := [4]) (by kernel_rfl) (by simp) ?_
            refine AllReadyIn.cons rfl (fun K hK => ?_) AllReadyIn.nil
            go_simp
            refine hK _ _ ?_
            clear hK K
            try simp only [Act.put, List.setIfInBounds_toArray, List.set_cons_zero, List.set_cons_succ]
            refine wpAnyIn_ready (rs := [5]) (by kernel_rfl) (by simp) ?_
            refine AllReadyIn.cons rfl (fun K hK => ?_) AllReadyIn.nil
            go_simp
            refine hK _ _ ?_
            clear hK K
            try simp only [Act.put, List.setIfInBounds_toArray, List.set_cons_zero, List.set_cons_succ]
            refine wpAnyIn_done (by kernel_rfl) ?_ _
            gi_wp2
            exact HFIN.out _ rfl
          refine AllReadyIn.cons rfl (fun K hK => ?_) AllReadyIn.nil
          go_simp
          refine hK _ _ ?_
          clear hK K
          try simp only [Act.put, List.setIfInBounds_toArray, List.set_cons_zero, List.set_cons_succ]
          refine wpAnyIn_ready (rs := [2, 4]) (by kernel_rfl) (by simp) ?_
          refine AllReadyIn.cons rfl (fun K hK => ?_) ?_
          · go_simp
            refine hK _ _ ?_
            clear hK K
            try simp only [Act.put, List.setIfInBounds_toArray, List.set_cons_zero, List.set_cons_succ]
            refine wpAnyIn_ready (rs := [4]) (by kernel_rfl) (by simp) ?_
            refine AllReadyIn.cons rfl (fun K hK => ?_) AllReadyIn.nil
            go_simp
            refine hK _ _ ?_
            clear hK K
            try simp only [Act.put, List.setIfInBounds_toArray, List.set_cons_zero, List.set_cons_succ]
            refine wpAnyIn_ready (rs := [5]) (by kernel_rfl) (by simp) ?_
            refine AllReadyIn.cons rfl (fun K hK => ?_) AllReadyIn.nil
            go_simp
            refine hK _ _ ?_
            clear hK K
            try simp only [Act.put, List.setIfInBounds_toArray, List.set_cons_zero, List.set_cons_succ]
            refine wpAnyIn_done (by kernel_rfl) ?_ _
            gi_wp2
            exact HFIN.out _ rfl
          refine AllReadyIn.cons rfl (fun K hK => ?_) AllReadyIn.nil
          go_simp
          refine hK _ _ ?_
          clear hK K
          try simp only [Act.put, List.setIfInBounds_toArray, List.set_cons_zero, List.set_cons_succ]
          refine wpAnyIn_ready (rs := [2]) (by kernel_rfl) (by simp) ?_
          refine AllReadyIn.cons rfl (fun K hK => ?_) AllReadyIn.nil
          go_simp
          refine hK _ _ ?_
          clear hK K
          try simp only [Act.put, List.setIfInBounds_toArray, List.set_cons_zero, List.set_cons_succ]
          refine wpAnyIn_ready (rs := [5]) (by kernel_rfl) (by simp) ?_
          refine AllReadyIn.cons rfl (fun K hK => ?_) AllReadyIn.nil
          go_simp
          refine hK _ _ ?_
          clear hK K
          try simp only [Act.put, List.setIfInBounds_toArray, List.set_cons_zero, List.set_cons_succ]
          refine wpAnyIn_done (by kernel_rfl) ?_ _
          gi_wp2
          exact HFIN.out _ rfl
        refine AllReadyIn.cons rfl (fun K hK => ?_) AllReadyIn.nil
        go_simp
        refine hK _ _ ?_
        clear hK K
        try simp only [Act.put, List.setIfInBounds_toArray, List.set_cons_zero, List.set_cons_succ]
        refine wpAnyIn_ready (rs := [0]) (by kernel_rfl) (by simp) ?_
        refine AllReadyIn.cons rfl (fun K hK => ?_) AllReadyIn.nil
        go_simp
        refine hK _ _ ?_
        clear hK K
        try simp only [Act.put, List.setIfInBounds_toArray, List.set_cons_zero, List.set_cons_succ]
        refine wpAnyIn_ready (rs := [3]) (by kernel_rfl) (by simp) ?_
        refine AllReadyIn.cons rfl (fun K hK => ?_) AllReadyIn.nil
        go_simp
        refine hK _ _ ?_
        clear hK K
        try simp only [Act.put, List.setIfInBounds_toArray, List.set_cons_zero, List.set_cons_succ]
        refine wpAnyIn_ready (rs := [4]) (by kernel_rfl) (by simp) ?_
        refine AllReadyIn.cons rfl (fun K hK => ?_) AllReadyIn.nil
        go_simp
        refine hK _ _ ?_
        clear hK K
        try simp only [Act.put, List.setIfInBounds_toArray, List.set_cons_zero, List.set_cons_succ]
        refine wpAnyIn_ready (rs := [5]) (by kernel_rfl) (by simp) ?_
        refine AllReadyIn.cons rfl (fun K hK => ?_) AllReadyIn.nil
        go_simp
        refine hK _ _ ?_
        clear hK K
        try simp only [Act.put, List.setIfInBounds_toArray, List.set_cons_zero, List.set_cons_succ]
        refine wpAnyIn_done (by kernel_rfl) ?_ _
        gi_wp2
        exact HFIN.out _ rfl
      refine AllReadyIn.cons rfl (fun K hK => ?_) AllReadyIn.nil
      go_simp
      refine hK _ _ ?_
      clear hK K
      try simp only [Act.put, List.setIfInBounds_toArray, List.set_cons_zero, List.set_cons_succ]
      refine wpAnyIn_ready (rs := [0, 1]) (by kernel_rfl) (by simp) ?_
      refine AllReadyIn.cons rfl (fun K hK => ?_) ?_
      · go_simp
        refine hK _ _ ?_
        clear hK K
        try simp only [Act.put, List.setIfInBounds_toArray, List.set_cons_zero, List.set_cons_succ]
        refine wpAnyIn_ready (rs := [1, 3]) (by kernel_rfl) (by simp) ?_
        refine AllReadyIn.cons rfl (fun K hK => ?_) ?_
        · go_simp
          refine hK _ _ ?_
          clear hK K
          try simp only [Act.put, List.setIfInBounds_toArray, List.set_cons_zero, List.set_cons_succ]
          refine wpAnyIn_ready (rs := [3]) (by kernel_rfl) (by simp) ?_
          refine AllReadyIn.cons rfl (fun K hK => ?_) AllReadyIn.nil
          go_simp
          refine hK _ _ ?_
          clear hK K
          try simp only [Act.put, List.setIfInBounds_toArray, List.set_cons_zero, List.set_cons_succ]
          refine wpAnyIn_ready (rs := [4]) (by kernel_rfl) (by simp) ?_
          refine AllReadyIn.cons rfl (fun K hK => ?_) AllReadyIn.nil
          go_simp
          refine hK _ _ ?_
          clear hK K
          try simp only [Act.put, List.setIfInBounds_toArray, List.set_cons_zero, List.set_cons_succ]
          refine wpAnyIn_ready (rs := [5]) (by kernel_rfl) (by simp) ?_
          refine AllReadyIn.cons rfl (fun K hK => ?_) AllReadyIn.nil
          go_simp
          refine hK _ _ ?_
          clear hK K
          try simp only [Act.put, List.setIfInBounds_toArray, List.set_cons_zero, List.set_cons_succ]
          refine wpAnyIn_done (by kernel_rfl) ?_ _
          gi_wp2
          exact HFIN.out _ rfl
        refine AllReadyIn.cons rfl (fun K hK => ?_) AllReadyIn.nil
        go_simp
        refine hK _ _ ?_
        clear hK K
        try simp only [Act.put, List.setIfInBounds_toArray, List.set_cons_zero, List.set_cons_succ]
        refine wpAnyIn_ready (rs := [1]) (by kernel_rfl) (by simp) ?_
        refine AllReadyIn.cons rfl (fun K hK => ?_) AllReadyIn.nil
        go_simp
        refine hK _ _ ?_
        clear hK K
        try simp only [Act.put, List.setIfInBounds_toArray, List.set_cons_zero, List.set_cons_succ]
        refine wpAnyIn_ready (rs := [4]) (by kernel_rfl) (by simp) ?_
        refine AllReadyIn.cons rfl (fun K hK => ?_) AllReadyIn.nil
        go_simp
        refine hK _ _ ?_
        clear hK K
        try simp only [Act.put, List.setIfInBounds_toArray, List.set_cons_zero, List.set_cons_succ]
        refine wpAnyIn_ready (rs := [5]) (by kernel_rfl) (by simp) ?_
        refine AllReadyIn.cons rfl (fun K hK => ?_) AllReadyIn.nil
        go_simp
        refine hK _ _ ?_
        clear hK K
        try simp only [Act.put, List.setIfInBounds_toArray, List.set_cons_zero, List.set_cons_succ]
        refine wpAnyIn_done (by kernel_rfl) ?_ _
        gi_wp2
        exact HFIN.out _ rfl
      refine AllReadyIn.cons rfl (fun K hK => ?_) AllReadyIn.nil
      go_simp
      refine hK _ _ ?_
      clear hK K
      try simp only [Act.put, List.setIfInBounds_toArray, List.set_cons_zero, List.set_cons_succ]
      refine wpAnyIn_ready (rs := [0]) (by kernel_rfl) (by simp) ?_
      refine AllReadyIn.cons rfl (fun K hK => ?_) AllReadyIn.nil
      go_simp
      refine hK _ _ ?_
      clear hK K
      try simp only [Act.put, List.setIfInBounds_toArray, List.set_cons_zero, List.set_cons_succ]
      refine wpAnyIn_ready (rs := [3]) (by kernel_rfl) (by simp) ?_
      refine AllReadyIn.cons rfl (fun K hK => ?_) AllReadyIn.nil
      go_simp
      refine hK _ _ ?_
      clear hK K
      try simp only [Act.put, List.setIfInBounds_toArray, List.set_cons_zero, List.set_cons_succ]
      refine wpAnyIn_ready (rs := [4]) (by kernel_rfl) (by simp) ?_
      refine AllReadyIn.cons rfl (fun K hK => ?_) AllReadyIn.nil
      go_simp
      refine hK _ _ ?_
      clear hK K
      try simp only [Act.put, List.setIfInBounds_toArray, List.set_cons_zero, List.set_cons_succ]
      refine wpAnyIn_ready (rs := [5]) (by kernel_rfl) (by simp) ?_
      refine AllReadyIn.cons rfl (fun K hK => ?_) AllReadyIn.nil
      go_simp
      refine hK _ _ ?_
      clear hK K
      try simp only [Act.put, List.setIfInBounds_toArray, List.set_cons_zero, List.set_cons_succ]
      refine wpAnyIn_done (by kernel_rfl) ?_ _
      gi_wp2
      exact HFIN.out _ rfl
    · have HT : Hid (tornE xs = 0) := by show tornE xs = 0; rw [HTE.out, if_neg hte]
      have HFIN : Hid (∀ (tm : Array Value), tm = #[.slice a m c, undef, .pointer (some ⟨n0, 0, none⟩), .pointer (some ⟨n0 + 1, 0, none⟩), .int .i64 0, undef, undef, .slice a m c, .func (.func 30) #[] #[.pointer (some ⟨n0 + 1 + 1, 0, none⟩)], undef, undef, undef, undef, undef, undef, undef, undef, .int .i64 le, .slice a m c, .int .i64 m, .bool false, .slice ua cn uc, .int .i64 le, .int .i64 0] → bodyPostM Fence.wide 6 Try.prog Try.f21 (fun e w' => ∃ ra rc, e = .returned (.tuple #[.slice ra (recs 0 xs).length rc, .int .i64 (lastE (recs 0 xs)), .int .i64 (tornE xs)]) ∧ Told w ra (recs 0 xs).length rc ((recs 0 xs).map (·.2)) w') Exit.ret { tmps := tm, defers := [{ target := .collected D, args := #[] }] } (((W.setCell ⟨n0, 0, none⟩ (.slice ua cn uc)).setCell ⟨n0 + 1, 0, none⟩ (.int .i64 le)).drew)) := fun tm htm => by
        rw [htm, HT.out, HLE.out, HCN.out]
        obtain ⟨⟨v, hv1, rfl⟩, hv2, hv3, hv4⟩ := HFA.out
        refine ⟨by simp, .inl ⟨_, _, rfl, run_takeDeferred hv3, ?_⟩⟩
        refine ⟨.tuple #[.slice ua cn uc, .int .i64 le, .int .i64 0], ?_, ua, uc, rfl, hv4⟩
        have hv1' : ((((W.setCell ⟨n0, 0, none⟩ (.slice ua cn uc)).setCell ⟨n0 + 1, 0, none⟩ (.int .i64 le)).drew).putObj D (.deferred none)).cell? ⟨n0, 0, none⟩ = some (.slice ua cn uc) := hv1
        have hv2' : ((((W.setCell ⟨n0, 0, none⟩ (.slice ua cn uc)).setCell ⟨n0 + 1, 0, none⟩ (.int .i64 le)).drew).putObj D (.deferred none)).cell? ⟨n0 + 1, 0, none⟩ = some (.int .i64 le) := hv2
        simp [results, Try.f21, go_sem, hv1', hv2']
      gi_wp2
      refine wpIn_region_any mixed ?_
      change wpAnyIn _ _ _ _ _ _ _ _ _ (World.drew _)
      refine wpAnyIn_ready (rs := [0, 1, 2]) (by kernel_rfl) (by simp) ?_
      refine AllReadyIn.cons rfl (fun K hK => ?_) ?_
      · go_simp
        refine hK _ _ ?_
        clear hK K
        try simp only [Act.put, List.setIfInBounds_toArray, List.set_cons_zero, List.set_cons_succ]
        refine wpAnyIn_ready (rs := [1, 2, 3]) (by kernel_rfl) (by simp) ?_
        refine AllReadyIn.cons rfl (fun K hK => ?_) ?_
        · go_simp
          refine hK _ _ ?_
          clear hK K
          try simp only [Act.put, List.setIfInBounds_toArray, List.set_cons_zero, List.set_cons_succ]
          refine wpAnyIn_ready (rs := [2, 3]) (by kernel_rfl) (by simp) ?_
          refine AllReadyIn.cons rfl (fun K hK => ?_) ?_
          · go_simp
            refine hK _ _ ?_
            clear hK K
            try simp only [Act.put, List.setIfInBounds_toArray, List.set_cons_zero, List.set_cons_succ]
            refine wpAnyIn_ready (rs := [3]) (by kernel_rfl) (by simp) ?_
            refine AllReadyIn.cons rfl (fun K hK => ?_) AllReadyIn.nil
            go_simp
            refine hK _ _ ?_
            clear hK K
            try simp only [Act.put, List.setIfInBounds_toArray, List.set_cons_zero, List.set_cons_succ]
            refine wpAnyIn_ready (rs := [4]) (by kernel_rfl) (by simp) ?_
            refine AllReadyIn.cons rfl (fun K hK => ?_) AllReadyIn.nil
            go_simp
            refine hK _ _ ?_
            clear hK K
            try simp only [Act.put, List.setIfInBounds_toArray, List.set_cons_zero, List.set_cons_succ]
            refine wpAnyIn_ready (rs := [5]) (by kernel_rfl) (by simp) ?_
            refine AllReadyIn.cons rfl (fun K hK => ?_) AllReadyIn.nil
            go_simp
            refine hK _ _ ?_
            clear hK K
            try simp only [Act.put, List.setIfInBounds_toArray, List.set_cons_zero, List.set_cons_succ]
            refine wpAnyIn_done (by kernel_rfl) ?_ _
            gi_wp2
            exact HFIN.out _ rfl
          refine AllReadyIn.cons rfl (fun K hK => ?_) AllReadyIn.nil
          go_simp
          refine hK _ _ ?_
          clear hK K
          try simp only [Act.put, List.setIfInBounds_toArray, List.set_cons_zero, List.set_cons_succ]
          refine wpAnyIn_ready (rs := [2, 4]) (by kernel_rfl) (by simp) ?_
          refine AllReadyIn.cons rfl (fun K hK => ?_) ?_
          · go_simp
            refine hK _ _ ?_
            clear hK K
            try simp only [Act.put, List.setIfInBounds_toArray, List.set_cons_zero, List.set_cons_succ]
            refine wpAnyIn_ready (rs := [4]) (by kernel_rfl) (by simp) ?_
            refine AllReadyIn.cons rfl (fun K hK => ?_) AllReadyIn.nil
            go_simp
            refine hK _ _ ?_
            clear hK K
            try simp only [Act.put, List.setIfInBounds_toArray, List.set_cons_zero, List.set_cons_succ]
            refine wpAnyIn_ready (rs := [5]) (by kernel_rfl) (by simp) ?_
            refine AllReadyIn.cons rfl (fun K hK => ?_) AllReadyIn.nil
            go_simp
            refine hK _ _ ?_
            clear hK K
            try simp only [Act.put, List.setIfInBounds_toArray, List.set_cons_zero, List.set_cons_succ]
            refine wpAnyIn_done (by kernel_rfl) ?_ _
            gi_wp2
            exact HFIN.out _ rfl
          refine AllReadyIn.cons rfl (fun K hK => ?_) AllReadyIn.nil
          go_simp
          refine hK _ _ ?_
          clear hK K
          try simp only [Act.put, List.setIfInBounds_toArray, List.set_cons_zero, List.set_cons_succ]
          refine wpAnyIn_ready (rs := [2]) (by kernel_rfl) (by simp) ?_
          refine AllReadyIn.cons rfl (fun K hK => ?_) AllReadyIn.nil
          go_simp
          refine hK _ _ ?_
          clear hK K
          try simp only [Act.put, List.setIfInBounds_toArray, List.set_cons_zero, List.set_cons_succ]
          refine wpAnyIn_ready (rs := [5]) (by kernel_rfl) (by simp) ?_
          refine AllReadyIn.cons rfl (fun K hK => ?_) AllReadyIn.nil
          go_simp
          refine hK _ _ ?_
          clear hK K
          try simp only [Act.put, List.setIfInBounds_toArray, List.set_cons_zero, List.set_cons_succ]
          refine wpAnyIn_done (by kernel_rfl) ?_ _
          gi_wp2
          exact HFIN.out _ rfl
        refine AllReadyIn.cons rfl (fun K hK => ?_) ?_
        · go_simp
          refine hK _ _ ?_
          clear hK K
          try simp only [Act.put, List.setIfInBounds_toArray, List.set_cons_zero, List.set_cons_succ]
          refine wpAnyIn_ready (rs := [1, 3]) (by kernel_rfl) (by simp) ?_
          refine AllReadyIn.cons rfl (fun K hK => ?_) ?_
          · go_simp
            refine hK _ _ ?_
            clear hK K
            try simp only [Act.put, List.setIfInBounds_toArray, List.set_cons_zero, List.set_cons_succ]
            refine wpAnyIn_ready (rs := [3]) (by kernel_rfl) (by simp) ?_
            refine AllReadyIn.cons rfl (fun K hK => ?_) AllReadyIn.nil
            go_simp
            refine hK _ _ ?_
            clear hK K
            try simp only [Act.put, List.setIfInBounds_toArray, List.set_cons_zero, List.set_cons_succ]
            refine wpAnyIn_ready (rs := [4]) (by kernel_rfl) (by simp) ?_
            refine AllReadyIn.cons rfl (fun K hK => ?_) AllReadyIn.nil
            go_simp
            refine hK _ _ ?_
            clear hK K
            try simp only [Act.put, List.setIfInBounds_toArray, List.set_cons_zero, List.set_cons_succ]
            refine wpAnyIn_ready (rs := [5]) (by kernel_rfl) (by simp) ?_
            refine AllReadyIn.cons rfl (fun K hK => ?_) AllReadyIn.nil
            go_simp
            refine hK _ _ ?_
            clear hK K
            try simp only [Act.put, List.setIfInBounds_toArray, List.set_cons_zero, List.set_cons_succ]
            refine wpAnyIn_done (by kernel_rfl) ?_ _
            gi_wp2
            exact HFIN.out _ rfl
          refine AllReadyIn.cons rfl (fun K hK => ?_) AllReadyIn.nil
          go_simp
          refine hK _ _ ?_
          clear hK K
          try simp only [Act.put, List.setIfInBounds_toArray, List.set_cons_zero, List.set_cons_succ]
          refine wpAnyIn_ready (rs := [1]) (by kernel_rfl) (by simp) ?_
          refine AllReadyIn.cons rfl (fun K hK => ?_) AllReadyIn.nil
          go_simp
          refine hK _ _ ?_
          clear hK K
          try simp only [Act.put, List.setIfInBounds_toArray, List.set_cons_zero, List.set_cons_succ]
          refine wpAnyIn_ready (rs := [4]) (by kernel_rfl) (by simp) ?_
          refine AllReadyIn.cons rfl (fun K hK => ?_) AllReadyIn.nil
          go_simp
          refine hK _ _ ?_
          clear hK K
          try simp only [Act.put, List.setIfInBounds_toArray, List.set_cons_zero, List.set_cons_succ]
          refine wpAnyIn_ready (rs := [5]) (by kernel_rfl) (by simp) ?_
          refine AllReadyIn.cons rfl (fun K hK => ?_) AllReadyIn.nil
          go_simp
          refine hK _ _ ?_
          clear hK K
          try simp only [Act.put, List.setIfInBounds_toArray, List.set_cons_zero, List.set_cons_succ]
          refine wpAnyIn_done (by kernel_rfl) ?_ _
          gi_wp2
          exact HFIN.out _ rfl
        refine AllReadyIn.cons rfl (fun K hK => ?_) AllReadyIn.nil
        go_simp
        refine hK _ _ ?_
        clear hK K
        try simp only [Act.put, List.setIfInBounds_toArray, List.set_cons_zero, List.set_cons_succ]
        refine wpAnyIn_ready (rs := [1, 2]) (by kernel_rfl) (by simp) ?_
        refine AllReadyIn.cons rfl (fun K hK => ?_) ?_
        · go_simp
          refine hK _ _ ?_
          clear hK K
          try simp only [Act.put, List.setIfInBounds_toArray, List.set_cons_zero, List.set_cons_succ]
          refine wpAnyIn_ready (rs := [2, 4]) (by kernel_rfl) (by simp) ?_
          refine AllReadyIn.cons rfl (fun K hK => ?_) ?_
          · go_simp
            refine hK _ _ ?_
            clear hK K
            try simp only [Act.put, List.setIfInBounds_toArray, List.set_cons_zero, List.set_cons_succ]
            refine wpAnyIn_ready (rs := [4]) (by kernel_rfl) (by simp) ?_
            refine AllReadyIn.cons rfl (fun K hK => ?_) AllReadyIn.nil
            go_simp
            refine hK _ _ ?_
            clear hK K
            try simp only [Act.put, List.setIfInBounds_toArray, List.set_cons_zero, List.set_cons_succ]
            refine wpAnyIn_ready (rs := [5]) (by kernel_rfl) (by simp) ?_
            refine AllReadyIn.cons rfl (fun K hK => ?_) AllReadyIn.nil
            go_simp
            refine hK _ _ ?_
            clear hK K
            try simp only [Act.put, List.setIfInBounds_toArray, List.set_cons_zero, List.set_cons_succ]
            refine wpAnyIn_done (by kernel_rfl) ?_ _
            gi_wp2
            exact HFIN.out _ rfl
          refine AllReadyIn.cons rfl (fun K hK => ?_) AllReadyIn.nil
          go_simp
          refine hK _ _ ?_
          clear hK K
          try simp only [Act.put, List.setIfInBounds_toArray, List.set_cons_zero, List.set_cons_succ]
          refine wpAnyIn_ready (rs := [2]) (by kernel_rfl) (by simp) ?_
          refine AllReadyIn.cons rfl (fun K hK => ?_) AllReadyIn.nil
          go_simp
          refine hK _ _ ?_
          clear hK K
          try simp only [Act.put, List.setIfInBounds_toArray, List.set_cons_zero, List.set_cons_succ]
          refine wpAnyIn_ready (rs := [5]) (by kernel_rfl) (by simp) ?_
          refine AllReadyIn.cons rfl (fun K hK => ?_) AllReadyIn.nil
          go_simp
          refine hK _ _ ?_
          clear hK K
          try simp only [Act.put, List.setIfInBounds_toArray, List.set_cons_zero, List.set_cons_succ]
          refine wpAnyIn_done (by kernel_rfl) ?_ _
          gi_wp2
          exact HFIN.out _ rfl
        refine AllReadyIn.cons rfl (fun K hK => ?_) AllReadyIn.nil
        go_simp
        refine hK _ _ ?_
        clear hK K
        try simp only [Act.put, List.setIfInBounds_toArray, List.set_cons_zero, List.set_cons_succ]
        refine wpAnyIn_ready (rs := [1]) (by kernel_rfl) (by simp) ?_
        refine AllReadyIn.cons rfl (fun K hK => ?_) AllReadyIn.nil
        go_simp
        refine hK _ _ ?_
        clear hK K
        try simp only [Act.put, List.setIfInBounds_toArray, List.set_cons_zero, List.set_cons_succ]
        refine wpAnyIn_ready (rs := [4]) (by kernel_rfl) (by simp) ?_
        refine AllReadyIn.cons rfl (fun K hK => ?_) AllReadyIn.nil
        go_simp
        refine hK _ _ ?_
        clear hK K
        try simp only [Act.put, List.setIfInBounds_toArray, List.set_cons_zero, List.set_cons_succ]
        refine wpAnyIn_ready (rs := [5]) (by kernel_rfl) (by simp) ?_
        refine AllReadyIn.cons rfl (fun K hK => ?_) AllReadyIn.nil
        go_simp
        refine hK _ _ ?_
        clear hK K
        try simp only [Act.put, List.setIfInBounds_toArray, List.set_cons_zero, List.set_cons_succ]
        refine wpAnyIn_done (by kernel_rfl) ?_ _
        gi_wp2
        exact HFIN.out _ rfl
      refine AllReadyIn.cons rfl (fun K hK => ?_) ?_
      · go_simp
        refine hK _ _ ?_
        clear hK K
        try simp only [Act.put, List.setIfInBounds_toArray, List.set_cons_zero, List.set_cons_succ]
        refine wpAnyIn_ready (rs := [0, 2]) (by kernel_rfl) (by simp) ?_
        refine AllReadyIn.cons rfl (fun K hK => ?_) ?_
        · go_simp
          refine hK _ _ ?_
          clear hK K
          try simp only [Act.put, List.setIfInBounds_toArray, List.set_cons_zero, List.set_cons_succ]
          refine wpAnyIn_ready (rs := [2, 3]) (by kernel_rfl) (by simp) ?_
          refine AllReadyIn.cons rfl (fun K hK => ?_) ?_
          · go_simp
            refine hK _ _ ?_
            clear hK K
            try simp only [Act.put, List.setIfInBounds_toArray, List.set_cons_zero, List.set_cons_succ]
            refine wpAnyIn_ready (rs := [3]) (by kernel_rfl) (by simp) ?_
            refine AllReadyIn.cons rfl (fun K hK => ?_) AllReadyIn.nil
            go_simp
            refine hK _ _ ?_
            clear hK K
            try simp only [Act.put, List.setIfInBounds_toArray, List.set_cons_zero, List.set_cons_succ]
            refine wpAnyIn_ready (rs := [4]) (by kernel_rfl) (by simp) ?_
            refine AllReadyIn.cons rfl (fun K hK => ?_) AllReadyIn.nil
            go_simp
            refine hK _ _ ?_
            clear hK K
            try simp only [Act.put, List.setIfInBounds_toArray, List.set_cons_zero, List.set_cons_succ]
            refine wpAnyIn_ready (rs := [5]) (by kernel_rfl) (by simp) ?_
            refine AllReadyIn.cons rfl (fun K hK => ?_) AllReadyIn.nil
            go_simp
            refine hK _ _ ?_
            clear hK K
            try simp only [Act.put, List.setIfInBounds_toArray, List.set_cons_zero, List.set_cons_succ]
            refine wpAnyIn_done (by kernel_rfl) ?_ _
            gi_wp2
            exact HFIN.out _ rfl
          refine AllReadyIn.cons rfl (fun K hK => ?_) AllReadyIn.nil
          go_simp
          refine hK _ _ ?_
          clear hK K
          try simp only [Act.put, List.setIfInBounds_toArray, List.set_cons_zero, List.set_cons_succ]
          refine wpAnyIn_ready (rs := [2, 4]) (by kernel_rfl) (by simp) ?_
          refine AllReadyIn.cons rfl (fun K hK => ?_) ?_
          · go_simp
            refine hK _ _ ?_
            clear hK K
            try simp only [Act.put, List.setIfInBounds_toArray, List.set_cons_zero, List.set_cons_succ]
            refine wpAnyIn_ready (rs := [4]) (by kernel_rfl) (by simp) ?_
            refine AllReadyIn.cons rfl (fun K hK => ?_) AllReadyIn.nil
            go_simp
            refine hK _ _ ?_
            clear hK K
            try simp only [Act.put, List.setIfInBounds_toArray, List.set_cons_zero, List.set_cons_succ]
            refine wpAnyIn_ready (rs := [5]) (by kernel_rfl) (by simp) ?_
            refine AllReadyIn.cons rfl (fun K hK => ?_) AllReadyIn.nil
            go_simp
            refine hK _ _ ?_
            clear hK K
            try simp only [Act.put, List.setIfInBounds_toArray, List.set_cons_zero, List.set_cons_succ]
            refine wpAnyIn_done (by kernel_rfl) ?_ _
            gi_wp2
            exact HFIN.out _ rfl
          refine AllReadyIn.cons rfl (fun K hK => ?_) AllReadyIn.nil
          go_simp
          refine hK _ _ ?_
          clear hK K
          try simp only [Act.put, List.setIfInBounds_toArray, List.set_cons_zero, List.set_cons_succ]
          refine wpAnyIn_ready (rs := [2]) (by kernel_rfl) (by simp) ?_
          refine AllReadyIn.cons rfl (fun K hK => ?_) AllReadyIn.nil
          go_simp
          refine hK _ _ ?_
          clear hK K
          try simp only [Act.put, List.setIfInBounds_toArray, List.set_cons_zero, List.set_cons_succ]
          refine wpAnyIn_ready (rs := [5]) (by kernel_rfl) (by simp) ?_
          refine AllReadyIn.cons rfl (fun K hK => ?_) AllReadyIn.nil
          go_simp
          refine hK _ _ ?_
          clear hK K
          try simp only [Act.put, List.setIfInBounds_toArray, List.set_cons_zero, List.set_cons_succ]
          refine wpAnyIn_done (by kernel_rfl) ?_ _
          gi_wp2
          exact HFIN.out _ rfl
        refine AllReadyIn.cons rfl (fun K hK => ?_) AllReadyIn.nil
        go_simp
        refine hK _ _ ?_
        clear hK K
        try simp only [Act.put, List.setIfInBounds_toArray, List.set_cons_zero, List.set_cons_succ]
        refine wpAnyIn_ready (rs := [0]) (by kernel_rfl) (by simp) ?_
        refine AllReadyIn.cons rfl (fun K hK => ?_) AllReadyIn.nil
        go_simp
        refine hK _ _ ?_
        clear hK K
        try simp only [Act.put, List.setIfInBounds_toArray, List.set_cons_zero, List.set_cons_succ]
        refine wpAnyIn_ready (rs := [3]) (by kernel_rfl) (by simp) ?_
        refine AllReadyIn.cons rfl (fun K hK => ?_) AllReadyIn.nil
        go_simp
        refine hK _ _ ?_
        clear hK K
        try simp only [Act.put, List.setIfInBounds_toArray, List.set_cons_zero, List.set_cons_succ]
        refine wpAnyIn_ready (rs := [4]) (by kernel_rfl) (by simp) ?_
        refine AllReadyIn.cons rfl (fun K hK => ?_) AllReadyIn.nil
        go_simp
        refine hK _ _ ?_
        clear hK K
        try simp only [Act.put, List.setIfInBounds_toArray, List.set_cons_zero, List.set_cons_succ]
        refine wpAnyIn_ready (rs := [5]) (by kernel_rfl) (by simp) ?_
        refine AllReadyIn.cons rfl (fun K hK => ?_) AllReadyIn.nil
        go_simp
        refine hK _ _ ?_
        clear hK K
        try simp only [Act.put, List.setIfInBounds_toArray, List.set_cons_zero, List.set_cons_succ]
        refine wpAnyIn_done (by kernel_rfl) ?_ _
        gi_wp2
        exact HFIN.out _ rfl
      refine AllReadyIn.cons rfl (fun K hK => ?_) AllReadyIn.nil
      go_simp
      refine hK _ _ ?_
      clear hK K
      try simp only [Act.put, List.setIfInBounds_toArray, List.set_cons_zero, List.set_cons_succ]
      refine wpAnyIn_ready (rs := [0, 1]) (by kernel_rfl) (by simp) ?_
      refine AllReadyIn.cons rfl (fun K hK => ?_) ?_
      · go_simp
        refine hK _ _ ?_
        clear hK K
        try simp only [Act.put, List.setIfInBounds_toArray, List.set_cons_zero, List.set_cons_succ]
        refine wpAnyIn_ready (rs := [1, 3]) (by kernel_rfl) (by simp) ?_
        refine AllReadyIn.cons rfl (fun K hK => ?_) ?_
        · go_simp
          refine hK _ _ ?_
          clear hK K
          try simp only [Act.put, List.setIfInBounds_toArray, List.set_cons_zero, List.set_cons_succ]
          refine wpAnyIn_ready (rs := [3]) (by kernel_rfl) (by simp) ?_
          refine AllReadyIn.cons rfl (fun K hK => ?_) AllReadyIn.nil
          go_simp
          refine hK _ _ ?_
          clear hK K
          try simp only [Act.put, List.setIfInBounds_toArray, List.set_cons_zero, List.set_cons_succ]
          refine wpAnyIn_ready (rs := [4]) (by kernel_rfl) (by simp) ?_
          refine AllReadyIn.cons rfl (fun K hK => ?_) AllReadyIn.nil
          go_simp
          refine hK _ _ ?_
          clear hK K
          try simp only [Act.put, List.setIfInBounds_toArray, List.set_cons_zero, List.set_cons_succ]
          refine wpAnyIn_ready (rs := [5]) (by kernel_rfl) (by simp) ?_
          refine AllReadyIn.cons rfl (fun K hK => ?_) AllReadyIn.nil
          go_simp
          refine hK _ _ ?_
          clear hK K
          try simp only [Act.put, List.setIfInBounds_toArray, List.set_cons_zero, List.set_cons_succ]
          refine wpAnyIn_done (by kernel_rfl) ?_ _
          gi_wp2
          exact HFIN.out _ rfl
        refine AllReadyIn.cons rfl (fun K hK => ?_) AllReadyIn.nil
        go_simp
        refine hK _ _ ?_
        clear hK K
        try simp only [Act.put, List.setIfInBounds_toArray, List.set_cons_zero, List.set_cons_succ]
        refine wpAnyIn_ready (rs := [1]) (by kernel_rfl) (by simp) ?_
        refine AllReadyIn.cons rfl (fun K hK => ?_) AllReadyIn.nil
        go_simp
        refine hK _ _ ?_
        clear hK K
        try simp only [Act.put, List.setIfInBounds_toArray, List.set_cons_zero, List.set_cons_succ]
        refine wpAnyIn_ready (rs := [4]) (by kernel_rfl) (by simp) ?_
        refine AllReadyIn.cons rfl (fun K hK => ?_) AllReadyIn.nil
        go_simp
        refine hK _ _ ?_
        clear hK K
        try simp only [Act.put, List.setIfInBounds_toArray, List.set_cons_zero, List.set_cons_succ]
        refine wpAnyIn_ready (rs := [5]) (by kernel_rfl) (by simp) ?_
        refine AllReadyIn.cons rfl (fun K hK => ?_) AllReadyIn.nil
        go_simp
        refine hK _ _ ?_
        clear hK K
        try simp only [Act.put, List.setIfInBounds_toArray, List.set_cons_zero, List.set_cons_succ]
        refine wpAnyIn_done (by kernel_rfl) ?_ _
        gi_wp2
        exact HFIN.out _ rfl
      refine AllReadyIn.cons rfl (fun K hK => ?_) AllReadyIn.nil
      go_simp
      refine hK _ _ ?_
      clear hK K
      try simp only [Act.put, List.setIfInBounds_toArray, List.set_cons_zero, List.set_cons_succ]
      refine wpAnyIn_ready (rs := [0]) (by kernel_rfl) (by simp) ?_
      refine AllReadyIn.cons rfl (fun K hK => ?_) AllReadyIn.nil
      go_simp
      refine hK _ _ ?_
      clear hK K
      try simp only [Act.put, List.setIfInBounds_toArray, List.set_cons_zero, List.set_cons_succ]
      refine wpAnyIn_ready (rs := [3]) (by kernel_rfl) (by simp) ?_
      refine AllReadyIn.cons rfl (fun K hK => ?_) AllReadyIn.nil
      go_simp
      refine hK _ _ ?_
      clear hK K
      try simp only [Act.put, List.setIfInBounds_toArray, List.set_cons_zero, List.set_cons_succ]
      refine wpAnyIn_ready (rs := [4]) (by kernel_rfl) (by simp) ?_
      refine AllReadyIn.cons rfl (fun K hK => ?_) AllReadyIn.nil
      go_simp
      refine hK _ _ ?_
      clear hK K
      try simp only [Act.put, List.setIfInBounds_toArray, List.set_cons_zero, List.set_cons_succ]
      refine wpAnyIn_ready (rs := [5]) (by kernel_rfl) (by simp) ?_
      refine AllReadyIn.cons rfl (fun K hK => ?_) AllReadyIn.nil
      go_simp
      refine hK _ _ ?_
      clear hK K
      try simp only [Act.put, List.setIfInBounds_toArray, List.set_cons_zero, List.set_cons_succ]
      refine wpAnyIn_done (by kernel_rfl) ?_ _
      gi_wp2
      exact HFIN.out _ rfl
  case stop =>
    rintro D c pre W hD hpre hF
    exact hF.elim
end Go.Proofs.Ytopljcabcknaeaa
