/- Regions in a round of a range over a function; contracts of paths, and of sorting names. Contract of Needed: what is reached, rising. -/
import Derived.Test.YtojobiefambkoaaGreatDoorFB
import Derived.RangeFuncOwn
import Derived.RangeFuncFrom
import Derived.Deep.RegionHeld3
import Derived.Maps.AppendAt
namespace Go.Proofs.YtojobiefambkoaaGreatDoor
open Go.RowKit Go.Sort Go.Shelf
section
variable {F : Fence} {n : Nat} {P : Program} {l : Nat}
theorem wpInR {o : Oper} {a : Act} {w : World} {K : Act → World → Prop} {Q : Exit → Act → World → Prop} (hd : ∀ c, o.op ≠ Op.defer c) (h : Oper.wpIn F n P o a w K Q) : Oper.wpIn (F.inRound l) n P o a w K Q := by
  unfold Oper.wpIn at *
  rw [Oper.semAt_eq _ _ _ hd] at *
  exact h
theorem wpOpInR {ops : Array Oper} {Q : Exit → Act → World → Prop} {i : Nat} {K : Act → World → Prop} {a : Act} {w : World} (hd : ∀ (j : Nat) (o : Oper) c, ops[j]? = some o → o.op ≠ Op.defer c) (h : wpOpIn F n P ops Q i K a w) : wpOpIn (F.inRound l) n P ops Q i K a w := by
  unfold wpOpIn at *
  cases ho : ops[i]? with
  | none => simpa [ho] using h
  | some o =>
    simp only [ho] at h ⊢
    split
    · rename_i hw
      rw [if_pos hw] at h
      exact wpInR (fun c => hd i o c ho) h
    · rename_i hw
      rw [if_neg hw] at h
      exact h
theorem wpAnyInR {ops : Array Oper} {md : Region.Mode} {Q : Exit → Act → World → Prop} (hd : ∀ (j : Nat) (o : Oper) c, ops[j]? = some o → o.op ≠ Op.defer c) : ∀ (fuel : Nat) (listed : Array Bool) (a : Act) (w : World), wpAnyIn F n P md ops Q fuel listed a w → wpAnyIn (F.inRound l) n P md ops Q fuel listed a w
  | 0, _, _, _, h => h
  | fuel + 1, _, _, _, h => ⟨h.1, fun i hi => wpOpInR hd (wpOpIn_mono (fun a' w' h' => wpAnyInR hd fuel _ a' w' h') (h.2 i hi))⟩
def noDefer (ops : Array Oper) : Bool := ops.toList.all fun o => match o.op with | .defer _ => false | _ => true
theorem noDefer_spec {ops : Array Oper} (h : noDefer ops = true) (j : Nat) (o : Oper) (c) (ho : ops[j]? = some o) : o.op ≠ Op.defer c := by
  intro e
  unfold noDefer at h
  rw [List.all_eq_true] at h
  have := h o (by rw [Array.mem_toList_iff]; exact Array.mem_of_getElem? ho)
  rw [e] at this
  cases this
end
/-- The end alone. -/
def OnlyN (Q : Exit → Act → World → Prop) : Exit → Act → World → Prop
  | .normal, a, w => Q .normal a w
  | _, _, _ => False
theorem onlyN_imp {Q : Exit → Act → World → Prop} : ∀ (e : Exit) (a : Act) (w : World), OnlyN Q e a w → Q e a w := fun e a w h => by
  cases e <;> first | exact h | exact False.elim h
theorem onlyN_out {Q : Exit → Act → World → Prop} : ¬ LetsOut (OnlyN Q) := fun ⟨_, _, h⟩ => h
section
variable {n : Nat} {P : Program} {l : Nat}
theorem opIn_of_wp {o : Oper} {a : Act} {w : World} {K : Act → World → Prop} {Q : Exit → Act → World → Prop} (hd : ∀ c, o.op ≠ Op.defer c) (h : Oper.wp P o a w K Q) : Oper.wpIn (Fence.wide.inRound l) n P o a w K Q := by
  refine wpInR hd ?_
  unfold Oper.wpIn
  rw [Oper.semAt_eq _ _ _ hd]
  refine ⟨fun _ _ => trivial, ?_⟩
  unfold Oper.wp at h
  generalize (execOp a.eval o).run P w = r at *
  cases r with
  | ok x w' =>
    cases x <;> simp only [Oper.upon, Oper.uponIn] at h ⊢
    case value => exact h
    case skip => exact h
    case defer => exact h
    case enter =>
      refine ⟨fun e => ?_, callsIn_wide.2 h⟩
      simp [Fence.wide] at e
    case row =>
      refine ⟨fun e => ?_, fun c cs _ => ?_⟩
      · simp [Fence.wide] at e
      · obtain ⟨v, w2, h1, h2⟩ := h c cs
        exact ⟨v, w2, h1, stepsIn_wide.2 h2⟩
  | halt x w' =>
    cases x <;> simp only [Oper.upon, Oper.uponIn] at h ⊢
    case panic => exact h
theorem opsIn_of_wp {ops : Array Oper} {Q : Exit → Act → World → Prop} {i : Nat} {K : Act → World → Prop} {a : Act} {w : World} (hd : ∀ (j : Nat) (o : Oper) c, ops[j]? = some o → o.op ≠ Op.defer c) (hQ : ¬ LetsOut Q) (h : wpOp P ops Q i K a w) : wpOpIn (Fence.wide.inRound l) n P ops Q i K a w := by
  unfold wpOp at h
  unfold wpOpIn
  cases ho : ops[i]? with
  | none => simpa [ho] using h
  | some o =>
    simp only [ho] at h ⊢
    split
    · rename_i hw
      rw [if_pos hw] at h
      rcases h with h | h
      · exact opIn_of_wp (fun c => hd i o c ho) h
      · exact absurd h.2 hQ
    · rename_i hw
      rw [if_neg hw] at h
      exact ⟨fun _ _ => trivial, h⟩
theorem anyIn_of_any {ops : Array Oper} {md : Region.Mode} {Q : Exit → Act → World → Prop} (hd : ∀ (j : Nat) (o : Oper) c, ops[j]? = some o → o.op ≠ Op.defer c) (hQ : ¬ LetsOut Q) : ∀ (fuel : Nat) (listed : Array Bool) (a : Act) (w : World), wpAny P md ops Q fuel listed a w → wpAnyIn (Fence.wide.inRound l) n P md ops Q fuel listed a w
  | 0, _, _, _, h => h
  | fuel + 1, _, _, _, h => ⟨h.1, fun i hi => wpOpIn_mono (fun a' w' h' => anyIn_of_any hd hQ fuel _ a' w' h') (opsIn_of_wp hd hQ (h.2 i hi))⟩
/-- A region in a round, in whatever order, S held. -/
theorem region_in {id : Nat} {ops : Array Oper} {Q : Exit → Act → World → Prop} {S : World → Prop} {a : Act} {w : World} (hnd : noDefer ops = true) (hm : P.follows .mixedOrders = true) (hS : S w.drew)
    (h : S w.drew → wpAnyH P .any ops (OnlyN Q) S ops.size (Array.replicate ops.size false) a w.drew) : (Code.region id ops true).wpIn (Fence.wide.inRound l) n P Q a w :=
  Code.wpIn_mono onlyN_imp (wpIn_region_any hm (anyIn_of_any (noDefer_spec hnd) onlyN_out _ _ _ _ (wpAny_of_held _ _ _ _ (h hS))))
/-- An append in a region, its row one's own. -/
theorem stepH_append {w : World} {ops : Array Oper} {o : Oper} {a : Act} {K : Act → World → Prop} {Q : Exit → Act → World → Prop} {E : Prop} (hgd : o.guard = none) (s x : Operand) (t : TypeId)
    (ho : o.op = .call { callee := .builtin .append, args := #[s, x], argTypes := #[t, t] })
    (base : Nat) (e : TypeId) (i : TypeInfo) (z : Value) (size bytes : Nat) (ht : P.underlying t = some (.slice e)) (hi : P.info? e = some i) (hz : i.zero = some z)
    (hsize : i.size = size) (hby : i.bytes = bytes) (hzs : z.cells.size = size) (hsz : 0 < size)
    (v : Value) (m0 : Nat) (xs : List Value) (hs : a.eval s = v) (hown : w.ownsRow base e size v m0 xs)
    (ad : Addr) (m c : Nat) (news : List Value) (hx : a.eval x = .slice (some ad) m c) (hl : news.length = m * size) (hnews : ∀ j u, news[j]? = some u → w.cell? (ad.add j) = some u) (h1 : ∀ u ∈ news, u.oneCell' = true)
    (h63 : m0 + m ≤ maxLen) (hbytes : (m0 + m) * bytes ≤ 140737488355328) (hbase : base ≤ w.heap.size)
    (h : ∀ v' w', w'.ownsRow base e size v' (m0 + m) (xs ++ news) → w.grownBy w' v.ownBlock → (v'.ownBlock = v.ownBlock ∨ v'.ownBlock = some w.heap.size) → K (a.put o.dst v') w') :
    if Region.wanted o (yielded ops a.tmps) = true then Oper.wp P o a w K Q else E := by
  have hw : Region.wanted o (yielded ops a.tmps) = true := by simp [Region.wanted, hgd]
  rw [if_pos hw]
  obtain ⟨v', w', hr, h2, h3, h4, h5⟩ := run_append_own_at (P := P) w base t o.type e i z size bytes ht hi hz hsize hby hzs hsz v m0 xs hown ad m c news hl hnews h1 h63 hbytes hbase
  unfold Oper.wp
  simp [execOp, ho, resolve, invoke, builtin, hs, hx, hr, Result.andThen, Oper.upon]
  exact h v' w' h2 h3 h5
end
/-- Names rising, just those of which p holds. -/
structure UpN (p : Nm → Prop) (xs : List Nm) : Prop where
  all : ∀ x, x ∈ xs ↔ p x
  up : xs.Pairwise ltN
theorem UpN.like {p : Nm → Prop} {xs ys : List Nm} (h : UpN p xs) (h' : UpN p ys) : xs = ys := rise_ext ltN_irr ltN_tr h.up h'.up fun x => (h.all x).trans (h'.all x).symm
theorem flatM (l : List Nm) : l.flatMap encM = flatN l := rfl
theorem upn_of {l : List Nm} {d' : Array Nm} (hp : PermIn 0 l.toArray.size l.toArray d') (hs : SortedIn (ltOf cfN) 0 l.toArray.size d') (hnd : l.Nodup) : UpN (· ∈ l) d'.toList ∧ d'.size = l.length := by
  obtain ⟨h1, _, h3⟩ := hp
  have h4 : d'.toList.Perm l := by
    have e1 : d'.extract 0 l.toArray.size = d' := by rw [← h1]; simp
    have e2 : l.toArray.extract 0 l.toArray.size = l.toArray := by simp
    rw [e1, e2] at h3
    exact h3
  have hnd' : d'.toList.Nodup := h4.nodup_iff.2 hnd
  refine ⟨⟨fun x => h4.mem_iff, ?_⟩, by simpa using h1⟩
  rw [List.pairwise_iff_getElem]
  intro i j hi hj hij
  have hsz : d'.toList.length = l.toArray.size := by simpa using h1
  have h5 := hs i j (Nat.zero_le _) hij (by omega)
  have hi' : i < d'.size := by simpa using hi
  have hj' : j < d'.size := by simpa using hj
  rw [getElem!_pos d' i hi', getElem!_pos d' j hj', ltNB_not] at h5
  refine ltN_tri _ _ (by simpa using h5) fun e => ?_
  exact (List.pairwise_iff_getElem.1 hnd') i j hi hj hij e
/-- What sorting leaves. -/
def SoTo (w w' : World) (B : Nat) (v : Value) (l : List Nm) : Prop := ∃ xs, UpN (· ∈ l) xs ∧ xs.length = l.length ∧ OwnN w' B v xs ∧ w.grownBy w' v.ownBlock
theorem f27 (B : Nat) (u : Value) (l : List Nm) (w : World) (h : OwnN w B u l) (hnd : l.Nodup) (hl : l.length ≤ 4000000000000) :
    Calls Tryz.prog 32 #[u, .func (.func 33) #[] #[]] w fun e w' => e = .returned (.tuple #[]) ∧ Hid (SoTo w w' B u l) := by
  rcases h.2 with ⟨e, h0⟩ | ⟨g, cap, cur, e, h1, h2, h3, h4, h5, h6⟩
  · subst e
    obtain rfl : l = [] := List.length_eq_zero_iff.1 h0
    refine (y70 none 0 0 (by omega) _ w).mono ?_
    rintro e w' ⟨rfl, rfl⟩
    exact ⟨rfl, [], ⟨fun x => Iff.rfl, List.Pairwise.nil⟩, rfl, h, ⟨rfl, rfl, rfl, Nat.le_refl _, fun _ _ _ => rfl⟩⟩
  · subst e
    refine (y70g g cap cur l w h2 h6 (by omega)).mono ?_
    rintro e w' ⟨rfl, d', n, os, hp, hs, rfl⟩
    obtain ⟨hR, hl⟩ := upn_of hp hs hnd
    have hl' : d'.toList.length = l.length := by simpa using hl
    refine ⟨rfl, d'.toList, hR, hl', ?_, grownBy_sortedK (enc := encM) (k := 2) d'⟩
    have := ownsRow_sortedK (n := n) (os := os) encM_len (l := d'.toList) hl' h1 h2 h3 h4 h5
    show World.ownsRow _ _ _ _ _ _ _
    rw [hl', ← flatM]
    simpa using this
set_option maxRecDepth 100000 in
theorem f26 (q : Option Addr) (a : Option Addr) (k c : Nat) (w : World) : Calls Tryz.prog 31 #[.pointer q, .slice a k c] w fun e w' => e = .returned (.func (.func 60) #[] #[.pointer (some ⟨w.heap.size + 1, 0, none⟩), .pointer (some ⟨w.heap.size, 0, none⟩)]) ∧ w' = (w.alloc (.cells #[.pointer q] 25)).alloc (.cells #[.slice a k c] 23) := by
  go_enter Tryz.func31, Tryz.ntmps31
  go_wp2_with fail
  go_ret
  exact ⟨rfl, rfl⟩
/-- Behind an append to a row of names that a box holds. -/
theorem kp_append {W W1 w5 : World} {n0 k : Nat} {v v' : Value} {xs : List Value} (hb : Boxed W n0 23 v) (hr : W.ownsRow n0 49 2 v k xs) (h1 : Below W.heap.size W W1) (hg : W1.grownBy w5 v.ownBlock) : KpR (fun k => k = n0) n0 W (w5.setCell ⟨n0, 0, none⟩ v') := by
  have hn0 : n0 < W.heap.size := hb.lt
  have hrow : ∀ g, v.ownBlock = some g → n0 ≤ g := fun g hg => (hr.lt g hg).1
  have hbel : Below n0 W (w5.setCell ⟨n0, 0, none⟩ v') := ((h1.mono (Nat.le_of_lt hn0)).grown hg (by have := h1.size; omega) hrow).setCell (p := ⟨n0, 0, none⟩) (Nat.le_refl _) v'
  refine ⟨hbel, fun g o hgo hty => ?_⟩
  have hlt : g < W.heap.size := (Array.getElem?_eq_some_iff.1 hgo).1
  have hne : g ≠ n0 := fun e => by
    subst e
    have hb' : W.heap[g]? = some (.cells #[v] 23 (0, 0)) := hb
    rw [hb'] at hgo
    cases hgo
    rcases hty with ⟨cu, t, f, e, ht⟩ | ⟨es, ck, e⟩
    · cases e
      rcases ht with ht | ht | ⟨_, ht⟩
      · cases ht
      · cases ht
      · exact ht rfl
    · cases e
  have hnr : some g ≠ v.ownBlock := fun e => by
    obtain ⟨cu, hc⟩ := row_typed hr g e.symm
    rw [hc] at hgo
    cases hgo
    rcases hty with ⟨cu', t, f, e', ht⟩ | ⟨es, ck, e'⟩
    · cases e'
      rcases ht with ht | ht | ⟨ht, _⟩
      · cases ht
      · cases ht
      · exact ht rfl
    · cases e'
  rw [heap_setCell_other _ _ _ _ hne, hg.block g (Nat.lt_of_lt_of_le hlt h1.size) hnr, h1.block g hlt]
  exact hgo
end Go.Proofs.YtojobiefambkoaaGreatDoor

namespace Go.Proofs.YtojobiefambkoaaGreatDoor
open Go.RowKit Go.Shelf Go.Sort
attribute [local go_sem] Oper.semAt_some
/-- What the loop's body keeps: the box holds the ends that came. -/
def NdI (n0 : Nat) (w : World) (pre : List Pc) (W : World) : Prop := (∃ a c, Boxed W n0 23 (.slice a pre.length c) ∧ W.ownsRow n0 49 2 (.slice a pre.length c) pre.length (flatN (pre.map fun x => hd0 x.c))) ∧ Below n0 w W
theorem ndI_it {n0 : Nat} {w : World} {s : List Pc} {A C : World} (h : NdI n0 w s A) (hi : ItL n0 A C) : NdI n0 w s C := by
  obtain ⟨⟨a, c, h1, h2⟩, h3⟩ := h
  exact ⟨⟨a, c, hi.kt.2 n0 _ 23 _ (by decide) h1, row_keep h2 fun g hg => by
    obtain ⟨cu, hc⟩ := row_typed h2 g hg
    rw [hc]
    exact hi.kt.2 g cu 49 _ (by decide) hc⟩, h3.trans hi.bel⟩
def NdTo (m : Hp) (rs : List Nm) (e : Ending) (w w' : World) : Prop := ∃ xs a c, e = .returned (.slice a (List.length (α := Nm) xs) c) ∧ Hid (UpN (Rch m rs) xs ∧ OwnN w' w.heap.size (.slice a xs.length c) xs ∧ Below w.heap.size w w' ∧ xs.length ≤ (univ m rs).length)
set_option maxRecDepth 100000 in
set_option maxHeartbeats 4000000 in
theorem f9 (m : Hp) (p : Value) (rs : List Nm) (ra : Option Addr) (rc : Nat) (w : World) (hp : HpV w p m) (hr : NamesAt w (.slice ra rs.length rc) rs) (hm : GoodH m) (hw : WfH m) (hrw : ∀ x ∈ rs, wfN x) (hu : rs.length + 256 * (univ m rs).length ≤ 1000000000000) :
    Calls Tryz.prog 8 #[p, .slice ra rs.length rc] w fun e w' => NdTo m rs e w w' := by
  refine (callsIn_wide (n := 6)).1 ?_
  obtain ⟨i0, hi, hz, hs, hby⟩ := info23
  obtain ⟨q, hq⟩ : ∃ q, rs.length = q := ⟨_, rfl⟩
  obtain ⟨n0, hn0⟩ : ∃ n0, w.heap.size = n0 := ⟨_, rfl⟩
  have HX : Hid (HpV w p m ∧ NamesAt w (.slice ra rs.length rc) rs ∧ GoodH m ∧ WfH m ∧ (∀ x ∈ rs, wfN x) ∧ rs.length = q ∧ rs.length + 256 * (univ m rs).length ≤ 1000000000000) := ⟨hp, hr, hm, hw, hrw, hq, hu⟩
  have hpf : ∃ q, p = .pointer q := by
    rcases hp with ⟨h, _⟩ | ⟨_, _, _, _, h, _⟩ <;> exact ⟨_, h⟩
  obtain ⟨hv, rfl⟩ := hpf
  rw [hq]
  have HU : Hid (256 * (univ m rs).length ≤ 1000000000000) := by show 256 * (univ m rs).length ≤ 1000000000000; omega
  clear hp hr hm hw hrw hq hu
  obtain ⟨W0, hW0⟩ : ∃ W0, ((w.alloc (.cells #[.slice none 0 0] 23)).alloc (.cells #[.pointer hv] 25)).alloc (.cells #[.slice ra q rc] 23) = W0 := ⟨_, rfl⟩
  have HW0 : Hid (Boxed W0 n0 23 (.slice none 0 0) ∧ W0.heap[n0 + 1]? = some (.cells #[.pointer hv] 25 (0, 0)) ∧ W0.heap[n0 + 2]? = some (.cells #[.slice ra q rc] 23 (0, 0)) ∧ Below n0 w W0 ∧ W0.heap.size = n0 + 3) := by
    rw [← hW0, ← hn0]
    refine ⟨((Boxed.new w 23 _).alloc _).alloc _, ?_, ?_, ((((Below.refl _ w).alloc (Nat.le_refl _) _).alloc (by simp) _).alloc (by simp; omega) _), by simp⟩
    · exact (Boxed.alloc (B := w.heap.size + 1) (t := 25) (v := .pointer hv) (by
        have h := Boxed.new (w.alloc (.cells #[.slice none 0 0] 23)) 25 (.pointer hv)
        simpa using h) _)
    · have h := Boxed.new ((w.alloc (.cells #[.slice none 0 0] 23)).alloc (.cells #[.pointer hv] 25)) 23 (.slice ra q rc)
      rw [World.size_alloc, World.size_alloc] at h
      exact h
  have H26 := f26 hv ra q rc (w.alloc (.cells #[.slice none 0 0] 23))
  rw [hW0] at H26
  simp only [World.size_alloc] at H26
  rw [hn0] at H26
  refine callsIn_of_wp_marks Tryz.func8 rfl trivial ?_ rfl
  simp only [Tryz.ntmps8, List.size_toArray, List.length_cons, List.length_nil, Nat.reduceAdd, Nat.reduceSub, Array.replicate_succ, Array.replicate_zero, List.push_toArray, List.append_toArray, List.nil_append, List.cons_append]
  gi_wp2_with (refine ⟨trivial, ?_⟩; gi_at_call 31; refine (callsIn_wide.2 H26).mono ?_; rintro e w' ⟨rfl, hw'⟩)
  obtain rfl := hw'.symm
  clear H26 hW0
  have hsz0 : W0.heap.size = n0 + 3 := HW0.out.2.2.2.2
  have HSq : ItSeq Fence.wide 5 Tryz.prog 60 #[.pointer (some ⟨n0 + 2, 0, none⟩), .pointer (some ⟨n0 + 1, 0, none⟩)] encP (GdP m rs) (KpR (fun k => k = n0) n0) (fun xs => xs.map Pc.c = allC m rs) (fun _ => True) (fun l => l.map Pc.c <+: allC m rs) W0 := by
    intro l J Jx W hW hJ _ hY h0
    obtain ⟨k1, k2, k3, k4, k5, k6, k7⟩ := HX.out
    obtain ⟨b1, b2, b3, b4, b5⟩ := HW0.out
    have hwW : Below w.heap.size w W := (b4.mono (by omega)).trans (hW.mono (by omega))
    refine (pt_in (fun k => k = n0) m (.pointer hv) rs ra rc n0 (n0 + 2) (n0 + 1) l 5 (by decide) w W J Jx k1 k2 (by omega) hwW (by have := hW.size; omega) k3 k4 k5 k7 (by rw [k6]; exact (hW.block (n0 + 2) (by omega)).trans b3) ((hW.block (n0 + 1) (by omega)).trans b2) ⟨by omega, by omega⟩ hJ hY h0).mono ?_
    rintro e W' ⟨h1, h2 | ⟨pre, h2⟩⟩
    · exact ⟨h1, .inl h2⟩
    · exact ⟨h1, .inr ⟨pre, trivial, h2⟩⟩
  refine rf_it (encs := encP) rfl (by decide) (gf := 60) (lb := #[.pointer (some ⟨n0 + 2, 0, none⟩), .pointer (some ⟨n0 + 1, 0, none⟩)]) rfl trivial (enters_of Tryz.func60 (by kernel_rfl) rfl) HSq kpR_t (fun W l r r' hl h => kpR_b W l r r' (by omega) h) (fun _ => rfl)
    (NdI n0 w) (fun _ _ _ => False) (fun s A C h hi => ndI_it h (hi.mono (by omega))) (fun _ _ _ _ h _ => h) ⟨⟨none, 0, HW0.out.1, World.ownsRow_nil _ _ _ _⟩, HW0.out.2.2.2.1⟩
    (fun x a' W => a' = { tmps := #[.pointer hv, .slice ra q rc, undef, undef, .slice none 0 0, .pointer (some ⟨n0, 0, none⟩), .pointer x.v, .pointer hv, .slice ra q rc, .func (.func 60) #[] #[.pointer (some ⟨n0 + 2, 0, none⟩), .pointer (some ⟨n0 + 1, 0, none⟩)], .pointer x.v, undef, undef, undef, undef, undef, undef, undef, undef, undef, undef], defers := [] } ∧ GdP m rs x W)
    (fun x a' A C h hi => ⟨h.1, h.2.1.kt hi.kt, h.2.2⟩)
    ?assign ?body ?done ?stop
  case assign =>
    rintro lp pre x W K hI hG hK
    gi_wp2
    exact hK _ _ (KeepsFrom.refl _ _) ⟨Below.refl _ _, fun _ _ h _ => h⟩ hI ⟨rfl, hG⟩
  case body =>
    rintro lp pre ⟨xv, xc⟩ a' W ⟨⟨la, lc, hbx, hrow⟩, hbw⟩ ⟨rfl, hG⟩ hNx
    obtain ⟨⟨x1, x2⟩, r, hc⟩ := chn_cons hG.2.1
    have hxc : xc = (x1, x2) :: r := hc
    subst hxc
    obtain ⟨pg, av, hpe, hpb, hpr⟩ := hG.1
    simp only [Value.pointer.injEq] at hpe
    subst hpe
    obtain ⟨xc, hxc⟩ : ∃ xc, ((x1, x2) :: r : List Nm) = xc := ⟨_, rfl⟩
    have hhd : hd0 xc = (x1, x2) := by rw [← hxc]; rfl
    rw [hxc] at hG hNx ⊢
    obtain ⟨lk, hlk⟩ : ∃ lk, pre.length = lk := ⟨_, rfl⟩
    have hlt : lk < (univ m rs).length := by
      have h1 := hNx.length_le
      have h2 := allC_len m rs
      simp only [List.length_map, List.length_append, List.length_cons, List.length_nil] at h1
      omega
    clear hNx
    rw [hlk] at hbx hrow
    have hl12 : lk + 1 ≤ 1000000000000 := by have := HU.out; omega
    have hsW : n0 < W.heap.size := hbx.lt
    obtain ⟨WD, hWD⟩ : ∃ WD, W.drew = WD := ⟨_, rfl⟩
    have HbD : Hid (Below W.heap.size W WD) := by rw [← hWD]; exact (Below.refl _ _).drew
    have hpb' := (HbD.out.block pg (Array.getElem?_eq_some_iff.1 hpb).1).trans hpb
    have p0 : WD.cell? ⟨pg, 0, none⟩ = some (.int .i64 x1) := by rw [cell_of_row WD pg 0 _ 73 (0, 0) hpb']; rfl
    have p1 : WD.cell? ⟨pg, 1, none⟩ = some (.int .i64 x2) := by rw [cell_of_row WD pg 1 _ 73 (0, 0) hpb']; rfl
    have hbD : Boxed WD n0 23 (.slice la lk lc) := (HbD.out.block n0 hsW).trans hbx
    have hrD : WD.ownsRow n0 49 2 (.slice la lk lc) lk (flatN (pre.map fun x => hd0 x.c)) := row_keep hrow fun g hg => HbD.out.block g (hrow.lt g hg).2
    have cL : ∀ ob : Obj, (WD.alloc ob).cell? ⟨n0, 0, none⟩ = some (.slice la lk lc) := fun ob => (hbD.alloc ob).cell
    have cL0 : WD.cell? ⟨n0, 0, none⟩ = some (.slice la lk lc) := hbD.cell
    have HRa : Hid ((WD.alloc (.cells #[.int .i64 x1, .int .i64 x2] 49)).ownsRow n0 49 2 (.slice la lk lc) lk (flatN (pre.map fun x => hd0 x.c))) := hrD.alloc _
    have HSz : Hid (n0 ≤ (WD.alloc (.cells #[.int .i64 x1, .int .i64 x2] 49)).heap.size) := by
      show n0 ≤ _
      have := HbD.out.size
      simp; omega
    have HEND : Hid (∀ (w5 : World) (a5 : Option Addr) (c5 : Nat), w5.ownsRow n0 49 2 (.slice a5 (lk + 1) c5) (lk + 1) (flatN (pre.map fun x => hd0 x.c) ++ flatN [(x1, x2)]) → (WD.alloc (.cells #[.int .i64 x1, .int .i64 x2] 49)).grownBy w5 (Value.slice la lk lc).ownBlock →
        KeepsFrom W0.heap.size W (w5.setCell ⟨n0, 0, none⟩ (.slice a5 (lk + 1) c5)) ∧ KpR (fun k => k = n0) n0 W (w5.setCell ⟨n0, 0, none⟩ (.slice a5 (lk + 1) c5)) ∧ NdI n0 w (pre ++ [⟨some ⟨pg, 0, none⟩, xc⟩]) (w5.setCell ⟨n0, 0, none⟩ (.slice a5 (lk + 1) c5)) ∧ (w5.cell? ⟨pg, 0, none⟩ = some (.int .i64 x1) ∧ w5.cell? ⟨pg, 1, none⟩ = some (.int .i64 x2)) ∧ (w5.cell? ⟨n0, 0, none⟩ = some (.slice la lk lc) ∧ w5.frozen? ⟨n0, 0, none⟩ = false) ∧ ((w5.setCell ⟨n0, 0, none⟩ (.slice a5 (lk + 1) c5)).cell? ⟨pg, 0, none⟩ = some (.int .i64 x1) ∧ (w5.setCell ⟨n0, 0, none⟩ (.slice a5 (lk + 1) c5)).cell? ⟨pg, 1, none⟩ = some (.int .i64 x2))) := fun w5 a5 c5 hown hgr => by
      obtain ⟨hv1, hv2, hr2, hk2, hb2⟩ := hbD.appended (by decide) hrD (by have := HbD.out.size; omega) (Nat.le_refl _) hown hgr
      have hal : Below W.heap.size W (WD.alloc (.cells #[.int .i64 x1, .int .i64 x2] 49)) := HbD.out.alloc HbD.out.size _
      have hkp : KpR (fun k => k = n0) n0 W (w5.setCell ⟨n0, 0, none⟩ (.slice a5 (lk + 1) c5)) := kp_append hbx hrow hal hgr
      have hp6 := hkp.2 pg _ hpb (.inl ⟨_, 73, _, rfl, .inr (.inl rfl)⟩)
      have hpn : pg ≠ n0 := fun e => by
        have hb' : W.heap[n0]? = some (.cells #[.slice la lk lc] 23 (0, 0)) := hbx
        rw [e, hb'] at hpb
        cases hpb
      have hp5 : w5.heap[pg]? = some (.cells #[.int .i64 x1, .int .i64 x2, av] 73 (0, 0)) := by
        rw [heap_setCell_other _ _ _ _ hpn] at hp6
        exact hp6
      refine ⟨((KeepsOthers.mk HbD.out.size (fun k o hk _ => (HbD.out.block k (Array.getElem?_eq_some_iff.1 hk).1).trans hk)).trans hk2).from _, hkp, ⟨⟨a5, c5, ?_, ?_⟩, hbw.trans (((HbD.out.mono (by omega)).trans hb2))⟩, ⟨?_, ?_⟩, ⟨hv1.cell, hv1.frozen⟩, ⟨?_, ?_⟩⟩
      · rw [List.length_append, hlk]
        exact hv2
      · rw [List.length_append, hlk, List.map_append, flatN_append]
        show World.ownsRow _ _ _ _ _ _ (_ ++ flatN [hd0 xc])
        rw [hhd]
        exact hr2
      · rw [cell_of_row w5 pg 0 _ 73 (0, 0) hp5]; rfl
      · rw [cell_of_row w5 pg 1 _ 73 (0, 0) hp5]; rfl
      · rw [cell_of_row _ pg 0 _ 73 (0, 0) hp6]; rfl
      · rw [cell_of_row _ pg 1 _ 73 (0, 0) hp6]; rfl
    have HS0 : WD.cell? ⟨pg, 0, none⟩ = some (.int .i64 x1) ∧ WD.cell? ⟨pg, 1, none⟩ = some (.int .i64 x2) := ⟨p0, p1⟩
    have HS1 : (WD.alloc (.cells #[.int .i64 x1, .int .i64 x2] 49)).cell? ⟨pg, 0, none⟩ = some (.int .i64 x1) ∧ (WD.alloc (.cells #[.int .i64 x1, .int .i64 x2] 49)).cell? ⟨pg, 1, none⟩ = some (.int .i64 x2) := by
      have h := (heap_alloc_old WD (.cells #[.int .i64 x1, .int .i64 x2] 49) (Array.getElem?_eq_some_iff.1 hpb').1).trans hpb'
      exact ⟨by rw [cell_of_row _ pg 0 _ 73 (0, 0) h]; rfl, by rw [cell_of_row _ pg 1 _ 73 (0, 0) h]; rfl⟩
    clear hbx hrow hbw hG hpb hpr hpb' hbD hrD hxc hhd hlk hlt hc p0 p1 hsW hsz0
    gi_wp2
    refine region_in (S := fun u => u.cell? ⟨pg, 0, none⟩ = some (.int .i64 x1) ∧ u.cell? ⟨pg, 1, none⟩ = some (.int .i64 x2)) (by kernel_rfl) (by kernel_rfl) (by rw [hWD]; exact HS0) (fun hHeld => ?_)
    rw [hWD] at hHeld ⊢
    clear hWD
    (refine wpAnyH_take (i := 1) (v := ?_) (by simp only [List.getElem?_toArray, List.getElem?_cons_zero, List.getElem?_cons_succ]; rfl) (by kernel_rfl) (by kernel_rfl) (by kernel_rfl) (fun _ _ _ h => h) (Or.inl ⟨by rfl, ?_⟩) (by assumption) ?_; rotate_left; (· (intro w hSw; (try dsimp only at hSw); go_simp <;> with_reducible rfl)); try simp only [Act.put, List.setIfInBounds_toArray, List.set_cons_zero, List.set_cons_succ])
    (refine wpAnyH_take (i := 2) (v := ?_) (by simp only [List.getElem?_toArray, List.getElem?_cons_zero, List.getElem?_cons_succ]; rfl) (by kernel_rfl) (by kernel_rfl) (by kernel_rfl) (fun _ _ _ h => h) (Or.inl ⟨by rfl, ?_⟩) (by assumption) ?_; rotate_left; (· (intro w hSw; (try dsimp only at hSw); go_simp <;> with_reducible rfl)); try simp only [Act.put, List.setIfInBounds_toArray, List.set_cons_zero, List.set_cons_succ])
    (refine wpAnyH_take (i := 3) (v := ?_) (by simp only [List.getElem?_toArray, List.getElem?_cons_zero, List.getElem?_cons_succ]; rfl) (by kernel_rfl) (by kernel_rfl) (by kernel_rfl) (fun _ _ _ h => h) (Or.inl ⟨by rfl, ?_⟩) (by assumption) ?_; rotate_left; (· (intro w hSw; (try dsimp only at hSw); go_simp <;> with_reducible rfl)); try simp only [Act.put, List.setIfInBounds_toArray, List.set_cons_zero, List.set_cons_succ])
    (refine wpAnyH_take (i := 4) (v := ?_) (by simp only [List.getElem?_toArray, List.getElem?_cons_zero, List.getElem?_cons_succ]; rfl) (by kernel_rfl) (by kernel_rfl) (by kernel_rfl) (fun _ _ _ h => h) (Or.inl ⟨by rfl, ?_⟩) (by assumption) ?_; rotate_left; (· (intro w hSw; (try dsimp only at hSw); go_simp <;> with_reducible rfl)); try simp only [Act.put, List.setIfInBounds_toArray, List.set_cons_zero, List.set_cons_succ])
    refine wpAnyH_ready (rs := [0, 5]) (by kernel_rfl) (by simp) ?_
    refine AllReadyH.cons (by simp only [List.getElem?_toArray, List.getElem?_cons_zero]; rfl) (fun K hK => ?_) ?_
    · skip
      go_simp
      refine hK.out _ _ ?_ (fun hHeld => ?_)
      · exact hHeld
      clear hK K
      try simp only [Act.put, List.setIfInBounds_toArray, List.set_cons_zero, List.set_cons_succ]
      refine wpAnyH_ready (rs := [5]) (by kernel_rfl) (by simp) ?_
      refine AllReadyH.cons (by simp only [List.getElem?_toArray, List.getElem?_cons_zero, List.getElem?_cons_succ]; rfl) (fun K hK => ?_) AllReadyH.nil
      go_simp
      refine hK.out _ _ ?_ (fun hHeld => ?_)
      · exact HS1
      clear hK K
      try simp only [Act.put, List.setIfInBounds_toArray, List.set_cons_zero, List.set_cons_succ]
      refine wpAnyH_ready (rs := [6]) (by kernel_rfl) (by simp) ?_
      refine AllReadyH.cons (by simp only [List.getElem?_toArray, List.getElem?_cons_zero, List.getElem?_cons_succ]; rfl) (fun K hK => ?_) AllReadyH.nil
      refine stepH_append (by rfl) _ _ 23 (by rfl) n0 49 i0 (.agg #[.int .i64 0, .int .i64 0]) 2 16 Tryz.underlying23 hi hz hs hby rfl (by decide) (.slice la lk lc) lk (flatN (pre.map fun x => hd0 x.c)) (by rfl) HRa.out ⟨WD.heap.size, 0, none⟩ 1 1 (flatN [(x1, x2)]) (by rfl) (by rfl) (newsN_new WD (x1, x2)) (flatN_one _) (by unfold maxLen; omega) (by omega) HSz.out ?_
      intro v5 w5 hown5 hgr5 _
      obtain ⟨a5, c5, rfl⟩ := owns_form hown5
      obtain ⟨e1, e2, e3, e4, e5, e6⟩ := HEND.out w5 a5 c5 hown5 hgr5
      have HFin : Hid (KeepsFrom W0.heap.size W (w5.setCell ⟨n0, 0, none⟩ (.slice a5 (lk + 1) c5)) ∧ KpR (fun k => k = n0) n0 W (w5.setCell ⟨n0, 0, none⟩ (.slice a5 (lk + 1) c5)) ∧ NdI n0 w (pre ++ [⟨some ⟨pg, 0, none⟩, xc⟩]) (w5.setCell ⟨n0, 0, none⟩ (.slice a5 (lk + 1) c5))) := ⟨e1, e2, e3⟩
      clear hown5 hgr5 e1 e2 e3
      refine hK.out _ _ ?_ (fun hHeld => ?_)
      · exact e4
      clear hK K
      try simp only [Act.put, List.setIfInBounds_toArray, List.set_cons_zero, List.set_cons_succ]
      refine wpAnyH_ready (rs := [7]) (by kernel_rfl) (by simp) ?_
      refine AllReadyH.cons (by simp only [List.getElem?_toArray, List.getElem?_cons_zero, List.getElem?_cons_succ]; rfl) (fun K hK => ?_) AllReadyH.nil
      obtain ⟨g0, g1⟩ := e5
      go_simp
      refine hK.out _ _ ?_ (fun hHeld => ?_)
      · exact e6
      clear hK K
      try simp only [Act.put, List.setIfInBounds_toArray, List.set_cons_zero, List.set_cons_succ]
      refine wpAnyH_done (by kernel_rfl) ?_ _
      simp only [OnlyN]
      gi_wp2
      exact HFin.out
    refine AllReadyH.cons (by simp only [List.getElem?_toArray, List.getElem?_cons_zero, List.getElem?_cons_succ]; rfl) (fun K hK => ?_) AllReadyH.nil
    go_simp
    refine hK.out _ _ ?_ (fun hHeld => ?_)
    · exact HS1
    clear hK K
    try simp only [Act.put, List.setIfInBounds_toArray, List.set_cons_zero, List.set_cons_succ]
    refine wpAnyH_ready (rs := [0]) (by kernel_rfl) (by simp) ?_
    refine AllReadyH.cons (by simp only [List.getElem?_toArray, List.getElem?_cons_zero]; rfl) (fun K hK => ?_) AllReadyH.nil
    have cL1 := cL (.cells #[.int .i64 x1, .int .i64 x2] 49)
    go_simp
    refine hK.out _ _ ?_ (fun hHeld => ?_)
    · exact HS1
    clear hK K
    try simp only [Act.put, List.setIfInBounds_toArray, List.set_cons_zero, List.set_cons_succ]
    refine wpAnyH_ready (rs := [6]) (by kernel_rfl) (by simp) ?_
    refine AllReadyH.cons (by simp only [List.getElem?_toArray, List.getElem?_cons_zero, List.getElem?_cons_succ]; rfl) (fun K hK => ?_) AllReadyH.nil
    refine stepH_append (by rfl) _ _ 23 (by rfl) n0 49 i0 (.agg #[.int .i64 0, .int .i64 0]) 2 16 Tryz.underlying23 hi hz hs hby rfl (by decide) (.slice la lk lc) lk (flatN (pre.map fun x => hd0 x.c)) (by rfl) HRa.out ⟨WD.heap.size, 0, none⟩ 1 1 (flatN [(x1, x2)]) (by rfl) (by rfl) (newsN_new WD (x1, x2)) (flatN_one _) (by unfold maxLen; omega) (by omega) HSz.out ?_
    intro v5 w5 hown5 hgr5 _
    obtain ⟨a5, c5, rfl⟩ := owns_form hown5
    obtain ⟨e1, e2, e3, e4, e5, e6⟩ := HEND.out w5 a5 c5 hown5 hgr5
    have HFin : Hid (KeepsFrom W0.heap.size W (w5.setCell ⟨n0, 0, none⟩ (.slice a5 (lk + 1) c5)) ∧ KpR (fun k => k = n0) n0 W (w5.setCell ⟨n0, 0, none⟩ (.slice a5 (lk + 1) c5)) ∧ NdI n0 w (pre ++ [⟨some ⟨pg, 0, none⟩, xc⟩]) (w5.setCell ⟨n0, 0, none⟩ (.slice a5 (lk + 1) c5))) := ⟨e1, e2, e3⟩
    clear hown5 hgr5 e1 e2 e3
    refine hK.out _ _ ?_ (fun hHeld => ?_)
    · exact e4
    clear hK K
    try simp only [Act.put, List.setIfInBounds_toArray, List.set_cons_zero, List.set_cons_succ]
    refine wpAnyH_ready (rs := [7]) (by kernel_rfl) (by simp) ?_
    refine AllReadyH.cons (by simp only [List.getElem?_toArray, List.getElem?_cons_zero, List.getElem?_cons_succ]; rfl) (fun K hK => ?_) AllReadyH.nil
    obtain ⟨g0, g1⟩ := e5
    go_simp
    refine hK.out _ _ ?_ (fun hHeld => ?_)
    · exact e6
    clear hK K
    try simp only [Act.put, List.setIfInBounds_toArray, List.set_cons_zero, List.set_cons_succ]
    refine wpAnyH_done (by kernel_rfl) ?_ _
    simp only [OnlyN]
    gi_wp2
    exact HFin.out
  case done =>
    rintro D zs W hD hall ⟨⟨la, lc, hbx, hrow⟩, hbw⟩ hK
    have HL : Hid ((zs.map fun x => hd0 x.c).Nodup ∧ zs.length ≤ (univ m rs).length ∧ ∀ x, x ∈ (zs.map fun x => hd0 x.c) ↔ Rch m rs x) := by
      have e : (zs.map fun x => hd0 x.c) = (allC m rs).map hd0 := by rw [← hall, List.map_map]; rfl
      rw [e]
      refine ⟨allC_nod m rs, ?_, allC_mem m rs⟩
      have h1 := allC_len m rs
      rw [← hall, List.length_map] at h1
      exact h1
    clear hall
    obtain ⟨lk, hlk⟩ : ∃ lk, zs.length = lk := ⟨_, rfl⟩
    rw [hlk] at hbx hrow
    have H27 : Hid (Calls Tryz.prog 32 #[.slice la lk lc, .func (.func 33) #[] #[]] W fun e w' => e = .returned (.tuple #[]) ∧ w'.cell? ⟨n0, 0, none⟩ = some (.slice la lk lc) ∧ Hid (SoTo W w' n0 (.slice la lk lc) (zs.map fun x => hd0 x.c))) := by
      refine (f27 n0 (.slice la lk lc) (zs.map fun x => hd0 x.c) W ?_ HL.out.1 ?_).mono (fun e w' h => ⟨h.1, ?_, h.2⟩)
      · show World.ownsRow _ _ _ _ _ _ _
        rw [List.length_map, hlk]
        exact hrow
      · have := HL.out.2.1
        have := HU.out
        rw [List.length_map]
        omega
      · obtain ⟨_, _, _, _, hgr⟩ := h.2.out
        exact Boxed.cell ((hgr.block n0 hbx.lt (hbx.not_row (by decide) hrow)).trans hbx)
    have HB : Hid (Boxed W n0 23 (.slice la lk lc) ∧ W.ownsRow n0 49 2 (.slice la lk lc) lk (flatN (zs.map fun x => hd0 x.c)) ∧ Below n0 w W ∧ W.heap[D]? = some (.deferred (some [])) ∧ W0.heap.size ≤ D ∧ zs.length = lk) := ⟨hbx, hrow, hbw, hK, hD, hlk⟩
    have c0 := hbx.cell
    clear hbx hrow hbw hK hD hlk
    gi_wp2_with (refine ⟨trivial, ?_⟩; gi_at_call 32; refine (callsIn_wide.2 H27.out).mono ?_; rintro e w2 ⟨rfl, c2, HS⟩)
    obtain ⟨hbx, hrow, hbw, hK, hD, hlk⟩ := HB.out
    obtain ⟨xs, hup, hxl, hown, hgr⟩ := HS.out
    have hK2 : w2.heap[D]? = some (.deferred (some [])) := (hgr.block D (Array.getElem?_eq_some_iff.1 hK).1 (fun e => by
      obtain ⟨cu, hc⟩ := row_typed hrow D e.symm
      rw [hc] at hK
      cases hK)).trans hK
    have hx2 : xs.length = lk := by rw [hxl, List.length_map, hlk]
    have HE : Hid (UpN (Rch m rs) xs ∧ OwnN (w2.putObj D (.deferred none)) n0 (.slice la xs.length lc) xs ∧ Below n0 w (w2.putObj D (.deferred none)) ∧ xs.length ≤ (univ m rs).length) := by
      have hb2 : Below n0 w w2 := hbw.grown hgr (by have := hbx.lt; omega) (fun g hg => (hrow.lt g hg).1)
      refine ⟨⟨fun x => (hup.all x).trans (HL.out.2.2 x), hup.up⟩, ?_, hb2.trans (itL_putObj (B := n0) _ (by omega) hK2 rfl).bel, by have := HL.out.2.1; omega⟩
      rw [hx2]
      exact ownsRow_putObj (by have h : w2.ownsRow n0 49 2 (.slice la lk lc) xs.length (flatN xs) := hown; exact h) _ hK2 rfl
    have HX2 : Hid (xs.length = lk) := hx2
    clear hbx hrow hbw hK hD hlk hup hxl hown hgr hx2 HS c0 HB H27
    refine ⟨by simp, .inl ⟨_, _, rfl, run_takeDeferred hK2, ?_⟩⟩
    refine ⟨_, results_tmp rfl _ _ _, xs, la, lc, by rw [HX2.out]; rfl, ?_⟩
    rw [hn0]
    exact HE
  case stop =>
    rintro D c pre W _ _ h _
    exact h.elim
end Go.Proofs.YtojobiefambkoaaGreatDoor
