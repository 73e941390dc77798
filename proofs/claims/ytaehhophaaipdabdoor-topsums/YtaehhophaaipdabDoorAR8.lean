/- What sums are, by derivations; contract of sums over one of sum. -/
import Derived.Test.YtaehhophaaipdabDoorAR7
import Derived.Test.YtaehhophaaipdabDoorB1
namespace Go.Proofs.YtaehhophaaipdabDoor
open Go.RowKit
attribute [local go_sem ↓] Go.wp_at_zero Go.wp_at_succ
def opN (i : Nat) (nums : List Int) (o : Int) : Int := if o = 1 then (resR i nums).1 else 0
def opO (i : Nat) (nums : List Int) (o : Int) : Int := if o = 1 then (if (resR i nums).2 = true then 1 else 2) else o
def opR (i : Nat) (nums : List Int) (o : Int) (rest : List C) : List C := if o = 1 ∧ (resR i nums).2 = false then [] else rest
mutual
/-- The sum with which cells begin: its number, how it stands, what is behind it, what is waited for then. -/
inductive Sm (m : Hp) : Nat → List C → List Nm → Int → Int → List C → List Nm → Prop
  | leaf {d : Nat} {c : C} {r : List C} {names : List Nm} {e : C} {r' : List C} (hk : c.k ≠ 3) (hf : IsFol m [c] (e :: r')) : Sm m (d + 1) (c :: r) names (numS e names).1 (numS e names).2.1 r (numS e names).2.2
  | none {d : Nat} {c : C} {r : List C} {names : List Nm} (hk : c.k = 3) (hn : ∀ i, i < 8 → isB (c :: r) (opT i) (opA i) = false) : Sm m (d + 1) (c :: r) names 0 2 [] names
  | op {d : Nat} {c : C} {r : List C} {names : List Nm} {i : Nat} {nums : List Int} {o : Int} {rest : List C} {names' : List Nm} (hk : c.k = 3) (hi : i < 8) (hm : isB (c :: r) (opT i) (opA i) = true) (hb : ∀ j, j < i → isB (c :: r) (opT j) (opA j) = false) (hs : Sms m d (opA i).toNat r names [] 1 nums o rest names') (hok : o = 1 → (nums.length : Int) = opA i ∧ ∀ x ∈ nums, okI x) : Sm m (d + 1) (c :: r) names (opN i nums o) (opO i nums o) (opR i nums o rest) names'
/-- So many sums, one behind the other. -/
inductive Sms (m : Hp) : Nat → Nat → List C → List Nm → List Int → Int → List Int → Int → List C → List Nm → Prop
  | done {d : Nat} {cells : List C} {names : List Nm} {nums : List Int} {o : Int} : Sms m d 0 cells names nums o nums o cells names
  | fail {d k : Nat} {cells : List C} {names : List Nm} {nums : List Int} {o n : Int} {rest : List C} {names' : List Nm} (h : Sm m d cells names n 2 rest names') : Sms m d (k + 1) cells names nums o [] 2 [] names'
  | next {d k : Nat} {cells : List C} {names : List Nm} {nums : List Int} {o n e : Int} {rest : List C} {names' : List Nm} {R1 : List Int} {R2 : Int} {R3 : List C} {R4 : List Nm} (h : Sm m d cells names n e rest names') (he : e ≠ 2) (hn : (Lit.int .i64 n).wf = true) (hs : Sms m d k rest names' (nums ++ [n]) (if e = 3 then 3 else o) R1 R2 R3 R4) : Sms m d (k + 1) cells names nums o R1 R2 R3 R4
end
/-- What a call of sum tells. -/
def SumPost (w0 : World) (lb : Nat) (p : Value) (B g : Nat) (n o : Int) (rest : List C) (names' : List Nm) (T : Nat) (w : World) (e : Ending) (w' : World) : Prop := ∃ rv K', e = .returned (.tuple #[.int .i64 n, .int .u8 o, rv]) ∧ TermAt w0 rv rest ∧ Lk w' w0.heap.size lb p B g names' K' ∧ K' + rest.length ≤ T ∧ (∀ c ∈ rest, wfN (c.vn, c.vk)) ∧ Below w0.heap.size w0 w' ∧ KeepT w w'
def SumC (m : Hp) (w0 : World) (lb : Nat) (p : Value) (B g : Nat) (d : Nat) : Prop := ∀ (cells : List C) (names : List Nm) (n o : Int) (rest : List C) (names' : List Nm) (v : Value) (w : World) (K : Nat), Sm m d cells names n o rest names' → Below w0.heap.size w0 w → Lk w w0.heap.size lb p B g names K → TermAt w0 v cells → (∀ c ∈ cells, wfN (c.vn, c.vk)) → K + cells.length < 999999999 → Calls Tryd.prog 22 #[.pointer (some ⟨lb, 0, none⟩), v] w (SumPost w0 lb p B g n o rest names' (K + cells.length) w)
theorem ints_keep {w w' : World} {base : Nat} {v : Value} {zs : List Int} (h : w.ownsInts base 3 .i64 v zs) (hk : KeepT w w') : w'.ownsInts base 3 .i64 v zs := by
  refine ⟨⟨h.1.1, ?_⟩, h.2⟩
  rcases h.1.2 with hh | ⟨g, cap, cur, e1, e2, e3, e4⟩
  · exact .inl hh
  · exact .inr ⟨g, cap, cur, e1, e2, hk.2 _ _ _ _ e3 (by decide) (by decide), e4⟩
theorem jnfo3 : ∃ i, Tryd.prog.info? 3 = some i ∧ i.zero = some (.int .i64 0) ∧ i.size = 1 ∧ i.bytes = 8 := by
  have h : (Tryd.prog.info? 3).map (fun i => (i.zero, i.size, i.bytes)) = some (some (.int .i64 0), 1, 8) := by kernel_rfl
  cases hq : Tryd.prog.info? 3 with
  | none => rw [hq] at h; cases h
  | some i =>
    rw [hq] at h
    simp only [Option.map_some, Option.some.injEq, Prod.mk.injEq] at h
    exact ⟨i, rfl, h.1, h.2.1, h.2.2⟩
theorem intsR_of {w : World} {base : Nat} {v : Value} {zs : List Int} (h : w.ownsInts base 3 .i64 v zs) (hl : zs.length ≤ maxLen) : IntsR w v zs := by
  refine ⟨hl, ?_⟩
  rcases h.1.2 with ⟨h1, h2⟩ | ⟨g, cap, cur, e1, e2, e3, e4, e5, e6, e7⟩
  · exact .inl ⟨List.eq_nil_of_length_eq_zero h2, none, h1⟩
  · exact .inr ⟨g, 0, cap, e1, (Array.getElem?_eq_some_iff.1 e3).1, range_of_owns e3 e7⟩
/-- What a call of sums tells. -/
def SumsPost (w0 : World) (lb : Nat) (p : Value) (B g : Nat) (nums : List Int) (o : Int) (rest : List C) (names' : List Nm) (T : Nat) (w : World) (e : Ending) (w' : World) : Prop := ∃ nv rv K', e = .returned (.tuple #[nv, .int .u8 o, rv]) ∧ IntsR w' nv nums ∧ TermAt w0 rv rest ∧ Lk w' w0.heap.size lb p B g names' K' ∧ K' + rest.length ≤ T ∧ (∀ c ∈ rest, wfN (c.vn, c.vk)) ∧ Below w0.heap.size w0 w' ∧ KeepT w w'
theorem LkAt.grown3 {w w' : World} {base lb : Nat} {p : Value} {B g M n : Nat} {nv : Value} {names : List Nm} {b2 k2 : Nat} {v : Value} {xs : List Value} (h : LkAt w base lb p B g M n nv names) (ho : w.ownsRow b2 3 1 v k2 xs) (hg : w.grownBy w' v.ownBlock) : LkAt w' base lb p B g M n nv names := by
  have hv : ∀ (k : Nat) (cs : Array Value) (t : TypeId) (fr : Nat × Nat), w.heap[k]? = some (Obj.cells cs t fr) → t ≠ 3 → v.ownBlock ≠ some k := by
    intro k cs t fr hk ht e
    rcases ho.2 with ⟨h1, _⟩ | ⟨g', c', cur', h1, _, h3, _⟩
    · rw [h1] at e; cases e
    · rw [h1] at e
      simp only [Value.ownBlock, Option.some.injEq] at e
      subst e
      rw [h3] at hk
      simp only [Option.some.injEq, Obj.cells.injEq] at hk
      exact ht hk.2.1.symm
  have hk : ∀ (k : Nat) (cs : Array Value) (t : TypeId) (fr : Nat × Nat), w.heap[k]? = some (Obj.cells cs t fr) → t ≠ 3 → w'.heap[k]? = some (Obj.cells cs t fr) := fun k cs t fr hk ht => (hg.block k (Array.getElem?_eq_some_iff.1 hk).1 (fun e => hv k cs t fr hk ht e.symm)).trans hk
  refine ⟨hk _ _ _ _ h.blk (by decide), h.hlb, h.hM, ⟨hk _ _ _ _ h.ops.row (by decide), fun k hk7 => hk _ _ _ _ (h.ops.box k hk7) (by decide)⟩, ?_, ?_, h.wf⟩
  · refine ⟨h.row.1, ?_⟩
    rcases h.row.2 with hh | ⟨g', cap, cur, e1, e2, e3, e4⟩
    · exact .inl hh
    · exact .inr ⟨g', cap, cur, e1, e2, hk _ _ _ _ e3 (by decide), e4⟩
  · refine h.met.kept hg (fun e => ?_)
    obtain ⟨es, ck, hm, _⟩ := h.met
    rcases ho.2 with ⟨h1, _⟩ | ⟨g', c', cur', h1, _, h3, _⟩
    · rw [h1] at e; cases e
    · rw [h1] at e
      simp only [Value.ownBlock, Option.some.injEq] at e
      rw [← e, hm] at h3
      cases h3
theorem Lk.grown3 {w w' : World} {base lb : Nat} {p : Value} {B g : Nat} {names : List Nm} {K b2 k2 : Nat} {v : Value} {xs : List Value} (h : Lk w base lb p B g names K) (ho : w.ownsRow b2 3 1 v k2 xs) (hg : w.grownBy w' v.ownBlock) : Lk w' base lb p B g names K := by
  obtain ⟨M, n, nv, h1, h2⟩ := h
  exact ⟨M, n, nv, h1.grown3 ho hg, h2⟩
theorem KeepT.grown {w w1 w' : World} {b2 k2 : Nat} {v : Value} {xs : List Value} (h : KeepT w w1) (ho : w1.ownsRow b2 3 1 v k2 xs) (hb : w.heap.size ≤ b2) (hg : w1.grownBy w' v.ownBlock) : KeepT w w' := by
  refine ⟨Nat.le_trans h.1 hg.size, fun k cs t fr hk h97 h23 => ?_⟩
  have hlt := (Array.getElem?_eq_some_iff.1 hk).1
  exact (hg.block k (Nat.lt_of_lt_of_le hlt h.1) (fun e => by have := (ho.lt k e.symm).1; omega)).trans (h.2 k cs t fr hk h97 h23)
set_option maxRecDepth 100000 in
set_option maxHeartbeats 4000000 in
theorem h93 (m : Hp) (w0 : World) (lb : Nat) (p : Value) (B g : Nat) (d : Nat) (hC : SumC m w0 lb p B g d) (k : Nat) (hk2 : k ≤ 2) (cells : List C) (names : List Nm) (nums : List Int) (o : Int) (rest : List C) (names' : List Nm) (v : Value) (w : World) (K : Nat) (hs : Sms m d k cells names [] 1 nums o rest names') (hb : Below w0.heap.size w0 w) (hL : Lk w w0.heap.size lb p B g names K) (hT : TermAt w0 v cells) (hW : ∀ c ∈ cells, wfN (c.vn, c.vk)) (hK : K + cells.length < 999999999) :
    Calls Tryd.prog 49 #[.pointer (some ⟨lb, 0, none⟩), v, .int .i64 k] w (SumsPost w0 lb p B g nums o rest names' (K + cells.length) w) := by
  have HC : Hid (SumC m w0 lb p B g d) := hC
  have H0 : Hid (Sms m d k cells names [] 1 nums o rest names' ∧ Lk w w0.heap.size lb p B g names K ∧ TermAt w0 v cells ∧ ∀ c ∈ cells, wfN (c.vn, c.vk)) := ⟨hs, hL, hT, hW⟩
  obtain ⟨i0, hi, hz, hs3, hby⟩ := jnfo3
  obtain ⟨a0, c0, hf0⟩ := hT.form
  subst hf0
  clear hC hs hL hT hW
  go_enter Tryd.func49, Tryd.ntmps49
  go_wp2_with fail
  go_loopw [6, 7, 8, 14] (fun nv ov bv jv wr => ∃ (j : Nat) (nums1 : List Int) (o1 : Int) (cells1 : List C) (names1 : List Nm) (K1 : Nat), j ≤ k ∧ jv = .int .i64 j ∧ ov = .int .u8 o1 ∧ (∃ a n c, bv = .slice a n c) ∧ (∃ a n c, nv = .slice a n c) ∧ nums1.length = j ∧ K1 + cells1.length ≤ K + cells.length ∧ Hid (Sms m d (k - j) cells1 names1 nums1 o1 nums o rest names' ∧ Lk wr w0.heap.size lb p B g names1 K1 ∧ TermAt w0 bv cells1 ∧ (∀ c ∈ cells1, wfN (c.vn, c.vk)) ∧ wr.ownsInts w.heap.size 3 .i64 nv nums1 ∧ KeepT w wr) ∧ Below w0.heap.size w0 wr) (fun _ _ _ jv _ => k - (intOf jv).toNat)
  case atStart => exact ⟨0, [], 1, cells, names, K, by omega, rfl, rfl, ⟨_, _, _, rfl⟩, ⟨_, _, _, rfl⟩, rfl, Nat.le_refl _, ⟨by simpa using H0.out.1, H0.out.2.1, H0.out.2.2.1, H0.out.2.2.2, World.ownsInts_nil _ _ _ _, KeepT.refl _⟩, hb⟩
  case round =>
    obtain ⟨j, nums1, o1, cells1, names1, K1, hj, rfl, rfl, ⟨ab, nb, cb, rfl⟩, ⟨an, nn, cn, rfl⟩, hnl, hKc, HI, hbr⟩ := hrel
    subst hnl
    by_cases hlt : nums1.length < k
    · have hlt' : (nums1.length : Int) < (k : Int) := by omega
      obtain ⟨q, hq⟩ : ∃ q, k - nums1.length = q + 1 := ⟨k - nums1.length - 1, by omega⟩
      have HQ : Hid (k - (nums1.length + 1) = q) := by show _ = _; omega
      have HD := HI.out.1
      rw [hq] at HD
      have H62 : Hid (∀ (n1 e1 : Int) (r1 : List C) (m1 : List Nm), Sm m d cells1 names1 n1 e1 r1 m1 → Calls Tryd.prog 22 #[.pointer (some ⟨lb, 0, none⟩), .slice ab nb cb] wr (SumPost w0 lb p B g n1 e1 r1 m1 (K1 + cells1.length) wr)) := fun n1 e1 r1 m1 h => HC.out cells1 names1 n1 e1 r1 m1 _ wr K1 h hbr HI.out.2.1 HI.out.2.2.1 HI.out.2.2.2.1 (by omega)
      cases HD with
      | fail h =>
        have H62 := H62.out _ _ _ _ h
        clear h
        go_wp2_with fail
        refine H62.mono ?_
        rintro e w1 ⟨rv, K', rfl, hT1, hL1, hK1, hw1, hb1, hk1⟩
        have HF : Hid (Lk w1 w0.heap.size lb p B g names' K' ∧ K' + ([] : List C).length ≤ K + cells.length ∧ Below w0.heap.size w0 w1 ∧ KeepT w w1) := ⟨hL1, by simp; omega, hb1, HI.out.2.2.2.2.2.trans hk1⟩
        obtain ⟨a1, c1, hf1⟩ := hT1.form
        subst hf1
        clear hT1 hL1 hK1 hw1 hb1 hk1 H62
        go_wp2_with fail
        exact bodyPost_ret (v := .tuple #[.slice none 0 0, .int .u8 2, .slice none 0 0]) (by simp [results, Tryd.results49, go_sem]) rfl ⟨_, _, K', rfl, ⟨by simp, .inl ⟨rfl, none, rfl⟩⟩, term_nil _ _, HF.out.1, HF.out.2.1, by simp, HF.out.2.2⟩
      | next h he hn hs =>
        rename_i n1 e1 r1 m1
        have H62 := H62.out _ _ _ _ h
        have HS : Hid (Sms m d q r1 m1 (nums1 ++ [n1]) (if e1 = 3 then 3 else o1) nums o rest names') := hs
        have HNw : Hid ((Lit.int .i64 n1).wf = true) := hn
        have hq2 : (e1 == 2) = false := by simpa using he
        clear h hs he hn
        go_wp2_with fail
        refine H62.mono ?_
        rintro e w1 ⟨rv, K', rfl, hT1, hL1, hK1, hw1, hb1, hk1⟩
        have HO1 : Hid ((w1.alloc (.cells #[.int .i64 n1] 3)).ownsInts w.heap.size 3 .i64 (.slice an nn cn) nums1) := (ints_keep HI.out.2.2.2.2.1 hk1).alloc _
        have hnn : nn = nums1.length := by
          obtain ⟨a', c', e'⟩ := (intsR_of HI.out.2.2.2.2.1 (by unfold maxLen; omega)).form
          simp only [Value.slice.injEq] at e'
          exact e'.2.1
        subst hnn
        have HL1 : Hid (Lk (w1.alloc (.cells #[.int .i64 n1] 3)) w0.heap.size lb p B g m1 K' ∧ TermAt w0 rv r1 ∧ (∀ c ∈ r1, wfN (c.vn, c.vk)) ∧ KeepT w (w1.alloc (.cells #[.int .i64 n1] 3)) ∧ Below w0.heap.size w0 (w1.alloc (.cells #[.int .i64 n1] 3))) := ⟨hL1.below ((Below.refl _ _).alloc (Nat.le_refl _) _), hT1, hw1, (HI.out.2.2.2.2.2.trans hk1).trans (KeepT.of_below ((Below.refl _ _).alloc (Nat.le_refl _) _)), hb1.alloc hb1.size _⟩
        have hbase : w.heap.size ≤ (w1.alloc (.cells #[.int .i64 n1] 3)).heap.size := by have := (HI.out.2.2.2.2.2.trans hk1).1; simp; omega
        have hbase0 : w0.heap.size ≤ (w1.alloc (.cells #[.int .i64 n1] 3)).heap.size := by have := hb1.size; simp; omega
        have hw0 : w0.heap.size ≤ w.heap.size := hb.size
        obtain ⟨a1, c1, hf1⟩ := hT1.form
        subst hf1
        have hKn : K' + r1.length ≤ K + cells.length := by omega
        clear hT1 hL1 hK1 hw1 hb1 hk1 H62
        by_cases h3 : e1 = 3
        · have hq3 : (e1 == 3) = true := by simp [h3]
          have HS2 : Hid (Sms m d q r1 m1 (nums1 ++ [n1]) 3 nums o rest names') := by
            have := HS.out
            rwa [if_pos h3] at this
          clear h3
          go_wp2_with (at_builtin; refine wpList_append_own _ rfl _ _ 24 rfl w.heap.size 3 i0 (.int .i64 0) 1 8 Tryd.underlying24 hi hz hs3 hby rfl (by decide) _ _ _ rfl HO1.out.1 ⟨w1.heap.size, 0, none⟩ 1 1 [.int .i64 n1] rfl rfl (cell_one_new _ _ _) (fun u hu => by simp at hu; subst hu; rfl) (by unfold maxLen; omega) (by omega) hbase ?_)
          intro v' w' hown hgr _
          have HF : Hid (w'.ownsInts w.heap.size 3 .i64 v' (nums1 ++ [n1]) ∧ Lk w' w0.heap.size lb p B g m1 K' ∧ KeepT w w' ∧ Below w0.heap.size w0 w') := by
            obtain ⟨h1, h2, h3, h4, h5⟩ := HL1.out
            exact ⟨World.ownsInts.appended HO1.out hown HNw.out, h1.grown3 HO1.out.1 hgr, h4.grown HO1.out.1 (Nat.le_refl _) hgr, h5.grown hgr hbase0 (fun g hg => Nat.le_trans hw0 (HO1.out.1.lt g hg).1)⟩
          obtain ⟨a', c', hvf⟩ := owns_form hown
          subst hvf
          clear hown hgr
          go_wp2_with fail
          go_roundw
          case rel => exact ⟨nums1.length + 1, nums1 ++ [n1], 3, r1, m1, K', by omega, by go_num, rfl, ⟨_, _, _, rfl⟩, ⟨_, _, _, rfl⟩, by simp, hKn, ⟨by rw [HQ.out]; exact HS2.out, HF.out.2.1, HL1.out.2.1, HL1.out.2.2.1, HF.out.1, HF.out.2.2.1⟩, HF.out.2.2.2⟩
          case measure => simp [intOf]; omega
        · have hq3 : (e1 == 3) = false := by simp [h3]
          have HS2 : Hid (Sms m d q r1 m1 (nums1 ++ [n1]) o1 nums o rest names') := by
            have := HS.out
            rwa [if_neg h3] at this
          clear h3
          go_wp2_with (at_builtin; refine wpList_append_own _ rfl _ _ 24 rfl w.heap.size 3 i0 (.int .i64 0) 1 8 Tryd.underlying24 hi hz hs3 hby rfl (by decide) _ _ _ rfl HO1.out.1 ⟨w1.heap.size, 0, none⟩ 1 1 [.int .i64 n1] rfl rfl (cell_one_new _ _ _) (fun u hu => by simp at hu; subst hu; rfl) (by unfold maxLen; omega) (by omega) hbase ?_)
          intro v' w' hown hgr _
          have HF : Hid (w'.ownsInts w.heap.size 3 .i64 v' (nums1 ++ [n1]) ∧ Lk w' w0.heap.size lb p B g m1 K' ∧ KeepT w w' ∧ Below w0.heap.size w0 w') := by
            obtain ⟨h1, h2, h3, h4, h5⟩ := HL1.out
            exact ⟨World.ownsInts.appended HO1.out hown HNw.out, h1.grown3 HO1.out.1 hgr, h4.grown HO1.out.1 (Nat.le_refl _) hgr, h5.grown hgr hbase0 (fun g hg => Nat.le_trans hw0 (HO1.out.1.lt g hg).1)⟩
          obtain ⟨a', c', hvf⟩ := owns_form hown
          subst hvf
          clear hown hgr
          go_wp2_with fail
          go_roundw
          case rel => exact ⟨nums1.length + 1, nums1 ++ [n1], o1, r1, m1, K', by omega, by go_num, rfl, ⟨_, _, _, rfl⟩, ⟨_, _, _, rfl⟩, by simp, hKn, ⟨by rw [HQ.out]; exact HS2.out, HF.out.2.1, HL1.out.2.1, HL1.out.2.2.1, HF.out.1, HF.out.2.2.1⟩, HF.out.2.2.2⟩
          case measure => simp [intOf]; omega
    · have hlt' : ¬ ((nums1.length : Int) < (k : Int)) := by omega
      have hjk : k - nums1.length = 0 := by omega
      have HD := HI.out.1
      rw [hjk] at HD
      cases HD
      have HF : Hid (IntsR wr (.slice an nn cn) nums ∧ TermAt w0 (.slice ab nb cb) rest ∧ Lk wr w0.heap.size lb p B g names' K1 ∧ K1 + rest.length ≤ K + cells.length ∧ (∀ c ∈ rest, wfN (c.vn, c.vk)) ∧ Below w0.heap.size w0 wr ∧ KeepT w wr) := ⟨intsR_of HI.out.2.2.2.2.1 (by unfold maxLen; omega), HI.out.2.2.1, HI.out.2.1, hKc, HI.out.2.2.2.1, hbr, HI.out.2.2.2.2.2⟩
      go_wp2_with fail
      exact bodyPost_ret (v := .tuple #[.slice an nn cn, .int .u8 o, .slice ab nb cb]) (by simp [results, Tryd.results49, go_sem]) rfl ⟨_, _, K1, rfl, HF.out⟩
end Go.Proofs.YtaehhophaaipdabDoor
