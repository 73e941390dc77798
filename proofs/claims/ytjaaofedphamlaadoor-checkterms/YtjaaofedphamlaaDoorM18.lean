/- The clauses of each predicate; contract of clausesOf. Contract of IndexFunc over programs, at a predicate that may make memory. Contracts of the steps' closures. Contract of steps. Contracts of Where and Program, of programs without guards. The fixed program that the law asks about: what the check says of it. Contracts of the law's helpers as the fixed program calls them; live. Contracts of the reference's goal and IsGoal. -/
import Derived.Test.YtjaaofedphamlaaDoorM16
import Derived.Test.YtjaaofedphamlaaDoorM17
import Derived.Maps.AppendAt
import Derived.Maps.Views
import Derived.Maps.GroupsBeside
import Derived.Test.YtjaaofedphamlaaDoorM14
namespace Go.Proofs.YtjaaofedphamlaaDoor
open Go.RowKit
open Go.ChangeShapes (lits)
def hasK (c : Cl) (x : Pd) : Bool := hasNameS c.hd && hasP [predS c.hd] x
def idxG (cs : List Cl) (x : Pd) : Nat → List Int
  | 0 => []
  | k + 1 => match cs[k]? with
    | some c => if hasK c x then idxG cs x k ++ [(k : Int)] else idxG cs x k
    | none => idxG cs x k
def rowG (zs : List Int) : DataW Unit := if zs = [] then .nil else .slice (lits .i64 zs) []
/-- The map D tells for each predicate which of the first k clauses are its own. -/
def GrpOf (D : DataW Unit) (cs : List Cl) (k : Nat) : Prop := Maps.IsMap D ∧ ∀ x, wfP x → D.atKey (pLit x) .nil = rowG (idxG cs x k)
theorem grp_nil (cs : List Cl) : GrpOf (.map []) cs 0 := ⟨Maps.isMap_empty, fun _ _ => rfl⟩
theorem grp_no {D : DataW Unit} {cs : List Cl} {k : Nat} (hk : k < cs.length) (h : GrpOf D cs k) (hn : hasNameS cs[k].hd = false) : GrpOf D cs (k + 1) :=
  ⟨h.1, fun x hx => by
    rw [h.2 x hx]
    show _ = rowG (match cs[k]? with | some c => if hasK c x then idxG cs x k ++ [(k : Int)] else idxG cs x k | none => idxG cs x k)
    rw [List.getElem?_eq_getElem hk]
    simp [hasK, hn]⟩
theorem lits_inj {a b : List Int} (h : (lits .i64 a : List (DataW Unit)) = lits .i64 b) : a = b := by
  unfold lits at h
  induction a generalizing b with
  | nil => cases b with
    | nil => rfl
    | cons _ _ => simp at h
  | cons x r ih => cases b with
    | nil => simp at h
    | cons y s =>
      simp at h
      rw [h.1, ih h.2]
theorem rowG_inv {w : World} {base : Nat} {v : Value} {zs zs' : List Int} (ho : w.ownsInts base 3 .i64 v zs) (h : rowG zs' = rowDatum .i64 v zs) : zs = zs' := by
  unfold rowG at h
  rcases ho.datum (H := Unit) with ⟨h1, rfl⟩ | h1
  · rw [h1] at h
    split at h
    · next h0 => exact h0.symm
    · cases h
  · rw [h1] at h
    split at h
    · cases h
    · simp at h
      exact (lits_inj h).symm
theorem grp_yes {D : DataW Unit} {cs : List Cl} {k : Nat} (hk : k < cs.length) (h : GrpOf D cs k) (hn : hasNameS cs[k].hd = true) (hw : wfP (predS cs[k].hd)) : GrpOf (D.put (pLit (predS cs[k].hd)) (.slice (lits .i64 (idxG cs (predS cs[k].hd) k ++ [(k : Int)])) [])) cs (k + 1) :=
  ⟨h.1.put _ _, fun x hx => by
    show _ = rowG (match cs[k]? with | some c => if hasK c x then idxG cs x k ++ [(k : Int)] else idxG cs x k | none => idxG cs x k)
    rw [List.getElem?_eq_getElem hk]
    by_cases hq : x = predS cs[k].hd
    · subst hq
      rw [Maps.atKey_put_same h.1 (keyed40.key (key40 _ hw))]
      have : hasK cs[k] (predS cs[k].hd) = true := by simp [hasK, hn, hasP]
      simp [this, rowG]
    · rw [Maps.atKey_put_other (fun e => hq (pLit_inj hx hw e)), h.2 x hx]
      have : hasK cs[k] x = false := by
        unfold hasK
        rw [hn]
        cases hp : hasP [predS cs[k].hd] x
        · rfl
        · rw [hasP_iff] at hp; simp at hp; exact absurd hp hq
      simp [this]⟩
theorem groups_mono {w : World} {base b n m : Nat} {D : DataW Unit} (h : w.ownsGroups Tryd.prog 40 base 3 .i64 b n D) (hm : n ≤ m) : w.ownsGroups Tryd.prog 40 base 3 .i64 b m D := by
  obtain ⟨es, clock, hb, F, hs, hD, hbb, hlen, hap⟩ := h
  exact ⟨es, clock, hb, F, by omega, hD, hbb, fun x hx zs ho => by have := hlen x hx zs ho; omega, hap⟩
theorem groups_below {w w' : World} {base b n : Nat} {D : DataW Unit} (h : w.ownsGroups Tryd.prog 40 base 3 .i64 b n D) (hb : Below w.heap.size w w') : w'.ownsGroups Tryd.prog 40 base 3 .i64 b n D :=
  h.kept (row := none) ⟨hb.os, hb.tape, hb.output, hb.size, fun i hi _ => hb.block i hi⟩ (by simp) (fun _ _ _ x _ => by cases x.val.ownBlock <;> simp)
theorem zero44 (w : World) : (zeroValue 44).run Tryd.prog w = .ok (.slice none 0 0) w := by kernel_rfl
theorem info3i : ∃ i, Tryd.prog.info? 3 = some i ∧ i.zero = some (.int .i64 0) ∧ i.size = 1 ∧ i.bytes = 8 := by
  have h : (Tryd.prog.info? 3).map (fun i => (i.zero, i.size, i.bytes)) = some (some (.int .i64 0), 1, 8) := by kernel_rfl
  cases hq : Tryd.prog.info? 3 with
  | none => rw [hq] at h; cases h
  | some i =>
    rw [hq] at h
    simp only [Option.map_some, Option.some.injEq, Prod.mk.injEq] at h
    exact ⟨i, rfl, h.1, h.2.1, h.2.2⟩
set_option maxRecDepth 100000 in
set_option maxHeartbeats 4000000 in
theorem k40 (cs : List Cl) (v : Value) (w : World) (hP : ProgAt w v cs) (hl : cs.length ≤ 100000000) (hW : ∀ c ∈ cs, hasNameS c.hd = true → wfP (predS c.hd)) :
    Calls Tryd.prog 40 #[v] w fun e w' => e = .returned (.map (some w.heap.size)) ∧ (∃ D, w'.ownsGroups (H := Unit) Tryd.prog 40 (w.heap.size + 1) 3 .i64 w.heap.size cs.length D ∧ GrpOf D cs cs.length) ∧ Below w.heap.size w w' := by
  have HP : Hid (ProgAt w v cs) := hP
  have HW : Hid (∀ c ∈ cs, hasNameS c.hd = true → wfP (predS c.hd)) := hW
  obtain ⟨i0, hi, hz, hs, hby⟩ := info3i
  obtain ⟨ad, cap, hv⟩ := hP.form
  subst hv
  have hmm := @run_makeMap Tryd.prog
  have HI0 : Hid (∃ D, (w.alloc (.map #[] 0)).ownsGroups (H := Unit) Tryd.prog 40 (w.heap.size + 1) 3 .i64 w.heap.size 0 D ∧ GrpOf D cs 0) := ⟨_, World.ownsGroups_made _ _ _ _ _, grp_nil cs⟩
  have HB0 : Hid (Below w.heap.size w (w.alloc (.map #[] 0))) := (Below.refl _ w).alloc (Nat.le_refl _) _
  clear hP hW
  go_enter Tryd.func40, Tryd.ntmps40
  go_wp2_with fail
  go_loopw [10] (fun i wr => ∃ k : Nat, k ≤ cs.length ∧ i = .int .i64 k ∧ Hid (∃ D, wr.ownsGroups (H := Unit) Tryd.prog 40 (w.heap.size + 1) 3 .i64 w.heap.size k D ∧ GrpOf D cs k) ∧ Below w.heap.size w wr ∧ w.heap.size + 1 ≤ wr.heap.size) (fun i _ => cs.length - (intOf i).toNat)
  case atStart => exact ⟨0, by omega, rfl, HI0, HB0.out, by simp⟩
  case round =>
    obtain ⟨k, hk, rfl, HI, hbr, hws⟩ := hrel
    have hsz := hbr.size
    by_cases hlt : k < cs.length
    · have hlt' : (k : Int) < (cs.length : Int) := by omega
      have hk0 : (0 : Int) ≤ (k : Int) := by omega
      obtain ⟨b, o, cap', x, hv', ⟨p0, p1, p2, p3⟩, ⟨ht, hg, hbd, hnn⟩, hbw⟩ := prog_at (HP.out.below hbr) k hlt
      simp only [Value.slice.injEq] at hv'
      obtain ⟨rfl, _, rfl⟩ := hv'
      have HT : Hid (TermAt wr x.hv cs[k].hd) := ht
      obtain ⟨ah, ch, eh⟩ := ht.form
      obtain ⟨ag, cg, eg⟩ := hg.form
      obtain ⟨ab, cb, eb⟩ := hbd.form
      obtain ⟨xh, xg, xb, xn⟩ := x
      simp only at eh eg eb p0 p1 p2 p3 HT
      subst eh eg eb
      clear ht hg hbd hnn
      have HWk : Hid (hasNameS cs[k].hd = true → wfP (predS cs[k].hd)) := HW.out _ (List.getElem_mem hlt)
      have HNo : Hid (hasNameS cs[k].hd = false → ∀ D, GrpOf D cs k → GrpOf D cs (k + 1)) := fun h D hD => grp_no hlt hD h
      have HYes : Hid (hasNameS cs[k].hd = true → ∀ D, GrpOf D cs k → wfP (predS cs[k].hd) → GrpOf (D.put (pLit (predS cs[k].hd)) (.slice (lits .i64 (idxG cs (predS cs[k].hd) k ++ [(k : Int)])) [])) cs (k + 1)) := fun h D hD hw => grp_yes hlt hD h hw
      generalize cs[k].hd = hd at *
      generalize cs[k].gs.length = gl at *
      generalize cs[k].bs.length = bl at *
      have HB1 : Hid (Below wr.heap.size wr (wr.alloc (.cells #[.slice ah hd.length ch, .slice ag gl cg, .slice ab bl cb, .int .i64 xn] 38))) := (Below.refl _ wr).alloc (Nat.le_refl _) _
      have HC1 : Hid (∀ W, Below (wr.alloc (.cells #[.slice ah hd.length ch, .slice ag gl cg, .slice ab bl cb, .int .i64 xn] 38)).heap.size (wr.alloc (.cells #[.slice ah hd.length ch, .slice ag gl cg, .slice ab bl cb, .int .i64 xn] 38)) W → W.cell? ⟨wr.heap.size, 0, none⟩ = some (.slice ah hd.length ch)) := fun W hW => by
        rw [hW.cell (by simp), cell_of_row _ wr.heap.size 0 _ 38 (0, 0) (heap_alloc_new wr _)]; rfl
      have H50 := k50 hd _ _ (HT.out.below HB1.out)
      cases hn : hasNameS hd
      · rw [hn] at H50
        go_wp2_with fail
        refine H50.mono ?_
        rintro e w1 ⟨rfl, hb1⟩
        have hb1' := HB1.out.trans (hb1.mono HB1.out.size)
        have HF : Hid (∃ D, w1.ownsGroups (H := Unit) Tryd.prog 40 (w.heap.size + 1) 3 .i64 w.heap.size (k + 1) D ∧ GrpOf D cs (k + 1)) := by
          obtain ⟨D, h1, h2⟩ := HI.out
          exact ⟨D, groups_mono (groups_below h1 hb1') (by omega), HNo.out hn D h2⟩
        go_wp2_with fail
        go_roundw
        case rel => exact ⟨k + 1, by omega, by go_num, HF, hbr.trans (hb1'.mono hsz), Nat.le_trans hws hb1'.size⟩
        case measure => simp [intOf]; omega
      · rw [hn] at H50
        have hWf := HWk.out hn
        have h0 : 0 < hd.length := by
          cases hd with
          | nil => simp [hasNameS] at hn
          | cons _ _ => simp
        have HPos : Hid (0 < hd.length) := h0
        have HWf : Hid (wfP (predS hd)) := hWf
        have HYs := HYes.out hn
        have HY : Hid (∀ D, GrpOf D cs k → GrpOf (D.put (pLit (predS hd)) (.slice (lits .i64 (idxG cs (predS hd) k ++ [(k : Int)])) [])) cs (k + 1)) := fun D hD => HYs D hD hWf
        clear HYs HYes HNo HWk h0 hn
        go_wp2_with fail
        refine H50.mono ?_
        rintro e w1 ⟨rfl, hb1⟩
        have c1 := HC1.out w1 hb1
        have hb1' := HB1.out.trans (hb1.mono HB1.out.size)
        have H55 := k55 hd _ w1 (HT.out.below hb1') HPos.out
        go_wp2_with fail
        refine H55.mono ?_
        rintro e w2 ⟨rfl, hb2⟩
        have hb2' := hb1'.trans (hb2.mono hb1'.size)
        have hw2 : w.heap.size + 1 ≤ w2.heap.size := Nat.le_trans hws hb2'.size
        have hbw2 : Below w.heap.size w w2 := hbr.trans (hb2'.mono hsz)
        have HG : Hid (∃ D, ((w2.alloc (.cells #[.string (predS hd).1, .int .i64 (predS hd).2] 40)).alloc (.cells #[.int .i64 (k : Int)] 3)).ownsGroups (H := Unit) Tryd.prog 40 (w.heap.size + 1) 3 .i64 w.heap.size k D ∧ GrpOf D cs k) := by
          obtain ⟨D, h1, h2⟩ := HI.out
          exact ⟨D, groups_below h1 ((hb2'.alloc hb2'.size _).alloc (by simp; have := hb2'.size; omega) _), h2⟩
        have hkey := key40 (predS hd) HWf.out
        unfold Pd.val at *
        clear HC1 c1 H50 HB1 HI p0 p1 p2 p3
        generalize predS hd = x at *
        obtain ⟨D, hG, hGr⟩ := HG.out
        have HGr : Hid (GrpOf D cs k) := hGr
        clear hGr HG
        have hszs : ((w2.alloc (.cells #[.string x.1, .int .i64 x.2] 40)).alloc (.cells #[.int .i64 (k : Int)] 3)).heap.size = w2.heap.size + 2 := by simp
        have hcn := cell_one_new (w2.alloc (.cells #[.string x.1, .int .i64 x.2] 40)) (.int .i64 (k : Int)) 3
        have hszd : (w2.alloc (.cells #[.string x.1, .int .i64 x.2] 40)).heap.size = w2.heap.size + 1 := by simp
        rw [hszd] at hcn
        obtain ⟨v0, zs, st, W1, hrun, hat, hoi, hzl, hgr, hst⟩ := groups_entry hG keyed40 law40 Tryd.underlying68 zero44 (by unfold maxLen; omega) hkey
        have HSt := hst
        have hcn1 : ∀ j u, [Value.int .i64 (k : Int)][j]? = some u → W1.cell? ((⟨w2.heap.size + 1, 0, none⟩ : Addr).add j) = some u := fun j u hu => by
          have h1 := hcn j u hu
          rw [← h1]
          refine World.cell?_of_block ?_
          refine hgr.block _ ?_ ?_
          · rw [hszs, Addr.add_mid]; show w2.heap.size + 1 < w2.heap.size + 2; omega
          · rw [Addr.add_mid]; show some (w2.heap.size + 1) ≠ some w.heap.size; simp; omega
        go_wp2_with (at_builtin; refine wpList_append_own_at _ rfl _ _ 44 rfl (w.heap.size + 1) 3 i0 (.int .i64 0) 1 8 Tryd.underlying44 hi hz hs hby rfl (by decide) _ _ _ rfl hoi.1 ⟨w2.heap.size + 1, 0, none⟩ 1 1 [.int .i64 (k : Int)] rfl rfl hcn1 (ints_oneCell .i64 [(k : Int)]) (by unfold maxLen; omega) (by omega) (by have := hgr.size; omega) ?_)
        intro v' w4 hown' hgrow hnil hloc
        have hapd := hoi.appended hown' (WalkArith.wf_i64 (by omega))
        have hsW := hgr.size
        obtain ⟨w5, hrun5, hG5, hgr5⟩ := hst w4 v' (zs ++ [(k : Int)]) hgrow hapd (by simp; omega) (hloc.imp id (fun h => ⟨_, h, hsW⟩))
        have hzs : zs = idxG cs x k := rowG_inv hoi ((HGr.out.2 x HWf.out).symm.trans hat)
        have HF : Hid (∃ D, w5.ownsGroups (H := Unit) Tryd.prog 40 (w.heap.size + 1) 3 .i64 w.heap.size (k + 1) D ∧ GrpOf D cs (k + 1)) := by
          refine ⟨_, hG5, ?_⟩
          rw [hapd.datum_pos (by simp), hzs]
          exact HY.out D HGr.out
        have hB4 : Below w.heap.size w W1 := ((hbw2.alloc hbw2.size (.cells #[.string x.1, .int .i64 x.2] 40)).alloc (by rw [hszd]; omega) (.cells #[.int .i64 (k : Int)] 3)).grown hgr (by rw [hszs]; omega) (fun j hj => by cases hj; exact Nat.le_refl _)
        have hB5 : Below w.heap.size w w5 := hB4.groups hoi hgrow hgr5 (by omega) (by omega) (Nat.le_refl _)
        have hs5 : w.heap.size + 1 ≤ w5.heap.size := by have := hgrow.size; have := hgr5.size; omega
        clear hst HSt hapd hown' hG5 hgrow hgr5 hloc hnil hgr hrun hat hoi hcn hcn1 hG hzs
        go_wp2_with fail
        go_roundw
        case rel => exact ⟨k + 1, by omega, by go_num, HF, hB5, hs5⟩
        case measure => simp [intOf]; omega
    · have hlt' : ¬ ((k : Int) < (cs.length : Int)) := by omega
      have hkl : k = cs.length := by omega
      subst hkl
      go_wp2_with fail
      go_ret
      exact ⟨rfl, HI.out, hbr⟩
end Go.Proofs.YtjaaofedphamlaaDoor
namespace Go.Proofs.YtjaaofedphamlaaDoor
open Go.RowKit
def idxK (p : Cl → Bool) (ls : List Cl) : Int := match ls.findIdx? p with | some i => (i : Int) | none => -1
def noneUptoK (p : Cl → Bool) (ls : List Cl) (k : Nat) : Prop := ∀ j (h : j < ls.length), j < k → p ls[j] = false
theorem idxK_at (p : Cl → Bool) (ls : List Cl) (k : Nat) (hk : k < ls.length) (h : noneUptoK p ls k) (hp : p ls[k] = true) : idxK p ls = (k : Int) := by
  unfold idxK
  have : ls.findIdx? p = some k := by
    rw [List.findIdx?_eq_some_iff_getElem]
    exact ⟨hk, hp, fun j hj => by simp [h j (by omega) hj]⟩
  rw [this]
theorem idxK_none (p : Cl → Bool) (ls : List Cl) (h : noneUptoK p ls ls.length) : idxK p ls = -1 := by
  unfold idxK
  have : ls.findIdx? p = none := by
    rw [List.findIdx?_eq_none_iff]
    intro x hx
    obtain ⟨j, hj, rfl⟩ := List.getElem_of_mem hx
    exact h j hj hj
  rw [this]
set_option maxRecDepth 100000 in
set_option maxHeartbeats 1000000 in
theorem k54 (g : Nat) (lb : Array Value) (eg : ∀ args w, (callFunc g args).run Tryd.prog w = .ok (.enter g args) w) (p : Cl → Bool) (ls : List Cl) (v : Value) (w : World) (hR : ProgAt w v ls) (hl : ls.length ≤ 100000000)
    (hp : ∀ W x l, Below w.heap.size w W → l ∈ ls → ClAt W x l → Calls Tryd.prog g (#[.agg #[x.hv, x.gv, x.bv, .int .i64 x.n]] ++ lb) W fun e w' => e = .returned (.bool (p l)) ∧ Below W.heap.size W w') :
    Calls Tryd.prog 54 #[v, .func (.func g) #[] lb] w fun e w' => e = .returned (.int .i64 (idxK p ls)) ∧ Below w.heap.size w w' := by
  have HRow : Hid (ProgAt w v ls) := hR
  have HP : Hid (∀ W x l, Below w.heap.size w W → l ∈ ls → ClAt W x l → Calls Tryd.prog g (#[.agg #[x.hv, x.gv, x.bv, .int .i64 x.n]] ++ lb) W fun e w' => e = .returned (.bool (p l)) ∧ Below W.heap.size W w') := hp
  obtain ⟨ad, cap, hv⟩ := hR.form
  subst hv
  clear hR hp
  go_enter Tryd.func54, Tryd.ntmps54
  go_wp2_with fail
  go_loopw [8] (fun i wr => ∃ k : Nat, k ≤ ls.length ∧ i = .int .i64 k ∧ Hid (noneUptoK p ls k) ∧ Below w.heap.size w wr) (fun i _ => ls.length - (intOf i).toNat)
  case atStart => exact ⟨0, by omega, rfl, fun j _ hj => by omega, Below.refl _ _⟩
  case round =>
    obtain ⟨k, hk, rfl, HI, hbr⟩ := hrel
    have hsz := hbr.size
    by_cases hlt : k < ls.length
    · have hlt' : (k : Int) < (ls.length : Int) := by omega
      have hk0 : (0 : Int) ≤ (k : Int) := by omega
      obtain ⟨b, o, cap', x, hv', ⟨hc0, hc1, hc2, hc3⟩, ht, hbw⟩ := prog_at (HRow.out.below hbr) k hlt
      simp only [Value.slice.injEq] at hv'
      obtain ⟨rfl, _, rfl⟩ := hv'
      have HC := HP.out wr x ls[k] hbr (List.getElem_mem hlt) ht
      clear ht
      cases hq : p ls[k]
      · rw [hq] at HC
        have HN : Hid (noneUptoK p ls (k + 1)) := fun j hj h => if e : j = k then by subst e; exact hq else HI.out j hj (by omega)
        clear hq
        go_wp2_with fail
        refine HC.mono ?_
        rintro e w1 ⟨rfl, hb1⟩
        go_wp2_with fail
        go_roundw
        case rel => exact ⟨k + 1, by omega, by go_num, HN, hbr.trans (hb1.mono hsz)⟩
        case measure => simp [intOf]; omega
      · rw [hq] at HC
        have HN : Hid (idxK p ls = (k : Int)) := idxK_at p ls k hlt HI.out hq
        clear hq
        go_wp2_with fail
        refine HC.mono ?_
        rintro e w1 ⟨rfl, hb1⟩
        go_wp2_with fail
        go_ret
        exact ⟨by rw [HN.out]; rfl, hbr.trans (hb1.mono hsz)⟩
    · have hlt' : ¬ ((k : Int) < (ls.length : Int)) := by omega
      have HN : Hid (idxK p ls = -1) := idxK_none p ls (fun j hj _ => HI.out j hj (by omega))
      go_wp2_with fail
      go_ret
      exact ⟨by rw [HN.out]; rfl, hbr⟩
end Go.Proofs.YtjaaofedphamlaaDoor
namespace Go.Proofs.YtjaaofedphamlaaDoor
open Go.RowKit
/-- The box of a clause that a closure makes first. -/
theorem box_cells (w : World) (a b c d : Value) : ∀ W, Below (w.alloc (.cells #[a, b, c, d] 38)).heap.size (w.alloc (.cells #[a, b, c, d] 38)) W → W.cell? ⟨w.heap.size, 0, none⟩ = some a ∧ W.cell? ⟨w.heap.size, 1, none⟩ = some b ∧ W.cell? ⟨w.heap.size, 2, none⟩ = some c ∧ W.cell? ⟨w.heap.size, 3, none⟩ = some d := fun W hW => by
  have e1 : W.heap[w.heap.size]? = some (.cells #[a, b, c, d] 38 (0, 0)) := (hW.block w.heap.size (by simp)).trans (heap_alloc_new w _)
  refine ⟨?_, ?_, ?_, ?_⟩
  · rw [cell_of_row W _ 0 _ 38 (0, 0) e1]; rfl
  · rw [cell_of_row W _ 1 _ 38 (0, 0) e1]; rfl
  · rw [cell_of_row W _ 2 _ 38 (0, 0) e1]; rfl
  · rw [cell_of_row W _ 3 _ 38 (0, 0) e1]; rfl
def step0 (cs : List Cl) (c : Cl) : Bool := decide ((64 : Int) < (cs.length : Int)) || longS c.gs.length c.bs.length c.n
set_option maxRecDepth 100000 in
theorem k63 (cs : List Cl) (c : Cl) (x : ClV) (w : World) (h : ClAt w x c) (B : Nat) (ap : Option Addr) (cp : Nat) (hB : w.cell? ⟨B, 0, none⟩ = some (.slice ap cs.length cp)) (hBl : B < w.heap.size) :
    Calls Tryd.prog 63 #[.agg #[x.hv, x.gv, x.bv, .int .i64 x.n], .pointer (some ⟨B, 0, none⟩)] w fun e w' => e = .returned (.bool (step0 cs c)) ∧ Below w.heap.size w w' := by
  obtain ⟨hd, gs, bs, n⟩ := c
  obtain ⟨hv, gv, bv, xn⟩ := x
  obtain ⟨ht, hg, hb, hn⟩ := h
  simp only at ht hg hb hn
  subst hn
  have HM : Hid (step0 cs ⟨hd, gs, bs, xn⟩ = (decide ((64 : Int) < (cs.length : Int)) || longS gs.length bs.length xn)) := rfl
  obtain ⟨ah, ch, eh⟩ := ht.form
  obtain ⟨ag, cg, eg⟩ := hg.form
  obtain ⟨ab, cb, eb⟩ := hb.form
  subst eh eg eb
  have HB1 : Hid (∀ o : Obj, Below w.heap.size w (w.alloc o)) := fun o => (Below.refl _ w).alloc (Nat.le_refl _) o
  have hBa : ∀ o : Obj, (w.alloc o).cell? ⟨B, 0, none⟩ = some (.slice ap cs.length cp) := fun o => cell_alloc hBl hB
  have H64 := k64 (.slice ah hd.length ch) ag ab gs.length cg bs.length cb xn (w.alloc (.cells #[.slice ah hd.length ch, .slice ag gs.length cg, .slice ab bs.length cb, .int .i64 xn] 38)) rfl
  clear ht hg hb hB
  generalize longS gs.length bs.length xn = r at *
  by_cases h64 : (64 : Int) < (cs.length : Int)
  · rw [decide_eq_true h64] at HM
    go_enter Tryd.func63, Tryd.ntmps63
    go_wp2_with fail
    go_ret
    exact ⟨by rw [HM.out]; rfl, HB1.out _⟩
  · rw [decide_eq_false h64] at HM
    go_enter Tryd.func63, Tryd.ntmps63
    go_wp2_with fail
    refine H64.mono ?_
    rintro e w1 ⟨rfl, hb1⟩
    go_wp2_with fail
    go_ret
    exact ⟨by rw [HM.out]; rfl, (HB1.out _).trans (hb1.mono (HB1.out _).size)⟩
def step2 (c : Cl) : Bool := !headOk c.hd
set_option maxRecDepth 100000 in
theorem k66 (c : Cl) (x : ClV) (w : World) (h : ClAt w x c) (h1 : 0 < c.hd.length) (hL : c.hd.length ≤ 256) (hW : ∀ y ∈ varsOf c.hd, wfN y) :
    Calls Tryd.prog 66 #[.agg #[x.hv, x.gv, x.bv, .int .i64 x.n]] w fun e w' => e = .returned (.bool (step2 c)) ∧ Below w.heap.size w w' := by
  obtain ⟨hd, gs, bs, n⟩ := c
  obtain ⟨hv, gv, bv, xn⟩ := x
  obtain ⟨ht, hg, hb, hn⟩ := h
  simp only at ht hg hb hn h1 hL hW
  subst hn
  have HM : Hid (step2 ⟨hd, gs, bs, xn⟩ = !headOk hd) := rfl
  obtain ⟨ag, cg, eg⟩ := hg.form
  obtain ⟨ab, cb, eb⟩ := hb.form
  obtain ⟨ah, ch, eh⟩ := ht.form
  subst eh eg eb
  have HB1 : Hid (∀ o : Obj, Below w.heap.size w (w.alloc o)) := fun o => (Below.refl _ w).alloc (Nat.le_refl _) o
  have H67 := k67 hd _ _ (ht.below (HB1.out (.cells #[.slice ah hd.length ch, .slice ag gs.length cg, .slice ab bs.length cb, .int .i64 xn] 38))) h1 hL hW
  clear ht hg hb hW
  generalize headOk hd = r at *
  go_enter Tryd.func66, Tryd.ntmps66
  go_wp2_with fail
  refine H67.mono ?_
  rintro e w1 ⟨rfl, hb1⟩
  go_wp2_with fail
  go_ret
  exact ⟨by rw [HM.out]; rfl, (HB1.out _).trans (hb1.mono (HB1.out _).size)⟩
set_option maxRecDepth 100000 in
theorem k68_nil (c : Cl) (x : ClV) (w : World) (h : ClAt w x c) (hG : c.gs = []) :
    Calls Tryd.prog 68 #[.agg #[x.hv, x.gv, x.bv, .int .i64 x.n]] w fun e w' => e = .returned (.bool false) ∧ Below w.heap.size w w' := by
  obtain ⟨hd, gs, bs, n⟩ := c
  obtain ⟨hv, gv, bv, xn⟩ := x
  obtain ⟨ht, hg, hb, hn⟩ := h
  simp only at ht hg hb hn hG
  subst hn hG
  obtain ⟨ag, cg, eg⟩ := hg.form
  obtain ⟨ab, cb, eb⟩ := hb.form
  obtain ⟨ah, ch, eh⟩ := ht.form
  subst eh eg eb
  have HB1 : Hid (∀ o : Obj, Below w.heap.size w (w.alloc o)) := fun o => (Below.refl _ w).alloc (Nat.le_refl _) o
  have H69 := k69 70 #[.pointer (some ⟨w.heap.size, 0, none⟩)] (enters_of Tryd.func70 (by kernel_rfl) rfl) (fun _ => false) [] _ _ (hg.below (HB1.out (.cells #[.slice ah hd.length ch, .slice ag ([] : List (List C)).length cg, .slice ab bs.length cb, .int .i64 xn] 38))) (by simp) (fun _ _ l _ hm => by simp at hm)
  clear ht hg hb
  simp only [List.length_nil, List.any_nil] at *
  go_enter Tryd.func68, Tryd.ntmps68
  go_wp2_with fail
  refine H69.mono ?_
  rintro e w1 ⟨rfl, hb1⟩
  go_wp2_with fail
  go_ret
  exact ⟨rfl, (HB1.out _).trans (hb1.mono (HB1.out _).size)⟩
set_option maxRecDepth 100000 in
theorem k73 (l : List C) (v : Value) (w : World) (h : TermAt w v l) (hS : Signs w) :
    Calls Tryd.prog 73 #[v] w fun e w' => e = .returned (.bool (!isGoalS l)) ∧ Below w.heap.size w w' := by
  have H12 := k12 l v w h hS
  obtain ⟨ah, ch, eh⟩ := h.form
  subst eh
  clear h hS
  generalize isGoalS l = r at *
  go_enter Tryd.func73, Tryd.ntmps73
  go_wp2_with fail
  refine H12.mono ?_
  rintro e w1 ⟨rfl, hb1⟩
  go_wp2_with fail
  go_ret
  exact ⟨rfl, hb1⟩
def step4 (c : Cl) : Bool := c.bs.any fun l => !isGoalS l
set_option maxRecDepth 100000 in
theorem k72 (c : Cl) (x : ClV) (w : World) (h : ClAt w x c) (hS : Signs w) (hbl : c.bs.length ≤ 100000000) :
    Calls Tryd.prog 72 #[.agg #[x.hv, x.gv, x.bv, .int .i64 x.n]] w fun e w' => e = .returned (.bool (step4 c)) ∧ Below w.heap.size w w' := by
  obtain ⟨hd, gs, bs, n⟩ := c
  obtain ⟨hv, gv, bv, xn⟩ := x
  obtain ⟨ht, hg, hb, hn⟩ := h
  simp only at ht hg hb hn hbl
  subst hn
  have HM : Hid (step4 ⟨hd, gs, bs, xn⟩ = bs.any fun l => !isGoalS l) := rfl
  obtain ⟨ag, cg, eg⟩ := hg.form
  obtain ⟨ab, cb, eb⟩ := hb.form
  obtain ⟨ah, ch, eh⟩ := ht.form
  subst eh eg eb
  have HB1 : Hid (∀ o : Obj, Below w.heap.size w (w.alloc o)) := fun o => (Below.refl _ w).alloc (Nat.le_refl _) o
  have H69 := k69 73 #[] (enters_of Tryd.func73 (by kernel_rfl) rfl) (fun l => !isGoalS l) bs _ _ (hb.below (HB1.out (.cells #[.slice ah hd.length ch, .slice ag gs.length cg, .slice ab bs.length cb, .int .i64 xn] 38))) hbl (fun W y l hW _ hT => k73 l y W hT (hS.below ((HB1.out _).trans (hW.mono (HB1.out _).size))))
  clear ht hg hb hS
  generalize (bs.any fun l => !isGoalS l) = r at *
  go_enter Tryd.func72, Tryd.ntmps72
  go_wp2_with fail
  refine H69.mono ?_
  rintro e w1 ⟨rfl, hb1⟩
  go_wp2_with fail
  go_ret
  exact ⟨by rw [HM.out]; rfl, (HB1.out _).trans (hb1.mono (HB1.out _).size)⟩
def noneG (cs : List Cl) (x : Pd) : Bool := ((idxG cs x cs.length).length : Int) == 0
set_option maxRecDepth 100000 in
theorem k76 (cs : List Cl) (x : Pd) (M B : Nat) (D : DataW Unit) (w : World) (hx : wfP x) (hc : cs.length ≤ 100000000) (hG : w.ownsGroups (H := Unit) Tryd.prog 40 (M + 1) 3 .i64 M cs.length D) (hD : GrpOf D cs cs.length) (hB : w.cell? ⟨B, 0, none⟩ = some (.map (some M))) (hBl : B < w.heap.size) :
    Calls Tryd.prog 76 #[.agg #[.string x.1, .int .i64 x.2], .pointer (some ⟨B, 0, none⟩)] w fun e w' => e = .returned (.bool (noneG cs x)) ∧ Below w.heap.size w w' := by
  have HB1 : Hid (∀ o : Obj, Below w.heap.size w (w.alloc o)) := fun o => (Below.refl _ w).alloc (Nat.le_refl _) o
  have hG1 := groups_below hG (HB1.out (.cells #[.string x.1, .int .i64 x.2] 40))
  have hBa : ∀ o : Obj, (w.alloc o).cell? ⟨B, 0, none⟩ = some (.map (some M)) := fun o => cell_alloc hBl hB
  obtain ⟨v, zs, hrun, hat, hoi, hzl, _⟩ := hG1.at keyed40 Tryd.underlying68 (zero44 _) (by unfold maxLen; omega) (key40 x hx)
  have hzs : zs = idxG cs x cs.length := rowG_inv hoi ((hD.2 x hx).symm.trans hat)
  have HM : Hid (noneG cs x = (((zs.length : Nat) : Int) == 0)) := by show noneG cs x = _; rw [hzs]; rfl
  have hv : ∃ ad cp, v = .slice ad zs.length cp := by
    rcases hoi.1.2 with ⟨h1, h2⟩ | ⟨g, c, cur, h1, _⟩
    · exact ⟨none, 0, by rw [h1, h2]⟩
    · exact ⟨_, _, h1⟩
  obtain ⟨ad, cp, hv⟩ := hv
  subst hv
  unfold Pd.val at hrun
  clear hoi hat hG hG1 hD hzs hB
  generalize zs.length = m at *
  go_enter Tryd.func76, Tryd.ntmps76
  go_wp2_with fail
  go_ret
  exact ⟨by rw [HM.out]; rfl, HB1.out _⟩
def step5 (cs : List Cl) (c : Cl) : Bool := (calledS c.bs).any (noneG cs)
theorem calledS_len (ls : List (List C)) : (calledS ls).length ≤ ls.length := by
  unfold calledS predsOf
  refine Nat.le_trans (foldP_len _ _) ?_
  rw [List.length_map]
  have := List.length_filter_le callB ls
  simp; exact this
set_option maxRecDepth 100000 in
theorem k74 (cs : List Cl) (c : Cl) (x : ClV) (w : World) (h : ClAt w x c) (hS : Signs w) (hbl : c.bs.length ≤ 100000000) (hW : ∀ y ∈ calledS c.bs, wfP y) (M B : Nat) (D : DataW Unit) (hc : cs.length ≤ 100000000) (hG : w.ownsGroups (H := Unit) Tryd.prog 40 (M + 1) 3 .i64 M cs.length D) (hD : GrpOf D cs cs.length) (hB : w.cell? ⟨B, 0, none⟩ = some (.map (some M))) (hBl : B < w.heap.size) :
    Calls Tryd.prog 74 #[.agg #[x.hv, x.gv, x.bv, .int .i64 x.n], .pointer (some ⟨B, 0, none⟩)] w fun e w' => e = .returned (.bool (step5 cs c)) ∧ Below w.heap.size w w' := by
  obtain ⟨hd, gs, bs, n⟩ := c
  obtain ⟨hv, gv, bv, xn⟩ := x
  obtain ⟨ht, hg, hb, hn⟩ := h
  simp only at ht hg hb hn hbl hW
  subst hn
  have HM : Hid (step5 cs ⟨hd, gs, bs, xn⟩ = (calledS bs).any (noneG cs)) := rfl
  obtain ⟨ag, cg, eg⟩ := hg.form
  obtain ⟨ab, cb, eb⟩ := hb.form
  obtain ⟨ah, ch, eh⟩ := ht.form
  subst eh eg eb
  have HB1 : Hid (∀ o : Obj, Below w.heap.size w (w.alloc o)) := fun o => (Below.refl _ w).alloc (Nat.le_refl _) o
  have H38 := k38 bs _ _ (hb.below (HB1.out (.cells #[.slice ah hd.length ch, .slice ag gs.length cg, .slice ab bs.length cb, .int .i64 xn] 38))) (hS.below (HB1.out _)) hbl
  have H75 : Hid (∀ W u, Below w.heap.size w W → PredsAt W u (calledS bs) → Calls Tryd.prog 75 #[u, .func (.func 76) #[] #[.pointer (some ⟨B, 0, none⟩)]] W fun e w' => e = .returned (.bool ((calledS bs).any (noneG cs))) ∧ Below W.heap.size W w') := fun W u hb hP => by
    refine k75 76 #[.pointer (some ⟨B, 0, none⟩)] (enters_of Tryd.func76 (by kernel_rfl) rfl) (noneG cs) _ u W hP (by have := calledS_len bs; omega) ?_
    intro W2 y hb2 hy
    have hb3 := hb.trans (hb2.mono hb.size)
    exact k76 cs y M B D W2 (hW y hy) hc (groups_below hG hb3) hD ((hb3.cell (p := ⟨B, 0, none⟩) hBl).trans hB) (Nat.lt_of_lt_of_le hBl hb3.size)
  have HL : Hid ((calledS bs).length ≤ 100000000) := Nat.le_trans (calledS_len bs) hbl
  clear ht hg hb hS hG hD hW
  generalize (calledS bs).any (noneG cs) = r at *
  go_enter Tryd.func74, Tryd.ntmps74
  go_wp2_with fail
  refine H38.mono ?_
  rintro e w1 ⟨u, rfl, hO, hb1⟩
  have hb1' := (HB1.out _).trans (hb1.mono (HB1.out _).size)
  have hP := predsAt_of_owns hO (by unfold maxLen; have := HL.out; omega)
  have H75' := H75.out w1 u hb1' hP
  obtain ⟨ad, cp, hu⟩ := hP.form
  subst hu
  clear hP hO
  go_wp2_with fail
  refine H75'.mono ?_
  rintro e w2 ⟨rfl, hb2⟩
  go_wp2_with fail
  go_ret
  exact ⟨by rw [HM.out]; rfl, hb1'.trans (hb2.mono hb1'.size)⟩
end Go.Proofs.YtjaaofedphamlaaDoor
namespace Go.Proofs.YtjaaofedphamlaaDoor
open Go.RowKit
def stepVals (B Hb : Nat) : List Value := [.int .i64 5, .func (.func 63) #[] #[.pointer (some ⟨B, 0, none⟩)], .int .i64 6, .func (.func 65) #[] #[], .int .i64 40, .func (.func 66) #[] #[], .int .i64 41, .func (.func 68) #[] #[], .int .i64 42, .func (.func 72) #[] #[], .int .i64 43, .func (.func 74) #[] #[.pointer (some ⟨Hb, 0, none⟩)]]
/-- What steps leaves in memory: the row of steps, the program's box, the map of heads and its box. -/
structure StepsAt (w : World) (cs : List Cl) (v : Value) (B Hb SB M : Nat) (D : DataW Unit) : Prop where
  row : w.rangeAt SB 0 (stepVals B Hb)
  rowLt : SB < w.heap.size
  box : w.cell? ⟨B, 0, none⟩ = some v
  boxLt : B < w.heap.size
  hds : w.cell? ⟨Hb, 0, none⟩ = some (.map (some M))
  hdsLt : Hb < w.heap.size
  grp : w.ownsGroups (H := Unit) Tryd.prog 40 (M + 1) 3 .i64 M cs.length D
  isG : GrpOf D cs cs.length
theorem StepsAt.below {w w' : World} {cs : List Cl} {v : Value} {B Hb SB M : Nat} {D : DataW Unit} (h : StepsAt w cs v B Hb SB M D) (hb : Below w.heap.size w w') : StepsAt w' cs v B Hb SB M D :=
  ⟨range_below h.row h.rowLt hb, Nat.lt_of_lt_of_le h.rowLt hb.size, (hb.cell (p := ⟨B, 0, none⟩) h.boxLt).trans h.box, Nat.lt_of_lt_of_le h.boxLt hb.size, (hb.cell (p := ⟨Hb, 0, none⟩) h.hdsLt).trans h.hds, Nat.lt_of_lt_of_le h.hdsLt hb.size, groups_below h.grp hb, h.isG⟩
set_option maxRecDepth 100000 in
set_option maxHeartbeats 2000000 in
theorem k53 (cs : List Cl) (v : Value) (w : World) (hP : ProgAt w v cs) (hl : cs.length ≤ 100000000) (hW : ∀ c ∈ cs, hasNameS c.hd = true → wfP (predS c.hd)) :
    Calls Tryd.prog 53 #[v] w fun e w' => ∃ B Hb SB M D, e = .returned (.slice (some ⟨SB, 0, none⟩) 6 6) ∧ StepsAt w' cs v B Hb SB M D ∧ Below w.heap.size w w' := by
  have HB1 : Hid (∀ o : Obj, Below w.heap.size w (w.alloc o)) := fun o => (Below.refl _ w).alloc (Nat.le_refl _) o
  have H40 := k40 cs v (w.alloc (.cells #[v] 29)) (hP.below (HB1.out _)) hl hW
  have hbox : ∀ W, Below (w.alloc (.cells #[v] 29)).heap.size (w.alloc (.cells #[v] 29)) W → W.cell? ⟨w.heap.size, 0, none⟩ = some v := fun W hW => by
    rw [hW.cell (by simp), cell_of_row _ w.heap.size 0 _ 29 (0, 0) (heap_alloc_new w _)]; rfl
  have HBox : Hid (∀ W, Below (w.alloc (.cells #[v] 29)).heap.size (w.alloc (.cells #[v] 29)) W → W.cell? ⟨w.heap.size, 0, none⟩ = some v) := hbox
  obtain ⟨ad, cap, hv⟩ := hP.form
  subst hv
  clear hbox hP hW
  go_enter Tryd.func53, Tryd.ntmps53
  go_wp2_with fail
  refine H40.mono ?_
  rintro e w1 ⟨rfl, ⟨D, hG, hD⟩, hb1⟩
  have hb1' := (HB1.out _).trans (hb1.mono (HB1.out _).size)
  rw [World.size_alloc] at hG
  have hs1 : w.heap.size + 1 ≤ w1.heap.size := by have := hb1.size; simpa using this
  have HE : Hid (∀ W, W = (w1.alloc (.cells #[.map (some (w.heap.size + 1))] 68)).alloc (.cells (stepVals w.heap.size w1.heap.size).toArray 78) → StepsAt W cs (.slice ad cs.length cap) w.heap.size w1.heap.size (w1.heap.size + 1) (w.heap.size + 1) D ∧ Below w.heap.size w W) := by
    rintro W rfl
    have b1 : Below w1.heap.size w1 (w1.alloc (.cells #[.map (some (w.heap.size + 1))] 68)) := (Below.refl _ w1).alloc (Nat.le_refl _) _
    have b2 : Below (w1.alloc (.cells #[.map (some (w.heap.size + 1))] 68)).heap.size (w1.alloc (.cells #[.map (some (w.heap.size + 1))] 68)) ((w1.alloc (.cells #[.map (some (w.heap.size + 1))] 68)).alloc (.cells (stepVals w.heap.size w1.heap.size).toArray 78)) := (Below.refl _ _).alloc (Nat.le_refl _) _
    have b12 := b1.trans (b2.mono b1.size)
    refine ⟨⟨?_, by simp, ?_, by simp; omega, ?_, by simp; omega, groups_below hG b12, hD⟩, hb1'.trans (b12.mono hb1'.size)⟩
    · have := range_new (w1.alloc (.cells #[.map (some (w.heap.size + 1))] 68)) (stepVals w.heap.size w1.heap.size) 78
      simpa using this
    · exact HBox.out _ (hb1.trans (b12.mono hb1.size))
    · rw [b2.cell (by simp), cell_of_row _ w1.heap.size 0 _ 68 (0, 0) (heap_alloc_new w1 _)]; rfl
  clear hG hD H40 HBox
  go_wp2_with fail
  go_ret
  obtain ⟨h1, h2⟩ := HE.out _ rfl
  exact ⟨_, _, _, _, D, rfl, h1, h2⟩
end Go.Proofs.YtjaaofedphamlaaDoor
namespace Go.Proofs.YtjaaofedphamlaaDoor
open Go.RowKit
attribute [local go_sem ↓] Go.wp_at_zero Go.wp_at_succ
theorem below_dN {n : Nat} {w w' : World} (h : Below n w w') (m : Nat) : Below n w (w'.drewN m) := by
  exact below_drewN h m
def moreS (g hd : List C) : Bool := (nubN (varsOf g)).any fun v => !hasN (nubN (varsOf hd)) v
def step3 (c : Cl) : Bool := c.gs.any fun g => !isGuardS g || moreS g c.hd
def stp (cs : List Cl) : Nat → Cl → Bool
  | 0 => step0 cs
  | 1 => misS
  | 2 => step2
  | 3 => step3
  | 4 => step4
  | _ => step5 cs
def errS : Nat → Int
  | 0 => 5
  | 1 => 6
  | 2 => 40
  | 3 => 41
  | 4 => 42
  | _ => 43
def stpG : Nat → Nat
  | 0 => 63
  | 1 => 65
  | 2 => 66
  | 3 => 68
  | 4 => 72
  | _ => 74
def stpB (B Hb : Nat) : Nat → Array Value
  | 0 => #[.pointer (some ⟨B, 0, none⟩)]
  | 1 => #[]
  | 2 => #[]
  | 3 => #[]
  | 4 => #[]
  | _ => #[.pointer (some ⟨Hb, 0, none⟩)]
theorem step_cells (B Hb k : Nat) (hk : k < 6) : (stepVals B Hb)[k * 2]? = some (.int .i64 (errS k)) ∧ (stepVals B Hb)[k * 2 + 1]? = some (.func (.func (stpG k)) #[] (stpB B Hb k)) := by
  match k, hk with
  | 0, _ => exact ⟨rfl, rfl⟩
  | 1, _ => exact ⟨rfl, rfl⟩
  | 2, _ => exact ⟨rfl, rfl⟩
  | 3, _ => exact ⟨rfl, rfl⟩
  | 4, _ => exact ⟨rfl, rfl⟩
  | 5, _ => exact ⟨rfl, rfl⟩
theorem step_enters (k : Nat) (hk : k < 6) : ∀ args w, (callFunc (stpG k) args).run Tryd.prog w = .ok (.enter (stpG k) args) w := by
  match k, hk with
  | 0, _ => exact enters_of Tryd.func63 (by kernel_rfl) rfl
  | 1, _ => exact enters_of Tryd.func65 (by kernel_rfl) rfl
  | 2, _ => exact enters_of Tryd.func66 (by kernel_rfl) rfl
  | 3, _ => exact enters_of Tryd.func68 (by kernel_rfl) rfl
  | 4, _ => exact enters_of Tryd.func72 (by kernel_rfl) rfl
  | 5, _ => exact enters_of Tryd.func74 (by kernel_rfl) rfl
/-- What is asked of a program ahead of its check. -/
structure Fine (cs : List Cl) : Prop where
  len : cs.length ≤ 100000000
  cw : ∀ c ∈ cs, ClW c
  gl : ∀ c ∈ cs, c.gs = []
  bl : ∀ c ∈ cs, c.bs.length ≤ 100000000
  hw : ∀ c ∈ cs, hasNameS c.hd = true → wfP (predS c.hd)
  pw : ∀ c ∈ cs, ∀ y ∈ calledS c.bs, wfP y
theorem idxK_neg {p : Cl → Bool} {ls : List Cl} (h : idxK p ls = -1) : ∀ c ∈ ls, p c = false := by
  unfold idxK at h
  cases hq : ls.findIdx? p with
  | none => rw [List.findIdx?_eq_none_iff] at hq; exact hq
  | some i => rw [hq] at h; simp only at h; omega
theorem idxK_form (p : Cl → Bool) (ls : List Cl) : idxK p ls = -1 ∨ ∃ i : Nat, i < ls.length ∧ idxK p ls = (i : Int) := by
  unfold idxK
  cases hq : ls.findIdx? p with
  | none => exact .inl rfl
  | some i => exact .inr ⟨i, (List.findIdx?_eq_some_iff_getElem.1 hq).1, rfl⟩
theorem mis_head {c : Cl} (h : misS c = false) : rightB c.hd = true := by
  unfold misS wrongS at h
  cases hr : rightB c.hd
  · rw [hr] at h; simp at h
  · rfl
theorem step_call (cs : List Cl) (F : Fine cs) (v : Value) (w : World) (hP : ProgAt w v cs) (hS : Signs w) {B Hb SB M : Nat} {D : DataW Unit} (hA : StepsAt w cs v B Hb SB M D) (k : Nat) (hk : k < 6) (hn : ∀ j, j < k → idxK (stp cs j) cs = -1) :
    Calls Tryd.prog 54 #[v, .func (.func (stpG k)) #[] (stpB B Hb k)] w fun e w' => e = .returned (.int .i64 (idxK (stp cs k) cs)) ∧ Below w.heap.size w w' := by
  refine k54 (stpG k) (stpB B Hb k) (step_enters k hk) (stp cs k) cs v w hP F.len ?_
  intro W x c hW hm hC
  have hS' := hS.below hW
  have hA' := hA.below hW
  obtain ⟨ap, cp, hv⟩ := hP.form
  match k, hk, hn with
  | 0, _, _ => exact k63 cs c x W hC B ap cp (by rw [← hv]; exact hA'.box) hA'.boxLt
  | 1, _, _ => exact k65 c x W hC hS' (F.cw c hm) (by rw [F.gl c hm]; simp) (F.bl c hm)
  | 2, _, hn =>
    have hr := mis_head (idxK_neg (hn 1 (by omega)) c hm)
    have hl := right_len hr
    exact k66 c x W hC (by omega) hl.2 (F.cw c hm _ (.inl rfl))
  | 3, _, _ =>
    have e : step3 c = false := by unfold step3; rw [F.gl c hm]; rfl
    show Calls Tryd.prog 68 _ W fun e w' => e = .returned (.bool (step3 c)) ∧ _
    rw [e]
    exact k68_nil c x W hC (F.gl c hm)
  | 4, _, _ => exact k72 c x W hC hS' (F.bl c hm)
  | 5, _, _ => exact k74 cs c x W hC hS' (F.bl c hm) (F.pw c hm) M Hb D F.len hA'.grp hA'.isG hA'.hds hA'.hdsLt
/-- What Where tells of a program. -/
def IsWhere (cs : List Cl) (n e : Int) : Prop :=
  (∃ k, k < 6 ∧ (∀ j, j < k → idxK (stp cs j) cs = -1) ∧ 0 ≤ idxK (stp cs k) cs ∧ n = idxK (stp cs k) cs ∧ e = errS k) ∨ ((∀ j, j < 6 → idxK (stp cs j) cs = -1) ∧ n = 0 ∧ e = 0)
set_option maxRecDepth 100000 in
set_option maxHeartbeats 2000000 in
theorem k37 (cs : List Cl) (F : Fine cs) (v : Value) (w : World) (hP : ProgAt w v cs) (hS : Signs w) :
    Calls Tryd.prog 37 #[v] w fun e w' => ∃ n er, e = .returned (.tuple #[.int .i64 n, .int .i64 er]) ∧ IsWhere cs n er ∧ Below w.heap.size w w' := by
  have HP : Hid (ProgAt w v cs) := hP
  have HS : Hid (Signs w) := hS
  have H53 := k53 cs v w hP F.len F.hw
  have HStep : Hid (∀ W, Below w.heap.size w W → ∀ B Hb SB M D, StepsAt W cs v B Hb SB M D → ∀ k, k < 6 → (∀ j, j < k → idxK (stp cs j) cs = -1) → Calls Tryd.prog 54 #[v, .func (.func (stpG k)) #[] (stpB B Hb k)] W fun e w' => e = .returned (.int .i64 (idxK (stp cs k) cs)) ∧ Below W.heap.size W w') := fun W hW B Hb SB M D hA k hk hn => step_call cs F v W (HP.out.below hW) (HS.out.below hW) hA k hk hn
  have HLen : Hid (cs.length ≤ 100000000) := F.len
  obtain ⟨ad, cap, hv⟩ := hP.form
  subst hv
  clear hP hS F
  go_enter Tryd.func37, Tryd.ntmps37
  go_wp2_with fail
  refine H53.mono ?_
  rintro e w1 ⟨B, Hb, SB, M, D, rfl, hA, hb1⟩
  have HA : Hid (StepsAt w1 cs (.slice ad cs.length cap) B Hb SB M D) := hA
  clear hA H53
  go_wp2_with fail
  go_loopw [10] (fun i wr => ∃ k : Nat, k ≤ 6 ∧ i = .int .i64 k ∧ Hid (∀ j, j < k → idxK (stp cs j) cs = -1) ∧ Below w1.heap.size w1 wr) (fun i _ => 6 - (intOf i).toNat)
  case atStart => exact ⟨0, by omega, rfl, fun j hj => by omega, Below.refl _ _⟩
  case round =>
    obtain ⟨k, hk, rfl, HI, hbr⟩ := hrel
    by_cases hlt : k < 6
    · have hlt' : (k : Int) < 6 := by omega
      have hk0 : (0 : Int) ≤ (k : Int) := by omega
      obtain ⟨q0, q1⟩ := step_cells B Hb k hlt
      have hA := HA.out.below hbr
      have p0 := hA.row _ _ q0
      have p1 := hA.row _ _ q1
      rw [Nat.zero_add] at p0 p1
      have hbw := hb1.trans (hbr.mono hb1.size)
      have HB2 : Hid (∀ o : Obj, Below w.heap.size w (wr.alloc o)) := fun o => hbw.alloc hbw.size o
      have HB3 : Hid (∀ o : Obj, Below w1.heap.size w1 (wr.alloc o)) := fun o => hbr.alloc hbr.size o
      have HC := HStep.out (wr.alloc (.cells #[.int .i64 (errS k), .func (.func (stpG k)) #[] (stpB B Hb k)] 78)) (HB2.out _) B Hb SB M D (hA.below ((Below.refl _ wr).alloc (Nat.le_refl _) _)) k hlt HI.out
      have HCell : Hid (∀ W, Below (wr.alloc (.cells #[.int .i64 (errS k), .func (.func (stpG k)) #[] (stpB B Hb k)] 78)).heap.size (wr.alloc (.cells #[.int .i64 (errS k), .func (.func (stpG k)) #[] (stpB B Hb k)] 78)) W → W.cell? ⟨wr.heap.size, 0, none⟩ = some (.int .i64 (errS k))) := fun W hW => by
        rw [hW.cell (by simp), cell_of_row _ wr.heap.size 0 _ 78 (0, 0) (heap_alloc_new wr _)]; rfl
      have hform := idxK_form (stp cs k) cs
      have HNext : Hid (idxK (stp cs k) cs = -1 → ∀ j, j < k + 1 → idxK (stp cs j) cs = -1) := fun h j hj => if e : j = k then by subst e; exact h else HI.out j (by omega)
      have HDone : Hid (0 ≤ idxK (stp cs k) cs → IsWhere cs (idxK (stp cs k) cs) (errS k)) := fun h => .inl ⟨k, hlt, HI.out, h, rfl, rfl⟩
      clear hA q0 q1
      generalize idxK (stp cs k) cs = i at *
      generalize errS k = er at *
      generalize stpG k = g at *
      generalize stpB B Hb k = lb at *
      go_wp2_with fail
      refine HC.mono ?_
      rintro e w2 ⟨rfl, hb2⟩
      have c0 := HCell.out w2 hb2
      rcases hform with h1 | ⟨m, hm, h1⟩
      · have HN : Hid (∀ j, j < k + 1 → idxK (stp cs j) cs = -1) := HNext.out h1
        subst h1
        clear HCell HC
        go_wp2_with fail
        go_roundw
        case rel => exact ⟨k + 1, by omega, by go_num, HN, (HB3.out _).trans (hb2.mono (HB3.out _).size)⟩
        case measure => simp [intOf]; omega
      · have HN : Hid (IsWhere cs i er) := HDone.out (by omega)
        subst h1
        have hm0 : (0 : Int) ≤ (m : Int) := by omega
        clear HCell HC HNext HDone
        go_wp2_with fail
        have hbw2 := (HB2.out _).trans (hb2.mono (HB2.out _).size)
        go_quiet (fail)
        go_wp2_with fail
        exact bodyPost_ret (v := .tuple #[.int .i64 (m : Int), .int .i64 er]) (by simp [results, Tryd.results37, go_sem]) rfl ⟨_, _, rfl, HN.out, below_dN hbw2 _⟩
    · have hlt' : ¬ ((k : Int) < 6) := by omega
      have HN : Hid (IsWhere cs 0 0) := .inr ⟨fun j hj => HI.out j (by omega), rfl, rfl⟩
      have hbw := hb1.trans (hbr.mono hb1.size)
      go_wp2_with fail
      exact bodyPost_ret (v := .tuple #[.int .i64 0, .int .i64 0]) (by simp [results, Tryd.results37, go_sem]) rfl ⟨_, _, rfl, HN.out, hbw⟩
set_option maxRecDepth 100000 in
theorem k15 (cs : List Cl) (F : Fine cs) (v : Value) (w : World) (hP : ProgAt w v cs) (hS : Signs w) :
    Calls Tryd.prog 15 #[v] w fun e w' => ∃ n er, e = .returned (.int .i64 er) ∧ IsWhere cs n er ∧ Below w.heap.size w w' := by
  have H := k37 cs F v w hP hS
  obtain ⟨ad, cap, hv⟩ := hP.form
  subst hv
  clear hP hS F
  go_enter Tryd.func15, Tryd.ntmps15
  go_wp2_with fail
  refine H.mono ?_
  rintro e w1 ⟨n, er, rfl, hI, hb1⟩
  have HI : Hid (IsWhere cs n er) := hI
  clear hI
  go_wp2_with fail
  go_ret
  exact ⟨n, er, rfl, HI.out, hb1⟩
theorem where_ok {cs : List Cl} {n e : Int} (h : IsWhere cs n e) (hn : ∀ j, j < 6 → idxK (stp cs j) cs = -1) : e = 0 := by
  rcases h with ⟨k, hk, _, h0, _, _⟩ | ⟨_, _, h⟩
  · rw [hn k hk] at h0; omega
  · exact h
theorem where_at {cs : List Cl} {n e : Int} (h : IsWhere cs n e) (k : Nat) (hk : k < 6) (hn : ∀ j, j < k → idxK (stp cs j) cs = -1) (h0 : 0 ≤ idxK (stp cs k) cs) : e = errS k := by
  rcases h with ⟨i, hi, h1, h2, _, h3⟩ | ⟨h1, _, _⟩
  · rcases Nat.lt_trichotomy i k with h | h | h
    · rw [hn i h] at h2; omega
    · rw [h3, h]
    · rw [h1 k h] at h0; omega
  · rw [h1 k hk] at h0; omega
end Go.Proofs.YtjaaofedphamlaaDoor
namespace Go.Proofs.YtjaaofedphamlaaDoor
open Go.RowKit
def lvQ : List C := ofL ⟨#[113]⟩ [[localC 1]] 1
def lvF : List C := ofL ⟨#[102]⟩ [[localC 1]] 1
def lvH : List C := ofL ⟨#[112]⟩ [[localC 0]] 1
def lvB0 : List C := ofL ⟨#[61]⟩ [[localC 0], lvF] 2
def lvI : List C := [⟨1, ⟨#[]⟩, 1, 0, 0⟩]
def lvB1 : List C := ofL ⟨#[64]⟩ [lvQ, lvI] 2
def lvA : List C := [⟨2, ⟨#[97]⟩, 0, 0, 0⟩]
def lvH1 : List C := ofL ⟨#[113]⟩ [lvA] 1
def lvC0 : Cl := ⟨lvH, [], [lvB0, lvB1], 2⟩
def lvC1 : Cl := ⟨lvH1, [], [], 0⟩
theorem lv_calls : callsS [lvC0, lvC1] 0 = [(⟨#[113]⟩, 1)] := by kernel_rfl
theorem lv_goal : isGoalS lvB1 = true := by kernel_rfl
theorem lv_guard : isGuardS lvB1 = false := by kernel_rfl
theorem lv0 : idxK (stp [lvC0, lvC1] 0) [lvC0, lvC1] = -1 := by kernel_rfl
theorem lv1 : idxK (stp [lvC0, lvC1] 1) [lvC0, lvC1] = -1 := by kernel_rfl
theorem lv2 : idxK (stp [lvC0, lvC1] 2) [lvC0, lvC1] = -1 := by kernel_rfl
theorem lv3 : idxK (stp [lvC0, lvC1] 3) [lvC0, lvC1] = -1 := by kernel_rfl
theorem lv4 : idxK (stp [lvC0, lvC1] 4) [lvC0, lvC1] = -1 := by kernel_rfl
theorem lv5 : idxK (stp [lvC0, lvC1] 5) [lvC0, lvC1] = -1 := by kernel_rfl
theorem lu0 : idxK (stp [lvC0] 0) [lvC0] = -1 := by kernel_rfl
theorem lu1 : idxK (stp [lvC0] 1) [lvC0] = -1 := by kernel_rfl
theorem lu2 : idxK (stp [lvC0] 2) [lvC0] = -1 := by kernel_rfl
theorem lu3 : idxK (stp [lvC0] 3) [lvC0] = -1 := by kernel_rfl
theorem lu4 : idxK (stp [lvC0] 4) [lvC0] = -1 := by kernel_rfl
theorem lu5 : idxK (stp [lvC0] 5) [lvC0] = 0 := by kernel_rfl
theorem lv_ok {n e : Int} (h : IsWhere [lvC0, lvC1] n e) : e = 0 := where_ok h fun j hj => by
  match j, hj with
  | 0, _ => exact lv0
  | 1, _ => exact lv1
  | 2, _ => exact lv2
  | 3, _ => exact lv3
  | 4, _ => exact lv4
  | 5, _ => exact lv5
theorem lu_at {n e : Int} (h : IsWhere [lvC0] n e) : e = 43 := where_at h 5 (by omega) (fun j hj => by
  match j, hj with
  | 0, _ => exact lu0
  | 1, _ => exact lu1
  | 2, _ => exact lu2
  | 3, _ => exact lu3
  | 4, _ => exact lu4) (by rw [lu5]; exact Int.le_refl 0)
theorem nm_wf (a b : Int) (ha : (Lit.int .i64 a).wf = true) (hb : (Lit.int .i64 b).wf = true) : wfN (a, b) := ⟨ha, hb⟩
theorem lv_w0 : ClW lvC0 := by
  intro l hl
  have : ∀ l ∈ [lvH, lvB0, lvB1], ∀ x ∈ varsOf l, x = (-1, 0) ∨ x = (-1, 1) := by
    have e1 : varsOf lvH = [(-1, 0)] := by kernel_rfl
    have e2 : varsOf lvB0 = [(-1, 0), (-1, 1)] := by kernel_rfl
    have e3 : varsOf lvB1 = [(-1, 1)] := by kernel_rfl
    intro l hl x hx
    simp at hl
    rcases hl with rfl | rfl | rfl
    · rw [e1] at hx; simp at hx; exact .inl hx
    · rw [e2] at hx; simp at hx; exact hx
    · rw [e3] at hx; simp at hx; exact .inr hx
  intro x hx
  have hm : l ∈ [lvH, lvB0, lvB1] := by
    rcases hl with rfl | hl | hl
    · simp [lvC0]
    · simp [lvC0] at hl
    · simp [lvC0] at hl; rcases hl with rfl | rfl <;> simp
  rcases this l hm x hx with rfl | rfl <;> exact ⟨rfl, rfl⟩
theorem lv_w1 : ClW lvC1 := by
  intro l hl x hx
  have e1 : varsOf lvH1 = [] := by kernel_rfl
  rcases hl with rfl | hl | hl
  · have : x ∈ varsOf lvH1 := hx
    rw [e1] at this; simp at this
  · simp [lvC1] at hl
  · simp [lvC1] at hl
theorem lv_p0 : ∀ y ∈ calledS lvC0.bs, wfP y := by
  have e : calledS lvC0.bs = [(⟨#[113]⟩, 1)] := by kernel_rfl
  rw [e]; intro y hy; simp at hy; subst hy; exact ⟨by decide, rfl⟩
theorem lv_p1 : ∀ y ∈ calledS lvC1.bs, wfP y := by
  have e : calledS lvC1.bs = [] := by kernel_rfl
  rw [e]; intro y hy; simp at hy
theorem lv_h0 : wfP (predS lvC0.hd) := by
  have e : predS lvC0.hd = (⟨#[112]⟩, 1) := by kernel_rfl
  rw [e]; exact ⟨by decide, rfl⟩
theorem lv_h1 : wfP (predS lvC1.hd) := by
  have e : predS lvC1.hd = (⟨#[113]⟩, 1) := by kernel_rfl
  rw [e]; exact ⟨by decide, rfl⟩
theorem lv_fine : Fine [lvC0, lvC1] := by
  refine ⟨by simp, ?_, ?_, ?_, ?_, ?_⟩
  · intro c hc; simp at hc; rcases hc with rfl | rfl
    · exact lv_w0
    · exact lv_w1
  · intro c hc; simp at hc; rcases hc with rfl | rfl <;> rfl
  · intro c hc; simp at hc; rcases hc with rfl | rfl <;> simp [lvC0, lvC1]
  · intro c hc; simp at hc; rcases hc with rfl | rfl
    · intro _; exact lv_h0
    · intro _; exact lv_h1
  · intro c hc; simp at hc; rcases hc with rfl | rfl
    · exact lv_p0
    · exact lv_p1
theorem lu_fine : Fine [lvC0] := by
  refine ⟨by simp, ?_, ?_, ?_, ?_, ?_⟩
  · intro c hc; simp at hc; subst hc; exact lv_w0
  · intro c hc; simp at hc; subst hc; rfl
  · intro c hc; simp at hc; subst hc; simp [lvC0]
  · intro c hc; simp at hc; subst hc; intro _; exact lv_h0
  · intro c hc; simp at hc; subst hc; exact lv_p0
end Go.Proofs.YtjaaofedphamlaaDoor
namespace Go.Proofs.YtjaaofedphamlaaDoor
open Go.RowKit
theorem small_sizes {l : List C} (h : l.all (fun c => decide (c.t.size ≤ 100)) = true) : ∀ c ∈ l, c.t.size ≤ maxLen := fun c hc => by
  have := List.all_eq_true.1 h c hc
  simp at this
  unfold maxLen; omega
theorem t23 (k : Int) (w : World) :
    Calls Tryd.prog 23 #[.int .i64 k] w fun e w' => ∃ ad n cap, e = .returned (.slice ad n cap) ∧ TermAt w' (.slice ad n cap) [localC k] ∧ Below w.heap.size w w' := by
  refine (k23 k w).mono ?_
  rintro e w' ⟨u, rfl, hO, hb⟩
  have hT : TermAt w' u [localC k] := ownT_term hO (by simp [maxLen]) (small_sizes rfl)
  obtain ⟨ad, cap, hu⟩ := hT.form
  subst hu
  exact ⟨ad, _, cap, rfl, hT, hb⟩
theorem row_two (w : World) (v1 v2 : Value) (l1 l2 : List C) (h1 : TermAt w v1 l1) (h2 : TermAt w v2 l2) : RowAt (w.alloc (.cells #[v1, v2] 23)) (.slice (some ⟨w.heap.size, 0, none⟩) 2 2) [l1, l2] := by
  refine ⟨by simp [maxLen], .inr ⟨w.heap.size, 0, 2, [v1, v2], rfl, by simp, by simp [maxLen], by simp, rfl, range_new w [v1, v2] 23, ?_⟩⟩
  intro i u x hu hx
  match i, hu, hx with
  | 0, hu, hx => simp at hu hx; subst hu hx; exact h1.below (below_alloc _ _)
  | 1, hu, hx => simp at hu hx; subst hu hx; exact h2.below (below_alloc _ _)
theorem t22_one (text : ByteArray) (l : List C) (v : Value) (w : World) (h : TermAt w v l) (h0 : 0 < l.length) (hl : l.length ≤ 100) (hs : (ofL text [l] 1).all (fun c => decide (c.t.size ≤ 100)) = true) :
    Calls Tryd.prog 22 #[.string text, .slice (some ⟨w.heap.size, 0, none⟩) 1 1] (w.alloc (.cells #[v] 23)) fun e w' => ∃ ad n cap, e = .returned (.slice ad n cap) ∧ TermAt w' (.slice ad n cap) (ofL text [l] 1) ∧ Below w.heap.size w w' := by
  refine (k22 text [l] _ _ (row_one w v l h) (by simpa using h0) (by simp; omega) (by simp)).mono ?_
  rintro e w' ⟨u, rfl, hO, hb⟩
  have hT : TermAt w' u (ofL text [l] 1) := ownT_term hO (by simp [ofL, maxLen]; omega) (small_sizes hs)
  obtain ⟨ad, cap, hu⟩ := hT.form
  subst hu
  have hb0 : Below w.heap.size w (w.alloc (.cells #[v] 23)) := (Below.refl _ w).alloc (Nat.le_refl _) _
  exact ⟨ad, _, cap, rfl, hT, hb0.trans (hb.mono hb0.size)⟩
theorem t22_two (text : ByteArray) (l1 l2 : List C) (v1 v2 : Value) (w : World) (h1 : TermAt w v1 l1) (h2 : TermAt w v2 l2) (h0 : 0 < l1.length) (h0' : 0 < l2.length) (hl : l1.length + l2.length ≤ 100) (hs : (ofL text [l1, l2] 2).all (fun c => decide (c.t.size ≤ 100)) = true) :
    Calls Tryd.prog 22 #[.string text, .slice (some ⟨w.heap.size, 0, none⟩) 2 2] (w.alloc (.cells #[v1, v2] 23)) fun e w' => ∃ ad n cap, e = .returned (.slice ad n cap) ∧ TermAt w' (.slice ad n cap) (ofL text [l1, l2] 2) ∧ Below w.heap.size w w' := by
  refine (k22 text [l1, l2] _ _ (row_two w v1 v2 l1 l2 h1 h2) (by simpa using ⟨h0, h0'⟩) (by simp; omega) (by simp)).mono ?_
  rintro e w' ⟨u, rfl, hO, hb⟩
  have hT : TermAt w' u (ofL text [l1, l2] 2) := ownT_term hO (by simp [ofL, maxLen]; omega) (small_sizes hs)
  obtain ⟨ad, cap, hu⟩ := hT.form
  subst hu
  have hb0 : Below w.heap.size w (w.alloc (.cells #[v1, v2] 23)) := (Below.refl _ w).alloc (Nat.le_refl _) _
  exact ⟨ad, _, cap, rfl, hT, hb0.trans (hb.mono hb0.size)⟩
theorem one_cell (w : World) (c : C) (hc : c.t.size ≤ maxLen) : TermAt (w.alloc (.cells #[.int .u8 c.k, .string c.t, .int .i64 c.n, .int .i64 c.vn, .int .i64 c.vk] 54)) (.slice (some ⟨w.heap.size, 0, none⟩) 1 1) [c] := by
  exact ownT_term (own_one w c) (by simp [maxLen]) (by intro x hx; simp at hx; subst hx; exact hc)
theorem prog_two (w : World) (x0 x1 : ClV) (c0 c1 : Cl) (h0 : ClAt w x0 c0) (h1 : ClAt w x1 c1) : ProgAt (w.alloc (.cells #[x0.hv, x0.gv, x0.bv, .int .i64 x0.n, x1.hv, x1.gv, x1.bv, .int .i64 x1.n] 38)) (.slice (some ⟨w.heap.size, 0, none⟩) 2 2) [c0, c1] := by
  refine ⟨by simp [maxLen], .inr ⟨w.heap.size, 0, 2, [x0, x1], rfl, by simp, by simp [maxLen], by simp, rfl, range_new w (flatK [x0, x1]) 38, ?_⟩⟩
  intro i u x hu hx
  match i, hu, hx with
  | 0, hu, hx => simp at hu hx; subst hu hx; exact h0.below (below_alloc _ _)
  | 1, hu, hx => simp at hu hx; subst hu hx; exact h1.below (below_alloc _ _)
theorem prog_one (w : World) (x0 x1 : ClV) (c0 : Cl) (h0 : ClAt w x0 c0) : ProgAt (w.alloc (.cells #[x0.hv, x0.gv, x0.bv, .int .i64 x0.n, x1.hv, x1.gv, x1.bv, .int .i64 x1.n] 38)) (.slice (some ⟨w.heap.size, 0, none⟩) 1 2) [c0] := by
  refine ⟨by simp [maxLen], .inr ⟨w.heap.size, 0, 2, [x0], rfl, by simp, by simp [maxLen], by simp, rfl, ?_, ?_⟩⟩
  · intro i u hu
    have hr := range_new w (flatK [x0, x1]) 38
    refine hr i u ?_
    have e : flatK [x0, x1] = flatK [x0] ++ flatK [x1] := by simp [flatK]
    rw [e, List.getElem?_append_left (List.getElem?_eq_some_iff.1 hu).1]
    exact hu
  · intro i u x hu hx
    match i, hu, hx with
    | 0, hu, hx => simp at hu hx; subst hu hx; exact h0.below (below_alloc _ _)
theorem eq_q1 (w : World) : (binOp .eql 40 (.agg #[.string ⟨#[113]⟩, .int .i64 1]) (.agg #[.string ⟨#[113]⟩, .int .i64 1])).run Tryd.prog w = .ok (.bool true) w := by kernel_rfl
theorem row_none (w : World) : RowAt w (.slice none 0 0) [] := ⟨by simp [maxLen], .inl ⟨rfl, none, rfl⟩⟩
set_option maxRecDepth 100000 in
set_option maxHeartbeats 4000000 in
theorem k7 (w : World) (hS : Signs w) :
    Calls Tryd.prog 7 #[] w fun e w' => e = .returned (.bool true) ∧ Below w.heap.size w w' := by
  have HS : Hid (Signs w) := hS
  clear hS
  go_enter Tryd.func7, Tryd.ntmps7
  go_wp2_with fail
  refine (t23 0 w).mono ?_
  rintro e w1 ⟨a1, n1, c1, rfl, T1, hb1⟩
  have HB1 : Hid (Below w.heap.size w w1) := hb1
  have H := t22_one ⟨#[112]⟩ _ _ w1 T1 (by simp) (by simp) rfl
  clear hb1 T1
  go_wp2_with fail
  refine H.mono ?_
  clear H
  rintro e w2 ⟨a2, n2, c2, rfl, T2, hb2⟩
  have HB2 : Hid (Below w.heap.size w w2) := HB1.out.trans (hb2.mono HB1.out.size)
  have HT2 : Hid (TermAt w2 (.slice a2 n2 c2) lvH) := T2
  clear hb2 T2 HB1
  go_wp2_with fail
  refine (t23 0 w2).mono ?_
  rintro e w3 ⟨a3, n3, c3, rfl, T3, hb3⟩
  have HB3 : Hid (Below w2.heap.size w2 w3) := hb3
  have HT3 : Hid (TermAt w3 (.slice a3 n3 c3) [localC 0]) := T3
  clear hb3 T3
  go_wp2_with fail
  refine (t23 1 w3).mono ?_
  rintro e w4 ⟨a4, n4, c4, rfl, T4, hb4⟩
  have HB4 : Hid (Below w3.heap.size w3 w4) := hb4
  have H := t22_one ⟨#[102]⟩ _ _ w4 T4 (by simp) (by simp) rfl
  clear hb4 T4
  go_wp2_with fail
  refine H.mono ?_
  clear H
  rintro e w5 ⟨a5, n5, c5, rfl, T5, hb5⟩
  have HB5 : Hid (Below w3.heap.size w3 w5) := HB4.out.trans (hb5.mono HB4.out.size)
  have H := t22_two ⟨#[61]⟩ _ lvF _ _ w5 (HT3.out.below HB5.out) T5 (by simp) (by simp [lvF, ofL]) (by simp [lvF, ofL]) rfl
  clear hb5 T5 HB4 HT3
  go_wp2_with fail
  refine H.mono ?_
  clear H
  rintro e w6 ⟨a6, n6, c6, rfl, T6, hb6⟩
  have HB35 : Hid (Below w2.heap.size w2 w5) := HB3.out.trans (HB5.out.mono HB3.out.size)
  have HB6 : Hid (Below w2.heap.size w2 w6) := HB35.out.trans (hb6.mono HB35.out.size)
  have HT6 : Hid (TermAt w6 (.slice a6 n6 c6) lvB0) := T6
  clear hb6 T6 HB3 HB5 HB35
  go_wp2_with fail
  refine (t23 1 w6).mono ?_
  rintro e w7 ⟨a7, n7, c7, rfl, T7, hb7⟩
  have HB7 : Hid (Below w6.heap.size w6 w7) := hb7
  have H := t22_one ⟨#[113]⟩ _ _ w7 T7 (by simp) (by simp) rfl
  clear hb7 T7
  go_wp2_with fail
  refine H.mono ?_
  clear H
  rintro e w8 ⟨a8, n8, c8, rfl, T8, hb8⟩
  have HB8 : Hid (Below w6.heap.size w6 w8) := HB7.out.trans (hb8.mono HB7.out.size)
  have hbc : Below w8.heap.size w8 (w8.alloc (.cells #[.int .u8 1, .string ⟨#[]⟩, .int .i64 1, .int .i64 0, .int .i64 0] 54)) := (Below.refl _ w8).alloc (Nat.le_refl _) _
  have H := t22_two ⟨#[64]⟩ lvQ lvI _ _ _ (T8.below hbc) (one_cell w8 ⟨1, ⟨#[]⟩, 1, 0, 0⟩ (by decide)) (by simp [lvQ, ofL]) (by simp [lvI]) (by simp [lvQ, lvI, ofL]) rfl
  have HBc : Hid (Below w6.heap.size w6 (w8.alloc (.cells #[.int .u8 1, .string ⟨#[]⟩, .int .i64 1, .int .i64 0, .int .i64 0] 54))) := HB8.out.trans (hbc.mono HB8.out.size)
  simp only [World.size_alloc] at H
  clear hb8 T8 HB7 hbc HB8
  go_wp2_with fail
  refine H.mono ?_
  clear H
  rintro e w9 ⟨a9, n9, c9, rfl, T9, hb9⟩
  have HB9 : Hid (Below w6.heap.size w6 w9) := HBc.out.trans (hb9.mono (by have := HBc.out.size; simpa using this))
  have hR := row_two w9 _ _ _ _ (HT6.out.below HB9.out) T9
  have HT9 : Hid (TermAt w9 (.slice a9 n9 c9) lvB1) := T9
  have hbA : Below w9.heap.size w9 (w9.alloc (.cells #[.slice a6 n6 c6, .slice a9 n9 c9] 23)) := (Below.refl _ w9).alloc (Nat.le_refl _) _
  have hrow : ∀ W, Below (w9.alloc (.cells #[.slice a6 n6 c6, .slice a9 n9 c9] 23)).heap.size (w9.alloc (.cells #[.slice a6 n6 c6, .slice a9 n9 c9] 23)) W → W.cell? ⟨w9.heap.size, 1, none⟩ = some (.slice a9 n9 c9) := fun W hW => by
    rw [hW.cell (by simp), cell_of_row _ w9.heap.size 1 _ 23 (0, 0) (heap_alloc_new w9 _)]; rfl
  have HRow : Hid (∀ W, Below (w9.alloc (.cells #[.slice a6 n6 c6, .slice a9 n9 c9] 23)).heap.size (w9.alloc (.cells #[.slice a6 n6 c6, .slice a9 n9 c9] 23)) W → W.cell? ⟨w9.heap.size, 1, none⟩ = some (.slice a9 n9 c9)) := hrow
  have hbB := hbA.alloc hbA.size (.cells #[.int .u8 2, .string ⟨#[97]⟩, .int .i64 0, .int .i64 0, .int .i64 0] 54)
  have hbAB : Below (w9.alloc (.cells #[.slice a6 n6 c6, .slice a9 n9 c9] 23)).heap.size (w9.alloc (.cells #[.slice a6 n6 c6, .slice a9 n9 c9] 23)) ((w9.alloc (.cells #[.slice a6 n6 c6, .slice a9 n9 c9] 23)).alloc (.cells #[.int .u8 2, .string ⟨#[97]⟩, .int .i64 0, .int .i64 0, .int .i64 0] 54)) := (Below.refl _ _).alloc (Nat.le_refl _) _
  have HBAB : Hid (Below (w9.alloc (.cells #[.slice a6 n6 c6, .slice a9 n9 c9] 23)).heap.size (w9.alloc (.cells #[.slice a6 n6 c6, .slice a9 n9 c9] 23)) ((w9.alloc (.cells #[.slice a6 n6 c6, .slice a9 n9 c9] 23)).alloc (.cells #[.int .u8 2, .string ⟨#[97]⟩, .int .i64 0, .int .i64 0, .int .i64 0] 54))) := hbAB
  have HBB : Hid (Below w9.heap.size w9 ((w9.alloc (.cells #[.slice a6 n6 c6, .slice a9 n9 c9] 23)).alloc (.cells #[.int .u8 2, .string ⟨#[97]⟩, .int .i64 0, .int .i64 0, .int .i64 0] 54))) := hbB
  have HR : Hid (RowAt ((w9.alloc (.cells #[.slice a6 n6 c6, .slice a9 n9 c9] 23)).alloc (.cells #[.int .u8 2, .string ⟨#[97]⟩, .int .i64 0, .int .i64 0, .int .i64 0] 54)) (.slice (some ⟨w9.heap.size, 0, none⟩) 2 2) [lvB0, lvB1]) := hR.below hbAB
  have H := t22_one ⟨#[113]⟩ lvA _ _ (one_cell (w9.alloc (.cells #[.slice a6 n6 c6, .slice a9 n9 c9] 23)) ⟨2, ⟨#[97]⟩, 0, 0, 0⟩ (by decide)) (by simp [lvA]) (by simp [lvA]) rfl
  simp only [World.size_alloc, Nat.add_assoc, Nat.reduceAdd] at H
  clear hb9 T9 HBc hrow hbA hbB hbAB hR
  go_wp2_with fail
  refine H.mono ?_
  clear H
  rintro e w12 ⟨a12, n12, c12, rfl, T12, hb12⟩
  have hb12' : Below ((w9.alloc (.cells #[.slice a6 n6 c6, .slice a9 n9 c9] 23)).alloc (.cells #[.int .u8 2, .string ⟨#[97]⟩, .int .i64 0, .int .i64 0, .int .i64 0] 54)).heap.size ((w9.alloc (.cells #[.slice a6 n6 c6, .slice a9 n9 c9] 23)).alloc (.cells #[.int .u8 2, .string ⟨#[97]⟩, .int .i64 0, .int .i64 0, .int .i64 0] 54)) w12 := hb12.mono (by simp)
  have hb9_12 := HBB.out.trans (hb12'.mono HBB.out.size)
  have hb6_12 := HB9.out.trans (hb9_12.mono HB9.out.size)
  have hb2_12 := HB6.out.trans (hb6_12.mono HB6.out.size)
  have hbw12 := HB2.out.trans (hb2_12.mono HB2.out.size)
  have hC0 : ClAt w12 ⟨.slice a2 n2 c2, .slice none 0 0, .slice (some ⟨w9.heap.size, 0, none⟩) 2 2, 2⟩ lvC0 := ⟨HT2.out.below hb2_12, row_none _, HR.out.below hb12', rfl⟩
  have hC1 : ClAt w12 ⟨.slice a12 n12 c12, .slice none 0 0, .slice none 0 0, 0⟩ lvC1 := ⟨T12, row_none _, row_none _, rfl⟩
  have hP2 := prog_two w12 _ _ _ _ hC0 hC1
  have hP1 := prog_one w12 _ ⟨.slice a12 n12 c12, .slice none 0 0, .slice none 0 0, 0⟩ _ hC0
  have hbP : Below w12.heap.size w12 (w12.alloc (.cells #[.slice a2 n2 c2, .slice none 0 0, .slice (some ⟨w9.heap.size, 0, none⟩) 2 2, .int .i64 2, .slice a12 n12 c12, .slice none 0 0, .slice none 0 0, .int .i64 0] 38)) := (Below.refl _ w12).alloc (Nat.le_refl _) _
  have hbwP := hbw12.trans (hbP.mono hbw12.size)
  have hb9P := hb9_12.trans (hbP.mono hb9_12.size)
  have HPB : Hid (TermAt (w12.alloc (.cells #[.slice a2 n2 c2, .slice none 0 0, .slice (some ⟨w9.heap.size, 0, none⟩) 2 2, .int .i64 2, .slice a12 n12 c12, .slice none 0 0, .slice none 0 0, .int .i64 0] 38)) (.slice a9 n9 c9) lvB1) := HT9.out.below hb9P
  have HPc1 : Hid ((w12.alloc (.cells #[.slice a2 n2 c2, .slice none 0 0, .slice (some ⟨w9.heap.size, 0, none⟩) 2 2, .int .i64 2, .slice a12 n12 c12, .slice none 0 0, .slice none 0 0, .int .i64 0] 38)).cell? ⟨w9.heap.size, 1, none⟩ = some (.slice a9 n9 c9)) := HRow.out _ ((HBAB.out.trans (hb12'.mono HBAB.out.size)).trans (hbP.mono (HBAB.out.trans (hb12'.mono HBAB.out.size)).size))
  have HPc2 : Hid ((w12.alloc (.cells #[.slice a2 n2 c2, .slice none 0 0, .slice (some ⟨w9.heap.size, 0, none⟩) 2 2, .int .i64 2, .slice a12 n12 c12, .slice none 0 0, .slice none 0 0, .int .i64 0] 38)).cell? ⟨w12.heap.size, 2, none⟩ = some (.slice (some ⟨w9.heap.size, 0, none⟩) 2 2)) := by
    show World.cell? _ _ = _
    rw [cell_of_row _ w12.heap.size 2 _ 38 (0, 0) (heap_alloc_new w12 _)]; rfl
  have HPl : Hid (w12.heap.size < (w12.alloc (.cells #[.slice a2 n2 c2, .slice none 0 0, .slice (some ⟨w9.heap.size, 0, none⟩) 2 2, .int .i64 2, .slice a12 n12 c12, .slice none 0 0, .slice none 0 0, .int .i64 0] 38)).heap.size ∧ w9.heap.size < (w12.alloc (.cells #[.slice a2 n2 c2, .slice none 0 0, .slice (some ⟨w9.heap.size, 0, none⟩) 2 2, .int .i64 2, .slice a12 n12 c12, .slice none 0 0, .slice none 0 0, .int .i64 0] 38)).heap.size) := ⟨by simp, by have := hb9_12.size; simp; omega⟩
  have HPS : Hid (Signs (w12.alloc (.cells #[.slice a2 n2 c2, .slice none 0 0, .slice (some ⟨w9.heap.size, 0, none⟩) 2 2, .int .i64 2, .slice a12 n12 c12, .slice none 0 0, .slice none 0 0, .int .i64 0] 38))) := HS.out.below hbwP
  clear hb12 hb12' hb9_12 hb6_12 hb2_12 hbw12 hC0 hC1 T12 hbP hb9P HT9 HRow HBAB HBB HR HB9 HB6 HT6 HT2 HB2 HS
  have HP2 : Hid (ProgAt _ _ [lvC0, lvC1]) := hP2
  have HP1 : Hid (ProgAt _ _ [lvC0]) := hP1
  have HBwP : Hid (Below w.heap.size w _) := hbwP
  clear hP2 hP1 hbwP
  simp only at HP2 HP1
  go_wp2_with fail
  generalize (w12.alloc (.cells #[.slice a2 n2 c2, .slice none 0 0, .slice (some ⟨w9.heap.size, 0, none⟩) 2 2, .int .i64 2, .slice a12 n12 c12, .slice none 0 0, .slice none 0 0, .int .i64 0] 38)) = Wp at *
  generalize w12.heap.size = P at *
  generalize w9.heap.size = RB at *
  have H16 := k16 [lvC0, lvC1] _ 0 Wp HP2.out HPS.out (by intro c hc; simp at hc; rcases hc with rfl | rfl <;> simp [lvC0, lvC1])
  rw [lv_calls] at H16
  refine H16.mono ?_
  rintro e w13 ⟨u, rfl, hO, hb13⟩
  have hPr : PredsAt w13 u [((⟨#[113]⟩ : ByteArray), (1 : Int))] := predsAt_of_owns hO (by simp [maxLen])
  obtain ⟨ub, uo, uc, hu, d0, d1⟩ := preds_at hPr 0 (by simp)
  have hul : ub < w13.heap.size := by
    rcases hPr.2 with ⟨h, _⟩ | ⟨b, o, cap, h1, _, h4⟩
    · simp at h
    · rw [hu] at h1; simp at h1; rw [h1.1.1]; exact h4
  subst hu
  simp only [Nat.zero_mul, Nat.add_zero, List.getElem_cons_zero] at d0 d1
  have HD : Hid (w13.cell? ⟨ub, uo, none⟩ = some (.string ⟨#[113]⟩) ∧ w13.cell? ⟨ub, uo + 1, none⟩ = some (.int .i64 1) ∧ ub < w13.heap.size) := ⟨d0, d1, hul⟩
  have HB13 : Hid (Below Wp.heap.size Wp w13) := hb13
  have H15 := k15 [lvC0, lvC1] lv_fine _ w13 (HP2.out.below hb13) (HPS.out.below hb13)
  clear hO hPr d0 d1 hul hb13 H16
  go_wp2_with fail
  refine H15.mono ?_
  rintro e w14 ⟨n14, er, rfl, hI, hb14⟩
  obtain rfl := lv_ok hI
  have HB14 : Hid (Below w13.heap.size w13 w14) := hb14
  have hbp14 := HB13.out.trans (hb14.mono HB13.out.size)
  have H15' := k15 [lvC0] lu_fine _ w14 (HP1.out.below hbp14) (HPS.out.below hbp14)
  clear hI hb14 hbp14 H15
  go_wp2_with fail
  refine H15'.mono ?_
  rintro e w15 ⟨n15, er, rfl, hI, hb15⟩
  obtain rfl := lu_at hI
  have hb13_15 := HB14.out.trans (hb15.mono HB14.out.size)
  have hbp15 := HB13.out.trans (hb13_15.mono HB13.out.size)
  have d0 : w15.cell? ⟨ub, uo, none⟩ = some (.string ⟨#[113]⟩) := (hb13_15.cell (p := ⟨ub, uo, none⟩) HD.out.2.2).trans HD.out.1
  have d1 : w15.cell? ⟨ub, uo + 1, none⟩ = some (.int .i64 1) := (hb13_15.cell (p := ⟨ub, uo + 1, none⟩) HD.out.2.2).trans HD.out.2.1
  have e2 : w15.cell? ⟨P, 2, none⟩ = some (.slice (some ⟨RB, 0, none⟩) 2 2) := (hbp15.cell (p := ⟨P, 2, none⟩) HPl.out.1).trans HPc2.out
  have e1 : w15.cell? ⟨RB, 1, none⟩ = some (.slice a9 n9 c9) := (hbp15.cell (p := ⟨RB, 1, none⟩) HPl.out.2).trans HPc1.out
  have H12 := k12 lvB1 _ w15 (HPB.out.below hbp15) (HPS.out.below hbp15)
  rw [lv_goal] at H12
  have hq := eq_q1 w15
  have HBp15 : Hid (Below Wp.heap.size Wp w15) := hbp15
  clear hI hb15 hb13_15 hbp15 H15'
  go_wp2_with fail
  refine H12.mono ?_
  rintro e w16 ⟨rfl, hb16⟩
  have hbp16 := HBp15.out.trans (hb16.mono HBp15.out.size)
  have f2 : w16.cell? ⟨P, 2, none⟩ = some (.slice (some ⟨RB, 0, none⟩) 2 2) := (hbp16.cell (p := ⟨P, 2, none⟩) HPl.out.1).trans HPc2.out
  have f1 : w16.cell? ⟨RB, 1, none⟩ = some (.slice a9 n9 c9) := (hbp16.cell (p := ⟨RB, 1, none⟩) HPl.out.2).trans HPc1.out
  have H10 := k10 lvB1 _ w16 (HPB.out.below hbp16) (HPS.out.below hbp16)
  rw [lv_guard] at H10
  have HBp16 : Hid (Below Wp.heap.size Wp w16) := hbp16
  clear hbp16 hb16 H12
  go_wp2_with fail
  refine H10.mono ?_
  rintro e w17 ⟨rfl, hb17⟩
  have hbp17 := HBp16.out.trans (hb17.mono HBp16.out.size)
  go_wp2_with fail
  go_ret
  exact ⟨rfl, HBwP.out.trans (hbp17.mono HBwP.out.size)⟩
end Go.Proofs.YtjaaofedphamlaaDoor
namespace Go.Proofs.YtjaaofedphamlaaDoor
open Go.RowKit
def tEq : ByteArray := ⟨#[61]⟩
def tIs : ByteArray := ⟨#[58, 61]⟩
def tAt : ByteArray := ⟨#[64]⟩
def plainG (l : List C) : Bool := isTrueS l || isB l tEq 2 || callS l
def refGoal1 (l : List C) : Bool := plainG l || (isB l tIs 2 && sumAll (rightL l))
def refGoal0 (l : List C) : Bool := plainG l || (bif isB l tIs 2 then sumAll (rightL l) else (isB l tAt 2 && refGoal1 (leftL l) && placeS (headC (rightL l))))
theorem isB_two {l : List C} (s : ByteArray) (h : isB l s 2 = true) : ∃ h1 : 0 < l.length, l[0].k = 3 ∧ l[0].n = 2 ∧ l[0].t.toList = s.toList := by
  match l, h with
  | c :: r, h =>
    refine ⟨by simp, ?_⟩
    rw [isB_get (by simp)] at h
    simp at h
    simp only [List.getElem_cons_zero]
    exact ⟨h.2.1, h.2.2, h.1⟩
set_option maxRecDepth 100000 in
set_option maxHeartbeats 2000000 in
theorem k35t (l : List C) (v : Value) (w : World) (h : TermAt w v l) (hr : rightB l = true) :
    Calls Tryd.prog 35 #[v, .bool true] w fun e w' => e = .returned (.bool (refGoal1 l)) ∧ Below w.heap.size w w' := by
  have h1 : 0 < l.length := (right_len hr).1
  have HT : Hid (TermAt w v l) := h
  have Ht := fun W (hW : Below w.heap.size w W) => c29 l v tTrue 0 W (HT.out.below hW)
  have He := fun W (hW : Below w.heap.size w W) => c29 l v tEq 2 W (HT.out.below hW)
  have Hi := fun W (hW : Below w.heap.size w W) => c29 l v tIs 2 W (HT.out.below hW)
  have Hc := fun W (hW : Below w.heap.size w W) => k51 l v W (HT.out.below hW) h1
  have Ha := fun W (hW : Below w.heap.size w W) => c27 l v W (HT.out.below hW)
  have HG : Hid (refGoal1 l = (isB l tTrue 0 || isB l tEq 2 || callS l || (isB l tIs 2 && sumAll (rightL l)))) := rfl
  have HI : Hid (isB l tIs 2 = true → ∀ W u, RowAt W u (argsL l) → ∃ b o cap x, u = .slice (some ⟨b, o, none⟩) 2 cap ∧ W.cell? ⟨b, o + 1, none⟩ = some x ∧ Calls Tryd.prog 27 #[x] W fun e w' => e = .returned (.bool (sumAll (rightL l))) ∧ Below W.heap.size W w') := fun hh W u hR => by
    obtain ⟨_, e1, e2, _⟩ := isB_two tIs hh
    obtain ⟨m, hm1, hml, he, ha⟩ := two_parts hr h1 e1 e2
    have hlen : (argsL l).length = 2 := by rw [ha]; rfl
    obtain ⟨b, o, cap, x, hu, hc, ht, _⟩ := row_at hR 1 (by omega)
    rw [hlen] at hu
    have hx : (argsL l)[1] = rightL l := by
      unfold rightL
      rw [List.getElem?_eq_getElem (by omega)]; rfl
    rw [hx] at ht
    exact ⟨b, o, cap, x, hu, hc, k27 _ (rightL l) x W (Nat.le_refl _) ht (left_right hr h1 e1 e2).2⟩
  clear hr h
  obtain ⟨adv, cpv, hv⟩ := HT.out.form
  subst hv
  generalize sumAll (rightL l) = sr at *
  generalize callS l = cl at *
  simp only [tTrue, tEq, tIs] at Ht He Hi HI HG
  generalize isB l ⟨#[116, 114, 117, 101]⟩ 0 = b1 at *
  generalize isB l ⟨#[61]⟩ 2 = b2 at *
  generalize isB l ⟨#[58, 61]⟩ 2 = b3 at *
  cases b1
  · cases b2
    · cases cl
      · cases b3
        · go_enter Tryd.func35, Tryd.ntmps35
          go_wp2_with fail
          refine (Ht _ (Below.refl _ _)).mono ?_
          rintro e w' ⟨rfl, hw'⟩
          obtain rfl := hw'.symm
          go_wp2_with fail
          refine (He _ (Below.refl _ _)).mono ?_
          rintro e w' ⟨rfl, hw'⟩
          obtain rfl := hw'.symm
          go_wp2_with fail
          refine (Hc _ (Below.refl _ _)).mono ?_
          rintro e w1 ⟨rfl, hb1⟩
          go_wp2_with fail
          refine (Ha _ hb1).mono ?_
          rintro e w2 ⟨u, rfl, hR, hb2⟩
          have hb2' := hb1.trans (hb2.mono hb1.size)
          go_wp2_with fail
          refine (Hi _ hb2').mono ?_
          rintro e w' ⟨rfl, hw'⟩
          obtain rfl := hw'.symm
          go_wp2_with fail
          go_ret
          exact ⟨by rw [HG.out]; rfl, hb2'⟩
        · go_enter Tryd.func35, Tryd.ntmps35
          go_wp2_with fail
          refine (Ht _ (Below.refl _ _)).mono ?_
          rintro e w' ⟨rfl, hw'⟩
          obtain rfl := hw'.symm
          go_wp2_with fail
          refine (He _ (Below.refl _ _)).mono ?_
          rintro e w' ⟨rfl, hw'⟩
          obtain rfl := hw'.symm
          go_wp2_with fail
          refine (Hc _ (Below.refl _ _)).mono ?_
          rintro e w1 ⟨rfl, hb1⟩
          go_wp2_with fail
          refine (Ha _ hb1).mono ?_
          rintro e w2 ⟨u, rfl, hR, hb2⟩
          have hb2' := hb1.trans (hb2.mono hb1.size)
          obtain ⟨b, o, cap, x, rfl, hcx, H27⟩ := HI.out trivial _ _ hR
          go_wp2_with fail
          refine (Hi _ hb2').mono ?_
          rintro e w' ⟨rfl, hw'⟩
          obtain rfl := hw'.symm
          go_wp2_with fail
          refine H27.mono ?_
          rintro e w3 ⟨rfl, hb3⟩
          go_wp2_with fail
          go_ret
          exact ⟨by rw [HG.out]; rfl, hb2'.trans (hb3.mono hb2'.size)⟩
      · go_enter Tryd.func35, Tryd.ntmps35
        go_wp2_with fail
        refine (Ht _ (Below.refl _ _)).mono ?_
        rintro e w' ⟨rfl, hw'⟩
        obtain rfl := hw'.symm
        go_wp2_with fail
        refine (He _ (Below.refl _ _)).mono ?_
        rintro e w' ⟨rfl, hw'⟩
        obtain rfl := hw'.symm
        go_wp2_with fail
        refine (Hc _ (Below.refl _ _)).mono ?_
        rintro e w1 ⟨rfl, hb1⟩
        go_wp2_with fail
        go_ret
        exact ⟨by rw [HG.out]; rfl, hb1⟩
    · go_enter Tryd.func35, Tryd.ntmps35
      go_wp2_with fail
      refine (Ht _ (Below.refl _ _)).mono ?_
      rintro e w' ⟨rfl, hw'⟩
      obtain rfl := hw'.symm
      go_wp2_with fail
      refine (He _ (Below.refl _ _)).mono ?_
      rintro e w' ⟨rfl, hw'⟩
      obtain rfl := hw'.symm
      go_wp2_with fail
      go_ret
      exact ⟨by rw [HG.out]; rfl, Below.refl _ _⟩
  · go_enter Tryd.func35, Tryd.ntmps35
    go_wp2_with fail
    refine (Ht _ (Below.refl _ _)).mono ?_
    rintro e w' ⟨rfl, hw'⟩
    obtain rfl := hw'.symm
    go_wp2_with fail
    go_ret
    exact ⟨by rw [HG.out]; rfl, Below.refl _ _⟩
end Go.Proofs.YtjaaofedphamlaaDoor
