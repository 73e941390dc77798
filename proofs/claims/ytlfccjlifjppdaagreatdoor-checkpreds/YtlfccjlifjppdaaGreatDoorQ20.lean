/- The clauses of each predicate; contract of clausesOf. Contract of IndexFunc over programs, at a predicate that may make memory. Contracts of the steps' closures. Contract of steps. Contracts of Where and Program, of programs without guards. Contracts of Contains at names, hasMore, and of the step that looks at guards. Contracts of Where and Program, of any program whose numbers fit. What the check says of a program in another order, and of one without the clauses of a predicate. The fixed program that the law asks about: what the check says of it. -/
import Derived.Test.YtlfccjlifjppdaaGreatDoorQ18
import Derived.Test.YtlfccjlifjppdaaGreatDoorQ19
import Derived.Maps.AppendAt
import Derived.Maps.Views
import Derived.Maps.GroupsBeside
import Derived.Test.YtlfccjlifjppdaaGreatDoorQ16
namespace Go.Proofs.YtlfccjlifjppdaaGreatDoor
open Go.RowKit
open Go.ChangeShapes (lits)
def hasK (c : Cl) (x : Pd) : Bool := hasNameS c.hd && hasP [predS c.hd] x
def idxG (cs : List Cl) (x : Pd) : Nat → List Int
  | 0 => []
  | k + 1 => match cs[k]? with
    | some c => if hasK c x then idxG cs x k ++ [(k : Int)] else idxG cs x k
    | none => idxG cs x k
def rowG (zs : List Int) : DataW Unit := if zs = [] then .nil else .slice (lits .i64 zs) []
/-- The map D tells for each predicate which of the first k clauses are its own. -/
def GrpOf (D : DataW Unit) (cs : List Cl) (k : Nat) : Prop := Maps.IsMap D ∧ ∀ x, wfP x → D.atKey (pLit x) .nil = rowG (idxG cs x k)
theorem grp_nil (cs : List Cl) : GrpOf (.map []) cs 0 := ⟨Maps.isMap_empty, fun _ _ => rfl⟩
theorem grp_no {D : DataW Unit} {cs : List Cl} {k : Nat} (hk : k < cs.length) (h : GrpOf D cs k) (hn : hasNameS cs[k].hd = false) : GrpOf D cs (k + 1) :=
  ⟨h.1, fun x hx => by
    rw [h.2 x hx]
    show _ = rowG (match cs[k]? with | some c => if hasK c x then idxG cs x k ++ [(k : Int)] else idxG cs x k | none => idxG cs x k)
    rw [List.getElem?_eq_getElem hk]
    simp [hasK, hn]⟩
theorem lits_inj {a b : List Int} (h : (lits .i64 a : List (DataW Unit)) = lits .i64 b) : a = b := by
  unfold lits at h
  induction a generalizing b with
  | nil => cases b with
    | nil => rfl
    | cons _ _ => simp at h
  | cons x r ih => cases b with
    | nil => simp at h
    | cons y s =>
      simp at h
      rw [h.1, ih h.2]
theorem rowG_inv {w : World} {base : Nat} {v : Value} {zs zs' : List Int} (ho : w.ownsInts base 3 .i64 v zs) (h : rowG zs' = rowDatum .i64 v zs) : zs = zs' := by
  unfold rowG at h
  rcases ho.datum (H := Unit) with ⟨h1, rfl⟩ | h1
  · rw [h1] at h
    split at h
    · next h0 => exact h0.symm
    · cases h
  · rw [h1] at h
    split at h
    · cases h
    · simp at h
      exact (lits_inj h).symm
theorem grp_yes {D : DataW Unit} {cs : List Cl} {k : Nat} (hk : k < cs.length) (h : GrpOf D cs k) (hn : hasNameS cs[k].hd = true) (hw : wfP (predS cs[k].hd)) : GrpOf (D.put (pLit (predS cs[k].hd)) (.slice (lits .i64 (idxG cs (predS cs[k].hd) k ++ [(k : Int)])) [])) cs (k + 1) :=
  ⟨h.1.put _ _, fun x hx => by
    show _ = rowG (match cs[k]? with | some c => if hasK c x then idxG cs x k ++ [(k : Int)] else idxG cs x k | none => idxG cs x k)
    rw [List.getElem?_eq_getElem hk]
    by_cases hq : x = predS cs[k].hd
    · subst hq
      rw [Maps.atKey_put_same h.1 (keyed40.key (key40 _ hw))]
      have : hasK cs[k] (predS cs[k].hd) = true := by simp [hasK, hn, hasP]
      simp [this, rowG]
    · rw [Maps.atKey_put_other (fun e => hq (pLit_inj hx hw e)), h.2 x hx]
      have : hasK cs[k] x = false := by
        unfold hasK
        rw [hn]
        cases hp : hasP [predS cs[k].hd] x
        · rfl
        · rw [hasP_iff] at hp; simp at hp; exact absurd hp hq
      simp [this]⟩
theorem groups_mono {w : World} {base b n m : Nat} {D : DataW Unit} (h : w.ownsGroups Tryz.prog 61 base 3 .i64 b n D) (hm : n ≤ m) : w.ownsGroups Tryz.prog 61 base 3 .i64 b m D := by
  obtain ⟨es, clock, hb, F, hs, hD, hbb, hlen, hap⟩ := h
  exact ⟨es, clock, hb, F, by omega, hD, hbb, fun x hx zs ho => by have := hlen x hx zs ho; omega, hap⟩
theorem groups_below {w w' : World} {base b n : Nat} {D : DataW Unit} (h : w.ownsGroups Tryz.prog 61 base 3 .i64 b n D) (hb : Below w.heap.size w w') : w'.ownsGroups Tryz.prog 61 base 3 .i64 b n D :=
  h.kept (row := none) ⟨hb.os, hb.tape, hb.output, hb.size, fun i hi _ => hb.block i hi⟩ (by simp) (fun _ _ _ x _ => by cases x.val.ownBlock <;> simp)
theorem zero44 (w : World) : (zeroValue 36).run Tryz.prog w = .ok (.slice none 0 0) w := by kernel_rfl
theorem info3i : ∃ i, Tryz.prog.info? 3 = some i ∧ i.zero = some (.int .i64 0) ∧ i.size = 1 ∧ i.bytes = 8 := by
  have h : (Tryz.prog.info? 3).map (fun i => (i.zero, i.size, i.bytes)) = some (some (.int .i64 0), 1, 8) := by kernel_rfl
  cases hq : Tryz.prog.info? 3 with
  | none => rw [hq] at h; cases h
  | some i =>
    rw [hq] at h
    simp only [Option.map_some, Option.some.injEq, Prod.mk.injEq] at h
    exact ⟨i, rfl, h.1, h.2.1, h.2.2⟩
set_option maxRecDepth 100000 in
set_option maxHeartbeats 4000000 in
theorem k40 (cs : List Cl) (v : Value) (w : World) (hP : ProgAt w v cs) (hl : cs.length ≤ 1759218604441) (hW : ∀ c ∈ cs, hasNameS c.hd = true → wfP (predS c.hd)) :
    Calls Tryz.prog 37 #[v] w fun e w' => e = .returned (.map (some w.heap.size)) ∧ (∃ D, w'.ownsGroups (H := Unit) Tryz.prog 61 (w.heap.size + 1) 3 .i64 w.heap.size cs.length D ∧ GrpOf D cs cs.length) ∧ Below w.heap.size w w' := by
  have HP : Hid (ProgAt w v cs) := hP
  have HW : Hid (∀ c ∈ cs, hasNameS c.hd = true → wfP (predS c.hd)) := hW
  obtain ⟨i0, hi, hz, hs, hby⟩ := info3i
  obtain ⟨ad, cap, hv⟩ := hP.form
  subst hv
  have hmm := @run_makeMap Tryz.prog
  have HI0 : Hid (∃ D, (w.alloc (.map #[] 0)).ownsGroups (H := Unit) Tryz.prog 61 (w.heap.size + 1) 3 .i64 w.heap.size 0 D ∧ GrpOf D cs 0) := ⟨_, World.ownsGroups_made _ _ _ _ _, grp_nil cs⟩
  have HB0 : Hid (Below w.heap.size w (w.alloc (.map #[] 0))) := (Below.refl _ w).alloc (Nat.le_refl _) _
  clear hP hW
  go_enter Tryz.func37, Tryz.ntmps37
  go_wp2_with fail
  go_loopw [10] (fun i wr => ∃ k : Nat, k ≤ cs.length ∧ i = .int .i64 k ∧ Hid (∃ D, wr.ownsGroups (H := Unit) Tryz.prog 61 (w.heap.size + 1) 3 .i64 w.heap.size k D ∧ GrpOf D cs k) ∧ Below w.heap.size w wr ∧ w.heap.size + 1 ≤ wr.heap.size) (fun i _ => cs.length - (intOf i).toNat)
  case atStart => exact ⟨0, by omega, rfl, HI0, HB0.out, by simp⟩
  case round =>
    obtain ⟨k, hk, rfl, HI, hbr, hws⟩ := hrel
    have hsz := hbr.size
    by_cases hlt : k < cs.length
    · have hlt' : (k : Int) < (cs.length : Int) := by omega
      have hk0 : (0 : Int) ≤ (k : Int) := by omega
      obtain ⟨b, o, cap', x, hv', ⟨p0, p1, p2, p3⟩, ⟨ht, hg, hbd, hnn⟩, hbw⟩ := prog_at (HP.out.below hbr) k hlt
      simp only [Value.slice.injEq] at hv'
      obtain ⟨rfl, _, rfl⟩ := hv'
      have HT : Hid (TermAt wr x.hv cs[k].hd) := ht
      obtain ⟨ah, ch, eh⟩ := ht.form
      obtain ⟨ag, cg, eg⟩ := hg.form
      obtain ⟨ab, cb, eb⟩ := hbd.form
      obtain ⟨xh, xg, xb, xn⟩ := x
      simp only at eh eg eb p0 p1 p2 p3 HT
      subst eh eg eb
      clear ht hg hbd hnn
      have HWk : Hid (hasNameS cs[k].hd = true → wfP (predS cs[k].hd)) := HW.out _ (List.getElem_mem hlt)
      have HNo : Hid (hasNameS cs[k].hd = false → ∀ D, GrpOf D cs k → GrpOf D cs (k + 1)) := fun h D hD => grp_no hlt hD h
      have HYes : Hid (hasNameS cs[k].hd = true → ∀ D, GrpOf D cs k → wfP (predS cs[k].hd) → GrpOf (D.put (pLit (predS cs[k].hd)) (.slice (lits .i64 (idxG cs (predS cs[k].hd) k ++ [(k : Int)])) [])) cs (k + 1)) := fun h D hD hw => grp_yes hlt hD h hw
      generalize cs[k].hd = hd at *
      generalize cs[k].gs.length = gl at *
      generalize cs[k].bs.length = bl at *
      have HB1 : Hid (Below wr.heap.size wr (wr.alloc (.cells #[.slice ah hd.length ch, .slice ag gl cg, .slice ab bl cb, .int .i64 xn] 66))) := (Below.refl _ wr).alloc (Nat.le_refl _) _
      have HC1 : Hid (∀ W, Below (wr.alloc (.cells #[.slice ah hd.length ch, .slice ag gl cg, .slice ab bl cb, .int .i64 xn] 66)).heap.size (wr.alloc (.cells #[.slice ah hd.length ch, .slice ag gl cg, .slice ab bl cb, .int .i64 xn] 66)) W → W.cell? ⟨wr.heap.size, 0, none⟩ = some (.slice ah hd.length ch)) := fun W hW => by
        rw [hW.cell (by simp), cell_of_row _ wr.heap.size 0 _ 66 (0, 0) (heap_alloc_new wr _)]; rfl
      have H50 := k50 hd _ _ (HT.out.below HB1.out)
      cases hn : hasNameS hd
      · rw [hn] at H50
        go_wp2_with fail
        refine H50.mono ?_
        rintro e w1 ⟨rfl, hb1⟩
        have hb1' := HB1.out.trans (hb1.mono HB1.out.size)
        have HF : Hid (∃ D, w1.ownsGroups (H := Unit) Tryz.prog 61 (w.heap.size + 1) 3 .i64 w.heap.size (k + 1) D ∧ GrpOf D cs (k + 1)) := by
          obtain ⟨D, h1, h2⟩ := HI.out
          exact ⟨D, groups_mono (groups_below h1 hb1') (by omega), HNo.out hn D h2⟩
        go_wp2_with fail
        go_roundw
        case rel => exact ⟨k + 1, by omega, by go_num, HF, hbr.trans (hb1'.mono hsz), Nat.le_trans hws hb1'.size⟩
        case measure => simp [intOf]; omega
      · rw [hn] at H50
        have hWf := HWk.out hn
        have h0 : 0 < hd.length := by
          cases hd with
          | nil => simp [hasNameS] at hn
          | cons _ _ => simp
        have HPos : Hid (0 < hd.length) := h0
        have HWf : Hid (wfP (predS hd)) := hWf
        have HYs := HYes.out hn
        have HY : Hid (∀ D, GrpOf D cs k → GrpOf (D.put (pLit (predS hd)) (.slice (lits .i64 (idxG cs (predS hd) k ++ [(k : Int)])) [])) cs (k + 1)) := fun D hD => HYs D hD hWf
        clear HYs HYes HNo HWk h0 hn
        go_wp2_with fail
        refine H50.mono ?_
        rintro e w1 ⟨rfl, hb1⟩
        have c1 := HC1.out w1 hb1
        have hb1' := HB1.out.trans (hb1.mono HB1.out.size)
        have H55 := k55 hd _ w1 (HT.out.below hb1') HPos.out
        go_wp2_with fail
        refine H55.mono ?_
        rintro e w2 ⟨rfl, hb2⟩
        have hb2' := hb1'.trans (hb2.mono hb1'.size)
        have hw2 : w.heap.size + 1 ≤ w2.heap.size := Nat.le_trans hws hb2'.size
        have hbw2 : Below w.heap.size w w2 := hbr.trans (hb2'.mono hsz)
        have HG : Hid (∃ D, ((w2.alloc (.cells #[.string (predS hd).1, .int .i64 (predS hd).2] 61)).alloc (.cells #[.int .i64 (k : Int)] 3)).ownsGroups (H := Unit) Tryz.prog 61 (w.heap.size + 1) 3 .i64 w.heap.size k D ∧ GrpOf D cs k) := by
          obtain ⟨D, h1, h2⟩ := HI.out
          exact ⟨D, groups_below h1 ((hb2'.alloc hb2'.size _).alloc (by simp; have := hb2'.size; omega) _), h2⟩
        have hkey := key40 (predS hd) HWf.out
        unfold Pd.val at *
        clear HC1 c1 H50 HB1 HI p0 p1 p2 p3
        generalize predS hd = x at *
        obtain ⟨D, hG, hGr⟩ := HG.out
        have HGr : Hid (GrpOf D cs k) := hGr
        clear hGr HG
        have hszs : ((w2.alloc (.cells #[.string x.1, .int .i64 x.2] 61)).alloc (.cells #[.int .i64 (k : Int)] 3)).heap.size = w2.heap.size + 2 := by simp
        have hcn := cell_one_new (w2.alloc (.cells #[.string x.1, .int .i64 x.2] 61)) (.int .i64 (k : Int)) 3
        have hszd : (w2.alloc (.cells #[.string x.1, .int .i64 x.2] 61)).heap.size = w2.heap.size + 1 := by simp
        rw [hszd] at hcn
        obtain ⟨v0, zs, st, W1, hrun, hat, hoi, hzl, hgr, hst⟩ := groups_entry hG keyed40 law40 Tryz.underlying85 zero44 (by unfold maxLen; omega) hkey
        have HSt := hst
        have hcn1 : ∀ j u, [Value.int .i64 (k : Int)][j]? = some u → W1.cell? ((⟨w2.heap.size + 1, 0, none⟩ : Addr).add j) = some u := fun j u hu => by
          have h1 := hcn j u hu
          rw [← h1]
          refine World.cell?_of_block ?_
          refine hgr.block _ ?_ ?_
          · rw [hszs, Addr.add_mid]; show w2.heap.size + 1 < w2.heap.size + 2; omega
          · rw [Addr.add_mid]; show some (w2.heap.size + 1) ≠ some w.heap.size; simp; omega
        go_wp2_with (at_builtin; refine wpList_append_own_at _ rfl _ _ 36 rfl (w.heap.size + 1) 3 i0 (.int .i64 0) 1 8 Tryz.underlying36 hi hz hs hby rfl (by decide) _ _ _ rfl hoi.1 ⟨w2.heap.size + 1, 0, none⟩ 1 1 [.int .i64 (k : Int)] rfl rfl hcn1 (ints_oneCell .i64 [(k : Int)]) (by unfold maxLen; omega) (by omega) (by have := hgr.size; omega) ?_)
        intro v' w4 hown' hgrow hnil hloc
        have hapd := hoi.appended hown' (WalkArith.wf_i64 (by omega))
        have hsW := hgr.size
        obtain ⟨w5, hrun5, hG5, hgr5⟩ := hst w4 v' (zs ++ [(k : Int)]) hgrow hapd (by simp; omega) (hloc.imp id (fun h => ⟨_, h, hsW⟩))
        have hzs : zs = idxG cs x k := rowG_inv hoi ((HGr.out.2 x HWf.out).symm.trans hat)
        have HF : Hid (∃ D, w5.ownsGroups (H := Unit) Tryz.prog 61 (w.heap.size + 1) 3 .i64 w.heap.size (k + 1) D ∧ GrpOf D cs (k + 1)) := by
          refine ⟨_, hG5, ?_⟩
          rw [hapd.datum_pos (by simp), hzs]
          exact HY.out D HGr.out
        have hB4 : Below w.heap.size w W1 := ((hbw2.alloc hbw2.size (.cells #[.string x.1, .int .i64 x.2] 61)).alloc (by rw [hszd]; omega) (.cells #[.int .i64 (k : Int)] 3)).grown hgr (by rw [hszs]; omega) (fun j hj => by cases hj; exact Nat.le_refl _)
        have hB5 : Below w.heap.size w w5 := hB4.groups hoi hgrow hgr5 (by omega) (by omega) (Nat.le_refl _)
        have hs5 : w.heap.size + 1 ≤ w5.heap.size := by have := hgrow.size; have := hgr5.size; omega
        clear hst HSt hapd hown' hG5 hgrow hgr5 hloc hnil hgr hrun hat hoi hcn hcn1 hG hzs
        go_wp2_with fail
        go_roundw
        case rel => exact ⟨k + 1, by omega, by go_num, HF, hB5, hs5⟩
        case measure => simp [intOf]; omega
    · have hlt' : ¬ ((k : Int) < (cs.length : Int)) := by omega
      have hkl : k = cs.length := by omega
      subst hkl
      go_wp2_with fail
      go_ret
      exact ⟨rfl, HI.out, hbr⟩
end Go.Proofs.YtlfccjlifjppdaaGreatDoor
namespace Go.Proofs.YtlfccjlifjppdaaGreatDoor
open Go.RowKit
def idxK (p : Cl → Bool) (ls : List Cl) : Int := match ls.findIdx? p with | some i => (i : Int) | none => -1
def noneUptoK (p : Cl → Bool) (ls : List Cl) (k : Nat) : Prop := ∀ j (h : j < ls.length), j < k → p ls[j] = false
theorem idxK_at (p : Cl → Bool) (ls : List Cl) (k : Nat) (hk : k < ls.length) (h : noneUptoK p ls k) (hp : p ls[k] = true) : idxK p ls = (k : Int) := by
  unfold idxK
  have : ls.findIdx? p = some k := by
    rw [List.findIdx?_eq_some_iff_getElem]
    exact ⟨hk, hp, fun j hj => by simp [h j (by omega) hj]⟩
  rw [this]
theorem idxK_none (p : Cl → Bool) (ls : List Cl) (h : noneUptoK p ls ls.length) : idxK p ls = -1 := by
  unfold idxK
  have : ls.findIdx? p = none := by
    rw [List.findIdx?_eq_none_iff]
    intro x hx
    obtain ⟨j, hj, rfl⟩ := List.getElem_of_mem hx
    exact h j hj hj
  rw [this]
set_option maxRecDepth 100000 in
set_option maxHeartbeats 1000000 in
theorem k54 (g : Nat) (lb : Array Value) (eg : ∀ args w, (callFunc g args).run Tryz.prog w = .ok (.enter g args) w) (p : Cl → Bool) (ls : List Cl) (v : Value) (w : World) (hR : ProgAt w v ls) (hl : ls.length ≤ 1759218604441)
    (hp : ∀ W x l, Below w.heap.size w W → l ∈ ls → ClAt W x l → Calls Tryz.prog g (#[.agg #[x.hv, x.gv, x.bv, .int .i64 x.n]] ++ lb) W fun e w' => e = .returned (.bool (p l)) ∧ Below W.heap.size W w') :
    Calls Tryz.prog 30 #[v, .func (.func g) #[] lb] w fun e w' => e = .returned (.int .i64 (idxK p ls)) ∧ Below w.heap.size w w' := by
  have HRow : Hid (ProgAt w v ls) := hR
  have HP : Hid (∀ W x l, Below w.heap.size w W → l ∈ ls → ClAt W x l → Calls Tryz.prog g (#[.agg #[x.hv, x.gv, x.bv, .int .i64 x.n]] ++ lb) W fun e w' => e = .returned (.bool (p l)) ∧ Below W.heap.size W w') := hp
  obtain ⟨ad, cap, hv⟩ := hR.form
  subst hv
  clear hR hp
  go_enter Tryz.func30, Tryz.ntmps30
  go_wp2_with fail
  go_loopw [8] (fun i wr => ∃ k : Nat, k ≤ ls.length ∧ i = .int .i64 k ∧ Hid (noneUptoK p ls k) ∧ Below w.heap.size w wr) (fun i _ => ls.length - (intOf i).toNat)
  case atStart => exact ⟨0, by omega, rfl, fun j _ hj => by omega, Below.refl _ _⟩
  case round =>
    obtain ⟨k, hk, rfl, HI, hbr⟩ := hrel
    have hsz := hbr.size
    by_cases hlt : k < ls.length
    · have hlt' : (k : Int) < (ls.length : Int) := by omega
      have hk0 : (0 : Int) ≤ (k : Int) := by omega
      obtain ⟨b, o, cap', x, hv', ⟨hc0, hc1, hc2, hc3⟩, ht, hbw⟩ := prog_at (HRow.out.below hbr) k hlt
      simp only [Value.slice.injEq] at hv'
      obtain ⟨rfl, _, rfl⟩ := hv'
      have HC := HP.out wr x ls[k] hbr (List.getElem_mem hlt) ht
      clear ht
      cases hq : p ls[k]
      · rw [hq] at HC
        have HN : Hid (noneUptoK p ls (k + 1)) := fun j hj h => if e : j = k then by subst e; exact hq else HI.out j hj (by omega)
        clear hq
        go_wp2_with fail
        refine HC.mono ?_
        rintro e w1 ⟨rfl, hb1⟩
        go_wp2_with fail
        go_roundw
        case rel => exact ⟨k + 1, by omega, by go_num, HN, hbr.trans (hb1.mono hsz)⟩
        case measure => simp [intOf]; omega
      · rw [hq] at HC
        have HN : Hid (idxK p ls = (k : Int)) := idxK_at p ls k hlt HI.out hq
        clear hq
        go_wp2_with fail
        refine HC.mono ?_
        rintro e w1 ⟨rfl, hb1⟩
        go_wp2_with fail
        go_ret
        exact ⟨by rw [HN.out]; rfl, hbr.trans (hb1.mono hsz)⟩
    · have hlt' : ¬ ((k : Int) < (ls.length : Int)) := by omega
      have HN : Hid (idxK p ls = -1) := idxK_none p ls (fun j hj _ => HI.out j hj (by omega))
      go_wp2_with fail
      go_ret
      exact ⟨by rw [HN.out]; rfl, hbr⟩
end Go.Proofs.YtlfccjlifjppdaaGreatDoor
namespace Go.Proofs.YtlfccjlifjppdaaGreatDoor
open Go.RowKit
/-- The box of a clause that a closure makes first. -/
theorem box_cells (w : World) (a b c d : Value) : ∀ W, Below (w.alloc (.cells #[a, b, c, d] 66)).heap.size (w.alloc (.cells #[a, b, c, d] 66)) W → W.cell? ⟨w.heap.size, 0, none⟩ = some a ∧ W.cell? ⟨w.heap.size, 1, none⟩ = some b ∧ W.cell? ⟨w.heap.size, 2, none⟩ = some c ∧ W.cell? ⟨w.heap.size, 3, none⟩ = some d := fun W hW => by
  have e1 : W.heap[w.heap.size]? = some (.cells #[a, b, c, d] 66 (0, 0)) := (hW.block w.heap.size (by simp)).trans (heap_alloc_new w _)
  refine ⟨?_, ?_, ?_, ?_⟩
  · rw [cell_of_row W _ 0 _ 66 (0, 0) e1]; rfl
  · rw [cell_of_row W _ 1 _ 66 (0, 0) e1]; rfl
  · rw [cell_of_row W _ 2 _ 66 (0, 0) e1]; rfl
  · rw [cell_of_row W _ 3 _ 66 (0, 0) e1]; rfl
def step0 (cs : List Cl) (c : Cl) : Bool := decide ((64 : Int) < (cs.length : Int)) || longS c.gs.length c.bs.length c.n
set_option maxRecDepth 100000 in
theorem k63 (cs : List Cl) (c : Cl) (x : ClV) (w : World) (h : ClAt w x c) (B : Nat) (ap : Option Addr) (cp : Nat) (hB : w.cell? ⟨B, 0, none⟩ = some (.slice ap cs.length cp)) (hBl : B < w.heap.size) :
    Calls Tryz.prog 52 #[.agg #[x.hv, x.gv, x.bv, .int .i64 x.n], .pointer (some ⟨B, 0, none⟩)] w fun e w' => e = .returned (.bool (step0 cs c)) ∧ Below w.heap.size w w' := by
  obtain ⟨hd, gs, bs, n⟩ := c
  obtain ⟨hv, gv, bv, xn⟩ := x
  obtain ⟨ht, hg, hb, hn⟩ := h
  simp only at ht hg hb hn
  subst hn
  have HM : Hid (step0 cs ⟨hd, gs, bs, xn⟩ = (decide ((64 : Int) < (cs.length : Int)) || longS gs.length bs.length xn)) := rfl
  obtain ⟨ah, ch, eh⟩ := ht.form
  obtain ⟨ag, cg, eg⟩ := hg.form
  obtain ⟨ab, cb, eb⟩ := hb.form
  subst eh eg eb
  have HB1 : Hid (∀ o : Obj, Below w.heap.size w (w.alloc o)) := fun o => (Below.refl _ w).alloc (Nat.le_refl _) o
  have hBa : ∀ o : Obj, (w.alloc o).cell? ⟨B, 0, none⟩ = some (.slice ap cs.length cp) := fun o => cell_alloc hBl hB
  have H64 := k64 (.slice ah hd.length ch) ag ab gs.length cg bs.length cb xn (w.alloc (.cells #[.slice ah hd.length ch, .slice ag gs.length cg, .slice ab bs.length cb, .int .i64 xn] 66)) rfl
  clear ht hg hb hB
  generalize longS gs.length bs.length xn = r at *
  by_cases h64 : (64 : Int) < (cs.length : Int)
  · rw [decide_eq_true h64] at HM
    go_enter Tryz.func52, Tryz.ntmps52
    go_wp2_with fail
    go_ret
    exact ⟨by rw [HM.out]; rfl, HB1.out _⟩
  · rw [decide_eq_false h64] at HM
    go_enter Tryz.func52, Tryz.ntmps52
    go_wp2_with fail
    refine H64.mono ?_
    rintro e w1 ⟨rfl, hb1⟩
    go_wp2_with fail
    go_ret
    exact ⟨by rw [HM.out]; rfl, (HB1.out _).trans (hb1.mono (HB1.out _).size)⟩
def step2 (c : Cl) : Bool := !headOk c.hd
set_option maxRecDepth 100000 in
theorem k66 (c : Cl) (x : ClV) (w : World) (h : ClAt w x c) (h1 : 0 < c.hd.length) (hL : c.hd.length ≤ 256) (hW : ∀ y ∈ varsOf c.hd, wfN y) :
    Calls Tryz.prog 55 #[.agg #[x.hv, x.gv, x.bv, .int .i64 x.n]] w fun e w' => e = .returned (.bool (step2 c)) ∧ Below w.heap.size w w' := by
  obtain ⟨hd, gs, bs, n⟩ := c
  obtain ⟨hv, gv, bv, xn⟩ := x
  obtain ⟨ht, hg, hb, hn⟩ := h
  simp only at ht hg hb hn h1 hL hW
  subst hn
  have HM : Hid (step2 ⟨hd, gs, bs, xn⟩ = !headOk hd) := rfl
  obtain ⟨ag, cg, eg⟩ := hg.form
  obtain ⟨ab, cb, eb⟩ := hb.form
  obtain ⟨ah, ch, eh⟩ := ht.form
  subst eh eg eb
  have HB1 : Hid (∀ o : Obj, Below w.heap.size w (w.alloc o)) := fun o => (Below.refl _ w).alloc (Nat.le_refl _) o
  have H67 := k67 hd _ _ (ht.below (HB1.out (.cells #[.slice ah hd.length ch, .slice ag gs.length cg, .slice ab bs.length cb, .int .i64 xn] 66))) h1 hL hW
  clear ht hg hb hW
  generalize headOk hd = r at *
  go_enter Tryz.func55, Tryz.ntmps55
  go_wp2_with fail
  refine H67.mono ?_
  rintro e w1 ⟨rfl, hb1⟩
  go_wp2_with fail
  go_ret
  exact ⟨by rw [HM.out]; rfl, (HB1.out _).trans (hb1.mono (HB1.out _).size)⟩
set_option maxRecDepth 100000 in
theorem k68_nil (c : Cl) (x : ClV) (w : World) (h : ClAt w x c) (hG : c.gs = []) :
    Calls Tryz.prog 57 #[.agg #[x.hv, x.gv, x.bv, .int .i64 x.n]] w fun e w' => e = .returned (.bool false) ∧ Below w.heap.size w w' := by
  obtain ⟨hd, gs, bs, n⟩ := c
  obtain ⟨hv, gv, bv, xn⟩ := x
  obtain ⟨ht, hg, hb, hn⟩ := h
  simp only at ht hg hb hn hG
  subst hn hG
  obtain ⟨ag, cg, eg⟩ := hg.form
  obtain ⟨ab, cb, eb⟩ := hb.form
  obtain ⟨ah, ch, eh⟩ := ht.form
  subst eh eg eb
  have HB1 : Hid (∀ o : Obj, Below w.heap.size w (w.alloc o)) := fun o => (Below.refl _ w).alloc (Nat.le_refl _) o
  have H69 := k69 59 #[.pointer (some ⟨w.heap.size, 0, none⟩)] (enters_of Tryz.func59 (by kernel_rfl) rfl) (fun _ => false) [] _ _ (hg.below (HB1.out (.cells #[.slice ah hd.length ch, .slice ag ([] : List (List C)).length cg, .slice ab bs.length cb, .int .i64 xn] 66))) (by simp) (fun _ _ l _ hm => by simp at hm)
  clear ht hg hb
  simp only [List.length_nil, List.any_nil] at *
  go_enter Tryz.func57, Tryz.ntmps57
  go_wp2_with fail
  refine H69.mono ?_
  rintro e w1 ⟨rfl, hb1⟩
  go_wp2_with fail
  go_ret
  exact ⟨rfl, (HB1.out _).trans (hb1.mono (HB1.out _).size)⟩
set_option maxRecDepth 100000 in
theorem k73 (l : List C) (v : Value) (w : World) (h : TermAt w v l) (hS : Signs w) :
    Calls Tryz.prog 62 #[v] w fun e w' => e = .returned (.bool (!isGoalS l)) ∧ Below w.heap.size w w' := by
  have H12 := k12 l v w h hS
  obtain ⟨ah, ch, eh⟩ := h.form
  subst eh
  clear h hS
  generalize isGoalS l = r at *
  go_enter Tryz.func62, Tryz.ntmps62
  go_wp2_with fail
  refine H12.mono ?_
  rintro e w1 ⟨rfl, hb1⟩
  go_wp2_with fail
  go_ret
  exact ⟨rfl, hb1⟩
def step4 (c : Cl) : Bool := c.bs.any fun l => !isGoalS l
set_option maxRecDepth 100000 in
theorem k72 (c : Cl) (x : ClV) (w : World) (h : ClAt w x c) (hS : Signs w) (hbl : c.bs.length ≤ 5864062014805) :
    Calls Tryz.prog 61 #[.agg #[x.hv, x.gv, x.bv, .int .i64 x.n]] w fun e w' => e = .returned (.bool (step4 c)) ∧ Below w.heap.size w w' := by
  obtain ⟨hd, gs, bs, n⟩ := c
  obtain ⟨hv, gv, bv, xn⟩ := x
  obtain ⟨ht, hg, hb, hn⟩ := h
  simp only at ht hg hb hn hbl
  subst hn
  have HM : Hid (step4 ⟨hd, gs, bs, xn⟩ = bs.any fun l => !isGoalS l) := rfl
  obtain ⟨ag, cg, eg⟩ := hg.form
  obtain ⟨ab, cb, eb⟩ := hb.form
  obtain ⟨ah, ch, eh⟩ := ht.form
  subst eh eg eb
  have HB1 : Hid (∀ o : Obj, Below w.heap.size w (w.alloc o)) := fun o => (Below.refl _ w).alloc (Nat.le_refl _) o
  have H69 := k69 62 #[] (enters_of Tryz.func62 (by kernel_rfl) rfl) (fun l => !isGoalS l) bs _ _ (hb.below (HB1.out (.cells #[.slice ah hd.length ch, .slice ag gs.length cg, .slice ab bs.length cb, .int .i64 xn] 66))) hbl (fun W y l hW _ hT => k73 l y W hT (hS.below ((HB1.out _).trans (hW.mono (HB1.out _).size))))
  clear ht hg hb hS
  generalize (bs.any fun l => !isGoalS l) = r at *
  go_enter Tryz.func61, Tryz.ntmps61
  go_wp2_with fail
  refine H69.mono ?_
  rintro e w1 ⟨rfl, hb1⟩
  go_wp2_with fail
  go_ret
  exact ⟨by rw [HM.out]; rfl, (HB1.out _).trans (hb1.mono (HB1.out _).size)⟩
def noneG (cs : List Cl) (x : Pd) : Bool := ((idxG cs x cs.length).length : Int) == 0
set_option maxRecDepth 100000 in
theorem k76 (cs : List Cl) (x : Pd) (M B : Nat) (D : DataW Unit) (w : World) (hx : wfP x) (hc : cs.length ≤ 1759218604441) (hG : w.ownsGroups (H := Unit) Tryz.prog 61 (M + 1) 3 .i64 M cs.length D) (hD : GrpOf D cs cs.length) (hB : w.cell? ⟨B, 0, none⟩ = some (.map (some M))) (hBl : B < w.heap.size) :
    Calls Tryz.prog 65 #[.agg #[.string x.1, .int .i64 x.2], .pointer (some ⟨B, 0, none⟩)] w fun e w' => e = .returned (.bool (noneG cs x)) ∧ Below w.heap.size w w' := by
  have HB1 : Hid (∀ o : Obj, Below w.heap.size w (w.alloc o)) := fun o => (Below.refl _ w).alloc (Nat.le_refl _) o
  have hG1 := groups_below hG (HB1.out (.cells #[.string x.1, .int .i64 x.2] 61))
  have hBa : ∀ o : Obj, (w.alloc o).cell? ⟨B, 0, none⟩ = some (.map (some M)) := fun o => cell_alloc hBl hB
  obtain ⟨v, zs, hrun, hat, hoi, hzl, _⟩ := hG1.at keyed40 Tryz.underlying85 (zero44 _) (by unfold maxLen; omega) (key40 x hx)
  have hzs : zs = idxG cs x cs.length := rowG_inv hoi ((hD.2 x hx).symm.trans hat)
  have HM : Hid (noneG cs x = (((zs.length : Nat) : Int) == 0)) := by show noneG cs x = _; rw [hzs]; rfl
  have hv : ∃ ad cp, v = .slice ad zs.length cp := by
    rcases hoi.1.2 with ⟨h1, h2⟩ | ⟨g, c, cur, h1, _⟩
    · exact ⟨none, 0, by rw [h1, h2]⟩
    · exact ⟨_, _, h1⟩
  obtain ⟨ad, cp, hv⟩ := hv
  subst hv
  unfold Pd.val at hrun
  clear hoi hat hG hG1 hD hzs hB
  generalize zs.length = m at *
  go_enter Tryz.func65, Tryz.ntmps65
  go_wp2_with fail
  go_ret
  exact ⟨by rw [HM.out]; rfl, HB1.out _⟩
def step5 (cs : List Cl) (c : Cl) : Bool := (calledS c.bs).any (noneG cs)
theorem calledS_len (ls : List (List C)) : (calledS ls).length ≤ ls.length := by
  unfold calledS predsOf
  refine Nat.le_trans (foldP_len _ _) ?_
  rw [List.length_map]
  have := List.length_filter_le callB ls
  simp; exact this
set_option maxRecDepth 100000 in
theorem k74 (cs : List Cl) (c : Cl) (x : ClV) (w : World) (h : ClAt w x c) (hS : Signs w) (hbl : c.bs.length ≤ 5864062014805) (hW : ∀ y ∈ calledS c.bs, wfP y) (M B : Nat) (D : DataW Unit) (hc : cs.length ≤ 1759218604441) (hG : w.ownsGroups (H := Unit) Tryz.prog 61 (M + 1) 3 .i64 M cs.length D) (hD : GrpOf D cs cs.length) (hB : w.cell? ⟨B, 0, none⟩ = some (.map (some M))) (hBl : B < w.heap.size) :
    Calls Tryz.prog 63 #[.agg #[x.hv, x.gv, x.bv, .int .i64 x.n], .pointer (some ⟨B, 0, none⟩)] w fun e w' => e = .returned (.bool (step5 cs c)) ∧ Below w.heap.size w w' := by
  obtain ⟨hd, gs, bs, n⟩ := c
  obtain ⟨hv, gv, bv, xn⟩ := x
  obtain ⟨ht, hg, hb, hn⟩ := h
  simp only at ht hg hb hn hbl hW
  subst hn
  have HM : Hid (step5 cs ⟨hd, gs, bs, xn⟩ = (calledS bs).any (noneG cs)) := rfl
  obtain ⟨ag, cg, eg⟩ := hg.form
  obtain ⟨ab, cb, eb⟩ := hb.form
  obtain ⟨ah, ch, eh⟩ := ht.form
  subst eh eg eb
  have HB1 : Hid (∀ o : Obj, Below w.heap.size w (w.alloc o)) := fun o => (Below.refl _ w).alloc (Nat.le_refl _) o
  have H38 := k38 bs _ _ (hb.below (HB1.out (.cells #[.slice ah hd.length ch, .slice ag gs.length cg, .slice ab bs.length cb, .int .i64 xn] 66))) (hS.below (HB1.out _)) hbl
  have H75 : Hid (∀ W u, Below w.heap.size w W → PredsAt W u (calledS bs) → Calls Tryz.prog 64 #[u, .func (.func 65) #[] #[.pointer (some ⟨B, 0, none⟩)]] W fun e w' => e = .returned (.bool ((calledS bs).any (noneG cs))) ∧ Below W.heap.size W w') := fun W u hb hP => by
    refine k75 65 #[.pointer (some ⟨B, 0, none⟩)] (enters_of Tryz.func65 (by kernel_rfl) rfl) (noneG cs) _ u W hP (by have := calledS_len bs; omega) ?_
    intro W2 y hb2 hy
    have hb3 := hb.trans (hb2.mono hb.size)
    exact k76 cs y M B D W2 (hW y hy) hc (groups_below hG hb3) hD ((hb3.cell (p := ⟨B, 0, none⟩) hBl).trans hB) (Nat.lt_of_lt_of_le hBl hb3.size)
  have HL : Hid ((calledS bs).length ≤ 5864062014805) := Nat.le_trans (calledS_len bs) hbl
  clear ht hg hb hS hG hD hW
  generalize (calledS bs).any (noneG cs) = r at *
  go_enter Tryz.func63, Tryz.ntmps63
  go_wp2_with fail
  refine H38.mono ?_
  rintro e w1 ⟨u, rfl, hO, hb1⟩
  have hb1' := (HB1.out _).trans (hb1.mono (HB1.out _).size)
  have hP := predsAt_of_owns hO (by unfold maxLen; have := HL.out; omega)
  have H75' := H75.out w1 u hb1' hP
  obtain ⟨ad, cp, hu⟩ := hP.form
  subst hu
  clear hP hO
  go_wp2_with fail
  refine H75'.mono ?_
  rintro e w2 ⟨rfl, hb2⟩
  go_wp2_with fail
  go_ret
  exact ⟨by rw [HM.out]; rfl, hb1'.trans (hb2.mono hb1'.size)⟩
end Go.Proofs.YtlfccjlifjppdaaGreatDoor
namespace Go.Proofs.YtlfccjlifjppdaaGreatDoor
open Go.RowKit
def stepVals (B Hb : Nat) : List Value := [.int .i64 5, .func (.func 52) #[] #[.pointer (some ⟨B, 0, none⟩)], .int .i64 6, .func (.func 54) #[] #[], .int .i64 40, .func (.func 55) #[] #[], .int .i64 41, .func (.func 57) #[] #[], .int .i64 42, .func (.func 61) #[] #[], .int .i64 43, .func (.func 63) #[] #[.pointer (some ⟨Hb, 0, none⟩)]]
/-- What steps leaves in memory: the row of steps, the program's box, the map of heads and its box. -/
structure StepsAt (w : World) (cs : List Cl) (v : Value) (B Hb SB M : Nat) (D : DataW Unit) : Prop where
  row : w.rangeAt SB 0 (stepVals B Hb)
  rowLt : SB < w.heap.size
  box : w.cell? ⟨B, 0, none⟩ = some v
  boxLt : B < w.heap.size
  hds : w.cell? ⟨Hb, 0, none⟩ = some (.map (some M))
  hdsLt : Hb < w.heap.size
  grp : w.ownsGroups (H := Unit) Tryz.prog 61 (M + 1) 3 .i64 M cs.length D
  isG : GrpOf D cs cs.length
theorem StepsAt.below {w w' : World} {cs : List Cl} {v : Value} {B Hb SB M : Nat} {D : DataW Unit} (h : StepsAt w cs v B Hb SB M D) (hb : Below w.heap.size w w') : StepsAt w' cs v B Hb SB M D :=
  ⟨range_below h.row h.rowLt hb, Nat.lt_of_lt_of_le h.rowLt hb.size, (hb.cell (p := ⟨B, 0, none⟩) h.boxLt).trans h.box, Nat.lt_of_lt_of_le h.boxLt hb.size, (hb.cell (p := ⟨Hb, 0, none⟩) h.hdsLt).trans h.hds, Nat.lt_of_lt_of_le h.hdsLt hb.size, groups_below h.grp hb, h.isG⟩
set_option maxRecDepth 100000 in
set_option maxHeartbeats 2000000 in
theorem k53 (cs : List Cl) (v : Value) (w : World) (hP : ProgAt w v cs) (hl : cs.length ≤ 1759218604441) (hW : ∀ c ∈ cs, hasNameS c.hd = true → wfP (predS c.hd)) :
    Calls Tryz.prog 29 #[v] w fun e w' => ∃ B Hb SB M D, e = .returned (.slice (some ⟨SB, 0, none⟩) 6 6) ∧ StepsAt w' cs v B Hb SB M D ∧ Below w.heap.size w w' := by
  have HB1 : Hid (∀ o : Obj, Below w.heap.size w (w.alloc o)) := fun o => (Below.refl _ w).alloc (Nat.le_refl _) o
  have H40 := k40 cs v (w.alloc (.cells #[v] 23)) (hP.below (HB1.out _)) hl hW
  have hbox : ∀ W, Below (w.alloc (.cells #[v] 23)).heap.size (w.alloc (.cells #[v] 23)) W → W.cell? ⟨w.heap.size, 0, none⟩ = some v := fun W hW => by
    rw [hW.cell (by simp), cell_of_row _ w.heap.size 0 _ 23 (0, 0) (heap_alloc_new w _)]; rfl
  have HBox : Hid (∀ W, Below (w.alloc (.cells #[v] 23)).heap.size (w.alloc (.cells #[v] 23)) W → W.cell? ⟨w.heap.size, 0, none⟩ = some v) := hbox
  obtain ⟨ad, cap, hv⟩ := hP.form
  subst hv
  clear hbox hP hW
  go_enter Tryz.func29, Tryz.ntmps29
  go_wp2_with fail
  refine H40.mono ?_
  rintro e w1 ⟨rfl, ⟨D, hG, hD⟩, hb1⟩
  have hb1' := (HB1.out _).trans (hb1.mono (HB1.out _).size)
  rw [World.size_alloc] at hG
  have hs1 : w.heap.size + 1 ≤ w1.heap.size := by have := hb1.size; simpa using this
  have HE : Hid (∀ W, W = (w1.alloc (.cells #[.map (some (w.heap.size + 1))] 85)).alloc (.cells (stepVals w.heap.size w1.heap.size).toArray 72) → StepsAt W cs (.slice ad cs.length cap) w.heap.size w1.heap.size (w1.heap.size + 1) (w.heap.size + 1) D ∧ Below w.heap.size w W) := by
    rintro W rfl
    have b1 : Below w1.heap.size w1 (w1.alloc (.cells #[.map (some (w.heap.size + 1))] 85)) := (Below.refl _ w1).alloc (Nat.le_refl _) _
    have b2 : Below (w1.alloc (.cells #[.map (some (w.heap.size + 1))] 85)).heap.size (w1.alloc (.cells #[.map (some (w.heap.size + 1))] 85)) ((w1.alloc (.cells #[.map (some (w.heap.size + 1))] 85)).alloc (.cells (stepVals w.heap.size w1.heap.size).toArray 72)) := (Below.refl _ _).alloc (Nat.le_refl _) _
    have b12 := b1.trans (b2.mono b1.size)
    refine ⟨⟨?_, by simp, ?_, by simp; omega, ?_, by simp; omega, groups_below hG b12, hD⟩, hb1'.trans (b12.mono hb1'.size)⟩
    · have := range_new (w1.alloc (.cells #[.map (some (w.heap.size + 1))] 85)) (stepVals w.heap.size w1.heap.size) 72
      simpa using this
    · exact HBox.out _ (hb1.trans (b12.mono hb1.size))
    · rw [b2.cell (by simp), cell_of_row _ w1.heap.size 0 _ 85 (0, 0) (heap_alloc_new w1 _)]; rfl
  clear hG hD H40 HBox
  go_wp2_with fail
  go_ret
  obtain ⟨h1, h2⟩ := HE.out _ rfl
  exact ⟨_, _, _, _, D, rfl, h1, h2⟩
end Go.Proofs.YtlfccjlifjppdaaGreatDoor
namespace Go.Proofs.YtlfccjlifjppdaaGreatDoor
open Go.RowKit
attribute [local go_sem ↓] Go.wp_at_zero Go.wp_at_succ
theorem below_dN {n : Nat} {w w' : World} (h : Below n w w') (m : Nat) : Below n w (w'.drewN m) := by
  exact below_drewN h m
def moreS (g hd : List C) : Bool := (nubN (varsOf g)).any fun v => !hasN (nubN (varsOf hd)) v
def step3 (c : Cl) : Bool := c.gs.any fun g => !isGuardS g || moreS g c.hd
def stp (cs : List Cl) : Nat → Cl → Bool
  | 0 => step0 cs
  | 1 => misS
  | 2 => step2
  | 3 => step3
  | 4 => step4
  | _ => step5 cs
def errS : Nat → Int
  | 0 => 5
  | 1 => 6
  | 2 => 40
  | 3 => 41
  | 4 => 42
  | _ => 43
def stpG : Nat → Nat
  | 0 => 52
  | 1 => 54
  | 2 => 55
  | 3 => 57
  | 4 => 61
  | _ => 63
def stpB (B Hb : Nat) : Nat → Array Value
  | 0 => #[.pointer (some ⟨B, 0, none⟩)]
  | 1 => #[]
  | 2 => #[]
  | 3 => #[]
  | 4 => #[]
  | _ => #[.pointer (some ⟨Hb, 0, none⟩)]
theorem step_cells (B Hb k : Nat) (hk : k < 6) : (stepVals B Hb)[k * 2]? = some (.int .i64 (errS k)) ∧ (stepVals B Hb)[k * 2 + 1]? = some (.func (.func (stpG k)) #[] (stpB B Hb k)) := by
  match k, hk with
  | 0, _ => exact ⟨rfl, rfl⟩
  | 1, _ => exact ⟨rfl, rfl⟩
  | 2, _ => exact ⟨rfl, rfl⟩
  | 3, _ => exact ⟨rfl, rfl⟩
  | 4, _ => exact ⟨rfl, rfl⟩
  | 5, _ => exact ⟨rfl, rfl⟩
theorem step_enters (k : Nat) (hk : k < 6) : ∀ args w, (callFunc (stpG k) args).run Tryz.prog w = .ok (.enter (stpG k) args) w := by
  match k, hk with
  | 0, _ => exact enters_of Tryz.func52 (by kernel_rfl) rfl
  | 1, _ => exact enters_of Tryz.func54 (by kernel_rfl) rfl
  | 2, _ => exact enters_of Tryz.func55 (by kernel_rfl) rfl
  | 3, _ => exact enters_of Tryz.func57 (by kernel_rfl) rfl
  | 4, _ => exact enters_of Tryz.func61 (by kernel_rfl) rfl
  | 5, _ => exact enters_of Tryz.func63 (by kernel_rfl) rfl
/-- What is asked of a program ahead of its check. -/
structure Fine (cs : List Cl) : Prop where
  len : cs.length ≤ 1759218604441
  cw : ∀ c ∈ cs, ClW c
  gl : ∀ c ∈ cs, c.gs = []
  bl : ∀ c ∈ cs, c.bs.length ≤ 5864062014805
  hw : ∀ c ∈ cs, hasNameS c.hd = true → wfP (predS c.hd)
  pw : ∀ c ∈ cs, ∀ y ∈ calledS c.bs, wfP y
theorem idxK_neg {p : Cl → Bool} {ls : List Cl} (h : idxK p ls = -1) : ∀ c ∈ ls, p c = false := by
  unfold idxK at h
  cases hq : ls.findIdx? p with
  | none => rw [List.findIdx?_eq_none_iff] at hq; exact hq
  | some i => rw [hq] at h; simp only at h; omega
theorem idxK_form (p : Cl → Bool) (ls : List Cl) : idxK p ls = -1 ∨ ∃ i : Nat, i < ls.length ∧ idxK p ls = (i : Int) := by
  unfold idxK
  cases hq : ls.findIdx? p with
  | none => exact .inl rfl
  | some i => exact .inr ⟨i, (List.findIdx?_eq_some_iff_getElem.1 hq).1, rfl⟩
theorem mis_head {c : Cl} (h : misS c = false) : rightB c.hd = true := by
  unfold misS wrongS at h
  cases hr : rightB c.hd
  · rw [hr] at h; simp at h
  · rfl
theorem step_call (cs : List Cl) (F : Fine cs) (v : Value) (w : World) (hP : ProgAt w v cs) (hS : Signs w) {B Hb SB M : Nat} {D : DataW Unit} (hA : StepsAt w cs v B Hb SB M D) (k : Nat) (hk : k < 6) (hn : ∀ j, j < k → idxK (stp cs j) cs = -1) :
    Calls Tryz.prog 30 #[v, .func (.func (stpG k)) #[] (stpB B Hb k)] w fun e w' => e = .returned (.int .i64 (idxK (stp cs k) cs)) ∧ Below w.heap.size w w' := by
  refine k54 (stpG k) (stpB B Hb k) (step_enters k hk) (stp cs k) cs v w hP F.len ?_
  intro W x c hW hm hC
  have hS' := hS.below hW
  have hA' := hA.below hW
  obtain ⟨ap, cp, hv⟩ := hP.form
  match k, hk, hn with
  | 0, _, _ => exact k63 cs c x W hC B ap cp (by rw [← hv]; exact hA'.box) hA'.boxLt
  | 1, _, _ => exact k65 c x W hC hS' (F.cw c hm) (by rw [F.gl c hm]; simp) (F.bl c hm)
  | 2, _, hn =>
    have hr := mis_head (idxK_neg (hn 1 (by omega)) c hm)
    have hl := right_len hr
    exact k66 c x W hC (by omega) hl.2 (F.cw c hm _ (.inl rfl))
  | 3, _, _ =>
    have e : step3 c = false := by unfold step3; rw [F.gl c hm]; rfl
    show Calls Tryz.prog 57 _ W fun e w' => e = .returned (.bool (step3 c)) ∧ _
    rw [e]
    exact k68_nil c x W hC (F.gl c hm)
  | 4, _, _ => exact k72 c x W hC hS' (F.bl c hm)
  | 5, _, _ => exact k74 cs c x W hC hS' (F.bl c hm) (F.pw c hm) M Hb D F.len hA'.grp hA'.isG hA'.hds hA'.hdsLt
/-- What Where tells of a program. -/
def IsWhere (cs : List Cl) (n e : Int) : Prop :=
  (∃ k, k < 6 ∧ (∀ j, j < k → idxK (stp cs j) cs = -1) ∧ 0 ≤ idxK (stp cs k) cs ∧ n = idxK (stp cs k) cs ∧ e = errS k) ∨ ((∀ j, j < 6 → idxK (stp cs j) cs = -1) ∧ n = 0 ∧ e = 0)
set_option maxRecDepth 100000 in
set_option maxHeartbeats 2000000 in
theorem k37 (cs : List Cl) (F : Fine cs) (v : Value) (w : World) (hP : ProgAt w v cs) (hS : Signs w) :
    Calls Tryz.prog 7 #[v] w fun e w' => ∃ n er, e = .returned (.tuple #[.int .i64 n, .int .i64 er]) ∧ IsWhere cs n er ∧ Below w.heap.size w w' := by
  have HP : Hid (ProgAt w v cs) := hP
  have HS : Hid (Signs w) := hS
  have H53 := k53 cs v w hP F.len F.hw
  have HStep : Hid (∀ W, Below w.heap.size w W → ∀ B Hb SB M D, StepsAt W cs v B Hb SB M D → ∀ k, k < 6 → (∀ j, j < k → idxK (stp cs j) cs = -1) → Calls Tryz.prog 30 #[v, .func (.func (stpG k)) #[] (stpB B Hb k)] W fun e w' => e = .returned (.int .i64 (idxK (stp cs k) cs)) ∧ Below W.heap.size W w') := fun W hW B Hb SB M D hA k hk hn => step_call cs F v W (HP.out.below hW) (HS.out.below hW) hA k hk hn
  have HLen : Hid (cs.length ≤ 1759218604441) := F.len
  obtain ⟨ad, cap, hv⟩ := hP.form
  subst hv
  clear hP hS F
  go_enter Tryz.func7, Tryz.ntmps7
  go_wp2_with fail
  refine H53.mono ?_
  rintro e w1 ⟨B, Hb, SB, M, D, rfl, hA, hb1⟩
  have HA : Hid (StepsAt w1 cs (.slice ad cs.length cap) B Hb SB M D) := hA
  clear hA H53
  go_wp2_with fail
  go_loopw [10] (fun i wr => ∃ k : Nat, k ≤ 6 ∧ i = .int .i64 k ∧ Hid (∀ j, j < k → idxK (stp cs j) cs = -1) ∧ Below w1.heap.size w1 wr) (fun i _ => 6 - (intOf i).toNat)
  case atStart => exact ⟨0, by omega, rfl, fun j hj => by omega, Below.refl _ _⟩
  case round =>
    obtain ⟨k, hk, rfl, HI, hbr⟩ := hrel
    by_cases hlt : k < 6
    · have hlt' : (k : Int) < 6 := by omega
      have hk0 : (0 : Int) ≤ (k : Int) := by omega
      obtain ⟨q0, q1⟩ := step_cells B Hb k hlt
      have hA := HA.out.below hbr
      have p0 := hA.row _ _ q0
      have p1 := hA.row _ _ q1
      rw [Nat.zero_add] at p0 p1
      have hbw := hb1.trans (hbr.mono hb1.size)
      have HB2 : Hid (∀ o : Obj, Below w.heap.size w (wr.alloc o)) := fun o => hbw.alloc hbw.size o
      have HB3 : Hid (∀ o : Obj, Below w1.heap.size w1 (wr.alloc o)) := fun o => hbr.alloc hbr.size o
      have HC := HStep.out (wr.alloc (.cells #[.int .i64 (errS k), .func (.func (stpG k)) #[] (stpB B Hb k)] 72)) (HB2.out _) B Hb SB M D (hA.below ((Below.refl _ wr).alloc (Nat.le_refl _) _)) k hlt HI.out
      have HCell : Hid (∀ W, Below (wr.alloc (.cells #[.int .i64 (errS k), .func (.func (stpG k)) #[] (stpB B Hb k)] 72)).heap.size (wr.alloc (.cells #[.int .i64 (errS k), .func (.func (stpG k)) #[] (stpB B Hb k)] 72)) W → W.cell? ⟨wr.heap.size, 0, none⟩ = some (.int .i64 (errS k))) := fun W hW => by
        rw [hW.cell (by simp), cell_of_row _ wr.heap.size 0 _ 72 (0, 0) (heap_alloc_new wr _)]; rfl
      have hform := idxK_form (stp cs k) cs
      have HNext : Hid (idxK (stp cs k) cs = -1 → ∀ j, j < k + 1 → idxK (stp cs j) cs = -1) := fun h j hj => if e : j = k then by subst e; exact h else HI.out j (by omega)
      have HDone : Hid (0 ≤ idxK (stp cs k) cs → IsWhere cs (idxK (stp cs k) cs) (errS k)) := fun h => .inl ⟨k, hlt, HI.out, h, rfl, rfl⟩
      clear hA q0 q1
      generalize idxK (stp cs k) cs = i at *
      generalize errS k = er at *
      generalize stpG k = g at *
      generalize stpB B Hb k = lb at *
      go_wp2_with fail
      refine HC.mono ?_
      rintro e w2 ⟨rfl, hb2⟩
      have c0 := HCell.out w2 hb2
      rcases hform with h1 | ⟨m, hm, h1⟩
      · have HN : Hid (∀ j, j < k + 1 → idxK (stp cs j) cs = -1) := HNext.out h1
        subst h1
        clear HCell HC
        go_wp2_with fail
        go_roundw
        case rel => exact ⟨k + 1, by omega, by go_num, HN, (HB3.out _).trans (hb2.mono (HB3.out _).size)⟩
        case measure => simp [intOf]; omega
      · have HN : Hid (IsWhere cs i er) := HDone.out (by omega)
        subst h1
        have hm0 : (0 : Int) ≤ (m : Int) := by omega
        clear HCell HC HNext HDone
        go_wp2_with fail
        have hbw2 := (HB2.out _).trans (hb2.mono (HB2.out _).size)
        go_quiet (fail)
        go_wp2_with fail
        exact bodyPost_ret (v := .tuple #[.int .i64 (m : Int), .int .i64 er]) (by simp [results, Tryz.results7, go_sem]) rfl ⟨_, _, rfl, HN.out, below_dN hbw2 _⟩
    · have hlt' : ¬ ((k : Int) < 6) := by omega
      have HN : Hid (IsWhere cs 0 0) := .inr ⟨fun j hj => HI.out j (by omega), rfl, rfl⟩
      have hbw := hb1.trans (hbr.mono hb1.size)
      go_wp2_with fail
      exact bodyPost_ret (v := .tuple #[.int .i64 0, .int .i64 0]) (by simp [results, Tryz.results7, go_sem]) rfl ⟨_, _, rfl, HN.out, hbw⟩
set_option maxRecDepth 100000 in
theorem k15 (cs : List Cl) (F : Fine cs) (v : Value) (w : World) (hP : ProgAt w v cs) (hS : Signs w) :
    Calls Tryz.prog 10 #[v] w fun e w' => ∃ n er, e = .returned (.int .i64 er) ∧ IsWhere cs n er ∧ Below w.heap.size w w' := by
  have H := k37 cs F v w hP hS
  obtain ⟨ad, cap, hv⟩ := hP.form
  subst hv
  clear hP hS F
  go_enter Tryz.func10, Tryz.ntmps10
  go_wp2_with fail
  refine H.mono ?_
  rintro e w1 ⟨n, er, rfl, hI, hb1⟩
  have HI : Hid (IsWhere cs n er) := hI
  clear hI
  go_wp2_with fail
  go_ret
  exact ⟨n, er, rfl, HI.out, hb1⟩
theorem where_ok {cs : List Cl} {n e : Int} (h : IsWhere cs n e) (hn : ∀ j, j < 6 → idxK (stp cs j) cs = -1) : e = 0 := by
  rcases h with ⟨k, hk, _, h0, _, _⟩ | ⟨_, _, h⟩
  · rw [hn k hk] at h0; omega
  · exact h
theorem where_at {cs : List Cl} {n e : Int} (h : IsWhere cs n e) (k : Nat) (hk : k < 6) (hn : ∀ j, j < k → idxK (stp cs j) cs = -1) (h0 : 0 ≤ idxK (stp cs k) cs) : e = errS k := by
  rcases h with ⟨i, hi, h1, h2, _, h3⟩ | ⟨h1, _, _⟩
  · rcases Nat.lt_trichotomy i k with h | h | h
    · rw [hn i h] at h2; omega
    · rw [h3, h]
    · rw [h1 k h] at h0; omega
  · rw [h1 k hk] at h0; omega
end Go.Proofs.YtlfccjlifjppdaaGreatDoor
namespace Go.Proofs.YtlfccjlifjppdaaGreatDoor
open Go.RowKit
set_option maxRecDepth 100000 in
set_option maxHeartbeats 1000000 in
theorem k103 (ls : List Nm) (y : Nm) (v : Value) (w : World) (hR : NamesAt w v ls) (hl : ls.length ≤ 1000000000) :
    Calls Tryz.prog 113 #[v, .agg #[.int .i64 y.1, .int .i64 y.2]] w fun e w' => e = .returned (.int .i64 (idxA (fun x => eqN y x) ls)) ∧ Below w.heap.size w w' := by
  have HRow : Hid (NamesAt w v ls) := hR
  obtain ⟨ad, cap, hv⟩ := hR.form
  subst hv
  clear hR
  have HB0 : Hid (Below w.heap.size w (w.alloc (.cells #[.int .i64 y.1, .int .i64 y.2] 80))) := (Below.refl _ w).alloc (Nat.le_refl _) _
  have HBox : Hid (∀ W, Below (w.alloc (.cells #[.int .i64 y.1, .int .i64 y.2] 80)).heap.size (w.alloc (.cells #[.int .i64 y.1, .int .i64 y.2] 80)) W → W.cell? ⟨w.heap.size, 0, none⟩ = some (.int .i64 y.1) ∧ W.cell? ⟨w.heap.size, 1, none⟩ = some (.int .i64 y.2)) := fun W hW => by
    have e1 : W.heap[w.heap.size]? = some (.cells #[.int .i64 y.1, .int .i64 y.2] 80 (0, 0)) := (hW.block w.heap.size (by simp)).trans (heap_alloc_new w _)
    constructor
    · rw [cell_of_row W _ 0 _ 80 (0, 0) e1]; rfl
    · rw [cell_of_row W _ 1 _ 80 (0, 0) e1]; rfl
  obtain ⟨y1, y2⟩ := y
  simp only at HB0 HBox
  go_enter Tryz.func113, Tryz.ntmps113
  go_wp2_with fail
  go_loopw [8] (fun i wr => ∃ k : Nat, k ≤ ls.length ∧ i = .int .i64 k ∧ Hid (noneA (fun x => eqN (y1, y2) x) ls k) ∧ Below (w.heap.size + 1) (w.alloc (.cells #[.int .i64 y1, .int .i64 y2] 80)) wr) (fun i _ => ls.length - (intOf i).toNat)
  case atStart => exact ⟨0, by omega, rfl, fun j _ hj => by omega, Below.refl _ _⟩
  case round =>
    obtain ⟨k, hk, rfl, HI, hbr0⟩ := hrel
    have hbr : Below w.heap.size w wr := HB0.out.trans (hbr0.mono (by omega))
    have hsz := hbr.size
    obtain ⟨b0, b1⟩ := HBox.out wr (hbr0.mono (by simp))
    by_cases hlt : k < ls.length
    · have hlt' : (k : Int) < (ls.length : Int) := by omega
      have hk0 : (0 : Int) ≤ (k : Int) := by omega
      obtain ⟨b, o, cap', hv', hc, hc1⟩ := names_at (HRow.out.below hbr) k hlt
      simp only [Value.slice.injEq] at hv'
      obtain ⟨rfl, _, rfl⟩ := hv'
      have hE := eql23b y1 y2 ls[k].1 ls[k].2
      have HE : Hid ((y1 == ls[k].1 && y2 == ls[k].2) = eqN (y1, y2) ls[k]) := rfl
      cases hq : eqN (y1, y2) ls[k]
      · rw [HE.out, hq] at hE
        have HN : Hid (noneA (fun x => eqN (y1, y2) x) ls (k + 1)) := fun j hj h => if e : j = k then by subst e; exact hq else HI.out j hj (by omega)
        clear hq HE
        generalize ls[k] = x at *
        go_wp2_with fail
        go_quiet (fail)
        go_wp2_with fail
        go_roundw
        case rel => exact ⟨k + 1, by omega, by go_num, HN, below_dN hbr0 _⟩
        case measure => simp [intOf]; omega
      · rw [HE.out, hq] at hE
        have HN : Hid (idxA (fun x => eqN (y1, y2) x) ls = (k : Int)) := idxA_at _ ls k hlt HI.out hq
        clear hq HE
        generalize ls[k] = x at *
        go_wp2_with fail
        go_quiet (fail)
        go_wp2_with fail
        go_ret
        exact ⟨by rw [HN.out]; rfl, below_dN hbr _⟩
    · have hlt' : ¬ ((k : Int) < (ls.length : Int)) := by omega
      have HN : Hid (idxA (fun x => eqN (y1, y2) x) ls = -1) := idxA_none _ ls (fun j hj _ => HI.out j hj (by omega))
      go_wp2_with fail
      go_ret
      exact ⟨by rw [HN.out]; rfl, hbr⟩
theorem idx_has (ls : List Nm) (y : Nm) : decide ((0 : Int) ≤ idxA (fun x => eqN y x) ls) = hasN ls y := by
  rw [idxA_any]
  unfold hasN
  congr 1
  funext x
  rw [Bool.eq_iff_iff, eqN_iff, eqN_iff]
  exact eq_comm
set_option maxRecDepth 100000 in
theorem k96 (ls : List Nm) (y : Nm) (v : Value) (w : World) (hR : NamesAt w v ls) (hl : ls.length ≤ 1000000000) :
    Calls Tryz.prog 92 #[v, .agg #[.int .i64 y.1, .int .i64 y.2]] w fun e w' => e = .returned (.bool (hasN ls y)) ∧ Below w.heap.size w w' := by
  have HB0 : Hid (Below w.heap.size w (w.alloc (.cells #[.int .i64 y.1, .int .i64 y.2] 80))) := (Below.refl _ w).alloc (Nat.le_refl _) _
  have H103 := k103 ls y v _ (hR.below HB0.out) hl
  have HE : Hid (decide ((0 : Int) ≤ idxA (fun x => eqN y x) ls) = hasN ls y) := idx_has ls y
  obtain ⟨ad, cap, hv⟩ := hR.form
  subst hv
  clear hR
  generalize idxA (fun x => eqN y x) ls = i at *
  obtain ⟨y1, y2⟩ := y
  simp only at HB0 H103
  go_enter Tryz.func92, Tryz.ntmps92
  go_wp2_with fail
  refine H103.mono ?_
  rintro e w1 ⟨rfl, hb1⟩
  go_wp2_with fail
  go_ret
  exact ⟨by rw [← HE.out]; rfl, HB0.out.trans (hb1.mono HB0.out.size)⟩
set_option maxRecDepth 100000 in
theorem k95 (ls : List Nm) (y : Nm) (v : Value) (B : Nat) (w : World) (hR : NamesAt w v ls) (hl : ls.length ≤ 1000000000) (hB : w.cell? ⟨B, 0, none⟩ = some v) (hBl : B < w.heap.size) :
    Calls Tryz.prog 91 #[.agg #[.int .i64 y.1, .int .i64 y.2], .pointer (some ⟨B, 0, none⟩)] w fun e w' => e = .returned (.bool (!hasN ls y)) ∧ Below w.heap.size w w' := by
  have HB0 : Hid (Below w.heap.size w (w.alloc (.cells #[.int .i64 y.1, .int .i64 y.2] 80))) := (Below.refl _ w).alloc (Nat.le_refl _) _
  have H96 := k96 ls y v _ (hR.below HB0.out) hl
  have hBa : ∀ o : Obj, (w.alloc o).cell? ⟨B, 0, none⟩ = some v := fun o => cell_alloc hBl hB
  obtain ⟨ad, cap, hv⟩ := hR.form
  subst hv
  clear hR hB
  generalize hasN ls y = r at *
  obtain ⟨y1, y2⟩ := y
  simp only at HB0 H96
  go_enter Tryz.func91, Tryz.ntmps91
  go_wp2_with fail
  refine H96.mono ?_
  rintro e w1 ⟨rfl, hb1⟩
  go_wp2_with fail
  go_ret
  exact ⟨rfl, HB0.out.trans (hb1.mono HB0.out.size)⟩
theorem vars_call (l : List C) (v : Value) (w W : World) (h : TermAt w v l) (hl : l.length ≤ 256) (hW : ∀ x ∈ varsOf l, wfN x) (hb : Below w.heap.size w W) :
    Calls Tryz.prog 89 #[.slice (some ⟨W.heap.size, 0, none⟩) 1 1] (W.alloc (.cells #[v] 64)) fun e w' => ∃ u, e = .returned u ∧ NamesAt w' u (nubN (varsOf l)) ∧ Below w.heap.size w w' := by
  have hv : (varsOf l).length ≤ 256 := by
    unfold varsOf
    rw [List.length_map]
    exact Nat.le_trans (List.length_filter_le _ _) hl
  have H := c34 [l] _ _ (row_one W v l (h.below hb)) (by rw [varsAll_one]; omega) (by rw [varsAll_one]; exact hW)
  rw [varsAll_one] at H
  refine H.mono ?_
  rintro e w1 ⟨u, rfl, hO, hb1⟩
  have hb2 := hb.alloc hb.size (.cells #[v] 64)
  have hnl : (nubN (varsOf l)).length ≤ 256 := Nat.le_trans (nubN_len _) hv
  exact ⟨u, rfl, namesAt_of_owns hO (by unfold maxLen; omega), hb2.trans (hb1.mono hb2.size)⟩
theorem nub_small (l : List C) (hl : l.length ≤ 256) : (nubN (varsOf l)).length ≤ 256 := by
  refine Nat.le_trans (nubN_len _) ?_
  unfold varsOf
  rw [List.length_map]
  exact Nat.le_trans (List.length_filter_le _ _) hl
set_option maxRecDepth 100000 in
set_option maxHeartbeats 1000000 in
theorem k71 (l o : List C) (v vo : Value) (w : World) (h : TermAt w v l) (ho : TermAt w vo o) (hl : l.length ≤ 256) (hol : o.length ≤ 256) (hW : ∀ x ∈ varsOf l, wfN x) (hWo : ∀ x ∈ varsOf o, wfN x) :
    Calls Tryz.prog 60 #[v, vo] w fun e w' => e = .returned (.bool (moreS l o)) ∧ Below w.heap.size w w' := by
  have H1 := vars_call o vo w w ho hol hWo (Below.refl _ _)
  have H2 : Hid (∀ W, Below w.heap.size w W → Calls Tryz.prog 89 #[.slice (some ⟨W.heap.size, 0, none⟩) 1 1] (W.alloc (.cells #[v] 64)) fun e w' => ∃ u, e = .returned u ∧ NamesAt w' u (nubN (varsOf l)) ∧ Below W.heap.size W w') := fun W hb => vars_call l v W W (h.below hb) hl hW (Below.refl _ _)
  have HM : Hid (moreS l o = (nubN (varsOf l)).any fun x => !hasN (nubN (varsOf o)) x) := rfl
  have HN1 := nub_small l hl
  have HN2 := nub_small o hol
  obtain ⟨ad, cap, hv⟩ := h.form
  obtain ⟨ado, capo, hvo⟩ := ho.form
  subst hv hvo
  clear h ho hW hWo
  generalize nubN (varsOf l) = vl at *
  generalize nubN (varsOf o) = vo at *
  go_enter Tryz.func60, Tryz.ntmps60
  go_wp2_with fail
  refine H1.mono ?_
  rintro e w1 ⟨u, rfl, hN, hb1⟩
  have HB1 : Hid (Below w.heap.size w (w1.alloc (.cells #[u] 105))) := hb1.alloc hb1.size _
  have H2' := H2.out _ HB1.out
  have HNo : Hid (∀ W, Below (w1.alloc (.cells #[u] 105)).heap.size (w1.alloc (.cells #[u] 105)) W → NamesAt W u vo ∧ W.cell? ⟨w1.heap.size, 0, none⟩ = some u ∧ w1.heap.size < W.heap.size) := fun W hW => by
    have hb0 : Below w1.heap.size w1 (w1.alloc (.cells #[u] 105)) := (Below.refl _ w1).alloc (Nat.le_refl _) _
    refine ⟨hN.below (hb0.trans (hW.mono hb0.size)), ?_, by have := hW.size; simp at this; omega⟩
    rw [hW.cell (by simp), cell_of_row _ w1.heap.size 0 _ 105 (0, 0) (heap_alloc_new w1 _)]; rfl
  obtain ⟨adu, cu, hu⟩ := hN.form
  subst hu
  simp only [World.size_alloc] at H2'
  clear hN hb1 H1 H2
  go_wp2_with fail
  refine H2'.mono ?_
  rintro e w2 ⟨u2, rfl, hN2, hb2⟩
  have hb2' : Below (w1.alloc (.cells #[.slice adu vo.length cu] 105)).heap.size (w1.alloc (.cells #[.slice adu vo.length cu] 105)) w2 := hb2.mono (by simp)
  have H92 := k92 91 #[.pointer (some ⟨w1.heap.size, 0, none⟩)] (enters_of Tryz.func91 (by kernel_rfl) rfl) (fun x => !hasN vo x) vl u2 w2 hN2 (by omega) (fun W x hW _ => by
    obtain ⟨q1, q2, q3⟩ := HNo.out W (hb2'.trans (hW.mono hb2'.size))
    exact k95 vo x _ w1.heap.size W q1 (by omega) q2 q3)
  have HB2 : Hid (Below w.heap.size w w2) := HB1.out.trans (hb2'.mono HB1.out.size)
  obtain ⟨ad2, c2, hu2⟩ := hN2.form
  subst hu2
  clear hN2 hb2 hb2' H2' HB1
  generalize (vl.any fun x => !hasN vo x) = r at *
  go_wp2_with fail
  refine H92.mono ?_
  rintro e w3 ⟨rfl, hb3⟩
  go_wp2_with fail
  go_ret
  exact ⟨by rw [HM.out]; rfl, HB2.out.trans (hb3.mono HB2.out.size)⟩
set_option maxRecDepth 100000 in
theorem k70 (l hd : List C) (v hv : Value) (B : Nat) (w : World) (h : TermAt w v l) (hh : TermAt w hv hd) (hS : Signs w) (hl : l.length ≤ 256) (hhl : hd.length ≤ 256) (hW : ∀ x ∈ varsOf l, wfN x) (hWh : ∀ x ∈ varsOf hd, wfN x) (hB : w.cell? ⟨B, 0, none⟩ = some hv) (hBl : B < w.heap.size) :
    Calls Tryz.prog 59 #[v, .pointer (some ⟨B, 0, none⟩)] w fun e w' => e = .returned (.bool (!isGuardS l || moreS l hd)) ∧ Below w.heap.size w w' := by
  have H10 := k10 l v w h hS
  have H71 : Hid (∀ W, Below w.heap.size w W → Calls Tryz.prog 60 #[v, hv] W fun e w' => e = .returned (.bool (moreS l hd)) ∧ Below W.heap.size W w') := fun W hb => k71 l hd v hv W (h.below hb) (hh.below hb) hl hhl hW hWh
  have HC : Hid (∀ W, Below w.heap.size w W → W.cell? ⟨B, 0, none⟩ = some hv) := fun W hb => (hb.cell (p := ⟨B, 0, none⟩) hBl).trans hB
  obtain ⟨ad, cap, e1⟩ := h.form
  obtain ⟨adh, caph, e2⟩ := hh.form
  subst e1 e2
  clear h hh hS hW hWh hB
  generalize moreS l hd = r at *
  cases hg : isGuardS l
  · rw [hg] at H10
    go_enter Tryz.func59, Tryz.ntmps59
    go_wp2_with fail
    refine H10.mono ?_
    rintro e w1 ⟨rfl, hb1⟩
    go_wp2_with fail
    go_ret
    exact ⟨rfl, hb1⟩
  · rw [hg] at H10
    go_enter Tryz.func59, Tryz.ntmps59
    go_wp2_with fail
    refine H10.mono ?_
    rintro e w1 ⟨rfl, hb1⟩
    have c0 := HC.out w1 hb1
    go_wp2_with fail
    refine (H71.out w1 hb1).mono ?_
    rintro e w2 ⟨rfl, hb2⟩
    go_wp2_with fail
    go_ret
    exact ⟨rfl, hb1.trans (hb2.mono hb1.size)⟩
set_option maxRecDepth 100000 in
theorem k68 (c : Cl) (x : ClV) (w : World) (h : ClAt w x c) (hS : Signs w) (hgl : c.gs.length ≤ 5864062014805) (hR : ∀ l ∈ c.gs, l.length ≤ 256) (hRh : c.hd.length ≤ 256) (hW : ClW c) :
    Calls Tryz.prog 57 #[.agg #[x.hv, x.gv, x.bv, .int .i64 x.n]] w fun e w' => e = .returned (.bool (step3 c)) ∧ Below w.heap.size w w' := by
  obtain ⟨hd, gs, bs, n⟩ := c
  obtain ⟨hv, gv, bv, xn⟩ := x
  obtain ⟨ht, hg, hb, hn⟩ := h
  simp only at ht hg hb hn hgl hR hRh
  subst hn
  have HM : Hid (step3 ⟨hd, gs, bs, xn⟩ = gs.any fun g => !isGuardS g || moreS g hd) := rfl
  obtain ⟨ag, cg, eg⟩ := hg.form
  obtain ⟨ab, cb, eb⟩ := hb.form
  obtain ⟨ah, ch, eh⟩ := ht.form
  subst eh eg eb
  have HB1 : Hid (∀ o : Obj, Below w.heap.size w (w.alloc o)) := fun o => (Below.refl _ w).alloc (Nat.le_refl _) o
  have H69 := k69 59 #[.pointer (some ⟨w.heap.size, 0, none⟩)] (enters_of Tryz.func59 (by kernel_rfl) rfl) (fun g => !isGuardS g || moreS g hd) gs _ _ (hg.below (HB1.out (.cells #[.slice ah hd.length ch, .slice ag gs.length cg, .slice ab bs.length cb, .int .i64 xn] 66))) hgl (fun W y l hW2 hm hT => by
    have hbw := (HB1.out _).trans (hW2.mono (HB1.out _).size)
    obtain ⟨c0, _⟩ := box_cells w _ _ _ _ W hW2
    exact k70 l hd y _ w.heap.size W hT (ht.below hbw) (hS.below hbw) (hR l hm) hRh (hW l (.inr (.inl hm))) (hW hd (.inl rfl)) c0 (by have := hW2.size; simp at this; omega))
  clear ht hg hb hS hW hR
  generalize (gs.any fun g => !isGuardS g || moreS g hd) = r at *
  go_enter Tryz.func57, Tryz.ntmps57
  go_wp2_with fail
  refine H69.mono ?_
  rintro e w1 ⟨rfl, hb1⟩
  go_wp2_with fail
  go_ret
  exact ⟨by rw [HM.out]; rfl, (HB1.out _).trans (hb1.mono (HB1.out _).size)⟩
end Go.Proofs.YtlfccjlifjppdaaGreatDoor
namespace Go.Proofs.YtlfccjlifjppdaaGreatDoor
open Go.RowKit
attribute [local go_sem ↓] Go.wp_at_zero Go.wp_at_succ
/-- What is asked of a program ahead of its check. -/
structure Fits (cs : List Cl) : Prop where
  len : cs.length ≤ 1759218604441
  cw : ∀ c ∈ cs, ClW c
  gl : ∀ c ∈ cs, c.gs.length ≤ 5864062014805
  bl : ∀ c ∈ cs, c.bs.length ≤ 5864062014805
  hw : ∀ c ∈ cs, hasNameS c.hd = true → wfP (predS c.hd)
  pw : ∀ c ∈ cs, ∀ y ∈ calledS c.bs, wfP y
theorem mis_guard {c : Cl} (h : misS c = false) : ∀ l ∈ c.gs, rightB l = true := by
  intro l hl
  unfold misS at h
  simp only [Bool.or_eq_false_iff] at h
  have h2 := h.1.2
  rw [List.any_eq_false] at h2
  have h3 := h2 l hl
  unfold wrongS at h3
  cases hr : rightB l
  · rw [hr] at h3; simp at h3
  · rfl
theorem step_callg (cs : List Cl) (F : Fits cs) (v : Value) (w : World) (hP : ProgAt w v cs) (hS : Signs w) {B Hb SB M : Nat} {D : DataW Unit} (hA : StepsAt w cs v B Hb SB M D) (k : Nat) (hk : k < 6) (hn : ∀ j, j < k → idxK (stp cs j) cs = -1) :
    Calls Tryz.prog 30 #[v, .func (.func (stpG k)) #[] (stpB B Hb k)] w fun e w' => e = .returned (.int .i64 (idxK (stp cs k) cs)) ∧ Below w.heap.size w w' := by
  refine k54 (stpG k) (stpB B Hb k) (step_enters k hk) (stp cs k) cs v w hP F.len ?_
  intro W x c hW hm hC
  have hS' := hS.below hW
  have hA' := hA.below hW
  obtain ⟨ap, cp, hv⟩ := hP.form
  match k, hk, hn with
  | 0, _, _ => exact k63 cs c x W hC B ap cp (by rw [← hv]; exact hA'.box) hA'.boxLt
  | 1, _, _ => exact k65 c x W hC hS' (F.cw c hm) (F.gl c hm) (F.bl c hm)
  | 2, _, hn =>
    have hr := mis_head (idxK_neg (hn 1 (by omega)) c hm)
    have hl := right_len hr
    exact k66 c x W hC (by omega) hl.2 (F.cw c hm _ (.inl rfl))
  | 3, _, hn =>
    have hm1 := idxK_neg (hn 1 (by omega)) c hm
    exact k68 c x W hC hS' (F.gl c hm) (fun l hl => (right_len (mis_guard hm1 l hl)).2) (right_len (mis_head hm1)).2 (F.cw c hm)
  | 4, _, _ => exact k72 c x W hC hS' (F.bl c hm)
  | 5, _, _ => exact k74 cs c x W hC hS' (F.bl c hm) (F.pw c hm) M Hb D F.len hA'.grp hA'.isG hA'.hds hA'.hdsLt
set_option maxRecDepth 100000 in
set_option maxHeartbeats 2000000 in
theorem k37g (cs : List Cl) (F : Fits cs) (v : Value) (w : World) (hP : ProgAt w v cs) (hS : Signs w) :
    Calls Tryz.prog 7 #[v] w fun e w' => ∃ n er, e = .returned (.tuple #[.int .i64 n, .int .i64 er]) ∧ IsWhere cs n er ∧ Below w.heap.size w w' := by
  have HP : Hid (ProgAt w v cs) := hP
  have HS : Hid (Signs w) := hS
  have H53 := k53 cs v w hP F.len F.hw
  have HStep : Hid (∀ W, Below w.heap.size w W → ∀ B Hb SB M D, StepsAt W cs v B Hb SB M D → ∀ k, k < 6 → (∀ j, j < k → idxK (stp cs j) cs = -1) → Calls Tryz.prog 30 #[v, .func (.func (stpG k)) #[] (stpB B Hb k)] W fun e w' => e = .returned (.int .i64 (idxK (stp cs k) cs)) ∧ Below W.heap.size W w') := fun W hW B Hb SB M D hA k hk hn => step_callg cs F v W (HP.out.below hW) (HS.out.below hW) hA k hk hn
  have HLen : Hid (cs.length ≤ 1759218604441) := F.len
  obtain ⟨ad, cap, hv⟩ := hP.form
  subst hv
  clear hP hS F
  go_enter Tryz.func7, Tryz.ntmps7
  go_wp2_with fail
  refine H53.mono ?_
  rintro e w1 ⟨B, Hb, SB, M, D, rfl, hA, hb1⟩
  have HA : Hid (StepsAt w1 cs (.slice ad cs.length cap) B Hb SB M D) := hA
  clear hA H53
  go_wp2_with fail
  go_loopw [10] (fun i wr => ∃ k : Nat, k ≤ 6 ∧ i = .int .i64 k ∧ Hid (∀ j, j < k → idxK (stp cs j) cs = -1) ∧ Below w1.heap.size w1 wr) (fun i _ => 6 - (intOf i).toNat)
  case atStart => exact ⟨0, by omega, rfl, fun j hj => by omega, Below.refl _ _⟩
  case round =>
    obtain ⟨k, hk, rfl, HI, hbr⟩ := hrel
    by_cases hlt : k < 6
    · have hlt' : (k : Int) < 6 := by omega
      have hk0 : (0 : Int) ≤ (k : Int) := by omega
      obtain ⟨q0, q1⟩ := step_cells B Hb k hlt
      have hA := HA.out.below hbr
      have p0 := hA.row _ _ q0
      have p1 := hA.row _ _ q1
      rw [Nat.zero_add] at p0 p1
      have hbw := hb1.trans (hbr.mono hb1.size)
      have HB2 : Hid (∀ o : Obj, Below w.heap.size w (wr.alloc o)) := fun o => hbw.alloc hbw.size o
      have HB3 : Hid (∀ o : Obj, Below w1.heap.size w1 (wr.alloc o)) := fun o => hbr.alloc hbr.size o
      have HC := HStep.out (wr.alloc (.cells #[.int .i64 (errS k), .func (.func (stpG k)) #[] (stpB B Hb k)] 72)) (HB2.out _) B Hb SB M D (hA.below ((Below.refl _ wr).alloc (Nat.le_refl _) _)) k hlt HI.out
      have HCell : Hid (∀ W, Below (wr.alloc (.cells #[.int .i64 (errS k), .func (.func (stpG k)) #[] (stpB B Hb k)] 72)).heap.size (wr.alloc (.cells #[.int .i64 (errS k), .func (.func (stpG k)) #[] (stpB B Hb k)] 72)) W → W.cell? ⟨wr.heap.size, 0, none⟩ = some (.int .i64 (errS k))) := fun W hW => by
        rw [hW.cell (by simp), cell_of_row _ wr.heap.size 0 _ 72 (0, 0) (heap_alloc_new wr _)]; rfl
      have hform := idxK_form (stp cs k) cs
      have HNext : Hid (idxK (stp cs k) cs = -1 → ∀ j, j < k + 1 → idxK (stp cs j) cs = -1) := fun h j hj => if e : j = k then by subst e; exact h else HI.out j (by omega)
      have HDone : Hid (0 ≤ idxK (stp cs k) cs → IsWhere cs (idxK (stp cs k) cs) (errS k)) := fun h => .inl ⟨k, hlt, HI.out, h, rfl, rfl⟩
      clear hA q0 q1
      generalize idxK (stp cs k) cs = i at *
      generalize errS k = er at *
      generalize stpG k = g at *
      generalize stpB B Hb k = lb at *
      go_wp2_with fail
      refine HC.mono ?_
      rintro e w2 ⟨rfl, hb2⟩
      have c0 := HCell.out w2 hb2
      rcases hform with h1 | ⟨m, hm, h1⟩
      · have HN : Hid (∀ j, j < k + 1 → idxK (stp cs j) cs = -1) := HNext.out h1
        subst h1
        clear HCell HC
        go_wp2_with fail
        go_roundw
        case rel => exact ⟨k + 1, by omega, by go_num, HN, (HB3.out _).trans (hb2.mono (HB3.out _).size)⟩
        case measure => simp [intOf]; omega
      · have HN : Hid (IsWhere cs i er) := HDone.out (by omega)
        subst h1
        have hm0 : (0 : Int) ≤ (m : Int) := by omega
        clear HCell HC HNext HDone
        go_wp2_with fail
        have hbw2 := (HB2.out _).trans (hb2.mono (HB2.out _).size)
        go_quiet (fail)
        go_wp2_with fail
        exact bodyPost_ret (v := .tuple #[.int .i64 (m : Int), .int .i64 er]) (by simp [results, Tryz.results7, go_sem]) rfl ⟨_, _, rfl, HN.out, below_dN hbw2 _⟩
    · have hlt' : ¬ ((k : Int) < 6) := by omega
      have HN : Hid (IsWhere cs 0 0) := .inr ⟨fun j hj => HI.out j (by omega), rfl, rfl⟩
      have hbw := hb1.trans (hbr.mono hb1.size)
      go_wp2_with fail
      exact bodyPost_ret (v := .tuple #[.int .i64 0, .int .i64 0]) (by simp [results, Tryz.results7, go_sem]) rfl ⟨_, _, rfl, HN.out, hbw⟩
set_option maxRecDepth 100000 in
theorem k15g (cs : List Cl) (F : Fits cs) (v : Value) (w : World) (hP : ProgAt w v cs) (hS : Signs w) :
    Calls Tryz.prog 10 #[v] w fun e w' => ∃ n er, e = .returned (.int .i64 er) ∧ IsWhere cs n er ∧ Below w.heap.size w w' := by
  have H := k37g cs F v w hP hS
  obtain ⟨ad, cap, hv⟩ := hP.form
  subst hv
  clear hP hS F
  go_enter Tryz.func10, Tryz.ntmps10
  go_wp2_with fail
  refine H.mono ?_
  rintro e w1 ⟨n, er, rfl, hI, hb1⟩
  have HI : Hid (IsWhere cs n er) := hI
  clear hI
  go_wp2_with fail
  go_ret
  exact ⟨n, er, rfl, HI.out, hb1⟩
end Go.Proofs.YtlfccjlifjppdaaGreatDoor
namespace Go.Proofs.YtlfccjlifjppdaaGreatDoor
open Go.RowKit
theorem idxG_nil (cs : List Cl) (x : Pd) (n : Nat) : idxG cs x n = [] ↔ ∀ i c, i < n → cs[i]? = some c → hasK c x = false := by
  induction n with
  | zero => simp [idxG]
  | succ k ih =>
    have e : idxG cs x (k + 1) = match cs[k]? with | some c => if hasK c x then idxG cs x k ++ [(k : Int)] else idxG cs x k | none => idxG cs x k := rfl
    rw [e]
    constructor
    · intro h i c hi hc
      cases hq : cs[k]? with
      | none =>
        rw [hq] at h
        by_cases hik : i = k
        · subst hik; rw [hq] at hc; cases hc
        · exact ih.1 h i c (by omega) hc
      | some d =>
        rw [hq] at h
        simp only at h
        split at h
        · simp at h
        · next hd =>
          by_cases hik : i = k
          · subst hik; rw [hq] at hc; cases hc; simpa using hd
          · exact ih.1 h i c (by omega) hc
    · intro h
      have h1 : idxG cs x k = [] := ih.2 fun i c hi hc => h i c (by omega) hc
      cases hq : cs[k]? with
      | none => exact h1
      | some d => simp only; rw [h k d (by omega) hq]; simpa using h1
theorem noneG_iff (cs : List Cl) (x : Pd) : noneG cs x = true ↔ ∀ c ∈ cs, hasK c x = false := by
  unfold noneG
  have : ((((idxG cs x cs.length).length : Nat) : Int) == 0) = true ↔ idxG cs x cs.length = [] := by
    rw [beq_iff_eq]
    constructor
    · intro h; exact List.eq_nil_of_length_eq_zero (by omega)
    · intro h; rw [h]; rfl
  rw [this, idxG_nil]
  constructor
  · intro h c hc
    obtain ⟨i, hi, rfl⟩ := List.getElem_of_mem hc
    exact h i _ hi (List.getElem?_eq_getElem hi)
  · intro h i c hi hc
    exact h c (List.mem_of_getElem? hc)
theorem idxK_all {p : Cl → Bool} {ls : List Cl} : idxK p ls = -1 ↔ ∀ c ∈ ls, p c = false := by
  constructor
  · exact idxK_neg
  · intro h
    exact idxK_none p ls fun j hj _ => h _ (List.getElem_mem hj)
theorem idxK_some {p : Cl → Bool} {ls : List Cl} {c : Cl} (hc : c ∈ ls) (hp : p c = true) : 0 ≤ idxK p ls := by
  rcases idxK_form p ls with h | ⟨i, _, h⟩
  · have := idxK_neg h c hc
    rw [hp] at this; cases this
  · omega
/-- The same clauses, as many: what each step looks for is the same. -/
theorem stp_same {cs ds : List Cl} (hl : cs.length = ds.length) (hm : ∀ c, c ∈ cs ↔ c ∈ ds) (k : Nat) : stp cs k = stp ds k := by
  have hn : ∀ x, noneG cs x = noneG ds x := fun x => by
    rw [Bool.eq_iff_iff, noneG_iff, noneG_iff]
    exact ⟨fun h c hc => h c ((hm c).2 hc), fun h c hc => h c ((hm c).1 hc)⟩
  have hn' : noneG cs = noneG ds := funext hn
  match k with
  | 0 => funext c; show step0 cs c = step0 ds c; unfold step0; rw [hl]
  | 1 => rfl
  | 2 => rfl
  | 3 => rfl
  | 4 => rfl
  | k + 5 => funext c; show step5 cs c = step5 ds c; unfold step5; rw [hn']
theorem where_same {cs ds : List Cl} (hl : cs.length = ds.length) (hm : ∀ c, c ∈ cs ↔ c ∈ ds) {n e m f : Int} (h : IsWhere cs n e) (g : IsWhere ds m f) : e = f := by
  have hk : ∀ k, idxK (stp cs k) cs = -1 ↔ idxK (stp ds k) ds = -1 := fun k => by
    rw [idxK_all, idxK_all, stp_same hl hm k]
    exact ⟨fun h c hc => h c ((hm c).2 hc), fun h c hc => h c ((hm c).1 hc)⟩
  have h0 : ∀ k, 0 ≤ idxK (stp cs k) cs → 0 ≤ idxK (stp ds k) ds := fun k h => by
    rcases idxK_form (stp ds k) ds with g | ⟨i, _, g⟩
    · rw [(hk k).2 g] at h; omega
    · omega
  rcases h with ⟨k, hk6, h1, h2, _, h3⟩ | ⟨h1, _, h3⟩
  · rw [h3, where_at g k hk6 (fun j hj => (hk j).1 (h1 j hj)) (h0 k h2)]
  · rw [h3, where_ok g (fun j hj => (hk j).1 (h1 j hj))]
theorem where_zero {cs : List Cl} {n : Int} (h : IsWhere cs n 0) : ∀ j, j < 6 → idxK (stp cs j) cs = -1 := by
  rcases h with ⟨k, hk, _, _, _, h3⟩ | ⟨h1, _, _⟩
  · match k, hk, h3 with
    | 0, _, h3 => simp [errS] at h3
    | 1, _, h3 => simp [errS] at h3
    | 2, _, h3 => simp [errS] at h3
    | 3, _, h3 => simp [errS] at h3
    | 4, _, h3 => simp [errS] at h3
    | 5, _, h3 => simp [errS] at h3
  · exact h1
theorem pred_is {l : List C} {x : Pd} (hn : hasNameS l = true) (hx : predS l = x) : isB l x.1 x.2 = true := by
  have h0 : 0 < l.length := by
    cases l with
    | nil => simp [hasNameS] at hn
    | cons _ _ => simp
  have hk : l[0].k = 2 ∨ l[0].k = 3 := by
    match l, h0, hn with
    | c :: r, _, hn =>
      simp [hasNameS] at hn
      exact hn.1
  rw [isB_get h0, ← hx]
  unfold predS
  rw [headC_get h0]
  rcases hk with hk | hk <;> simp [hk]
/-- The program without the clauses of a predicate. -/
def lessS (cs : List Cl) (x : Pd) : List Cl := cs.filter fun c => !isB c.hd x.1 x.2
theorem where_less {cs : List Cl} {n : Int} (h : IsWhere cs n 0) {c : Cl} {x : Pd} (hc : c ∈ cs) (hx : x ∈ calledS c.bs) (ho : isB c.hd x.1 x.2 = false) {m f : Int} (g : IsWhere (lessS cs x) m f) : f = 43 := by
  have h1 := where_zero h
  have hsub : ∀ d ∈ lessS cs x, d ∈ cs := fun d hd => (List.mem_filter.1 hd).1
  have hlen : (lessS cs x).length ≤ cs.length := List.length_filter_le _ _
  have hcl : c ∈ lessS cs x := List.mem_filter.2 ⟨hc, by simp [ho]⟩
  have hnone : noneG (lessS cs x) x = true := by
    rw [noneG_iff]
    intro d hd
    have hd2 := (List.mem_filter.1 hd).2
    simp only [Bool.not_eq_true'] at hd2
    unfold hasK
    cases hn : hasNameS d.hd
    · rfl
    · cases hp : hasP [predS d.hd] x
      · rfl
      · rw [hasP_iff] at hp
        simp at hp
        rw [pred_is hn hp.symm] at hd2
        cases hd2
  refine where_at g 5 (by omega) (fun j hj => ?_) ?_
  · rw [idxK_all]
    intro d hd
    have h2 := idxK_neg (h1 j (by omega)) d (hsub d hd)
    match j, hj, h2 with
    | 0, _, h2 =>
      have h2' : step0 cs d = false := h2
      show step0 (lessS cs x) d = false
      unfold step0 at h2' ⊢
      simp only [Bool.or_eq_false_iff, decide_eq_false_iff_not] at h2' ⊢
      exact ⟨by omega, h2'.2⟩
    | 1, _, h2 => exact h2
    | 2, _, h2 => exact h2
    | 3, _, h2 => exact h2
    | 4, _, h2 => exact h2
  · refine idxK_some hcl ?_
    show step5 (lessS cs x) c = true
    unfold step5
    exact List.any_eq_true.2 ⟨x, hx, hnone⟩
end Go.Proofs.YtlfccjlifjppdaaGreatDoor
namespace Go.Proofs.YtlfccjlifjppdaaGreatDoor
open Go.RowKit
def lvQ : List C := ofL ⟨#[113]⟩ [[localC 1]] 1
def lvF : List C := ofL ⟨#[102]⟩ [[localC 1]] 1
def lvH : List C := ofL ⟨#[112]⟩ [[localC 0]] 1
def lvB0 : List C := ofL ⟨#[61]⟩ [[localC 0], lvF] 2
def lvI : List C := [⟨1, ⟨#[]⟩, 1, 0, 0⟩]
def lvB1 : List C := ofL ⟨#[64]⟩ [lvQ, lvI] 2
def lvA : List C := [⟨2, ⟨#[97]⟩, 0, 0, 0⟩]
def lvH1 : List C := ofL ⟨#[113]⟩ [lvA] 1
def lvC0 : Cl := ⟨lvH, [], [lvB0, lvB1], 2⟩
def lvC1 : Cl := ⟨lvH1, [], [], 0⟩
theorem lv_calls : callsS [lvC0, lvC1] 0 = [(⟨#[113]⟩, 1)] := by kernel_rfl
theorem lv_goal : isGoalS lvB1 = true := by kernel_rfl
theorem lv_guard : isGuardS lvB1 = false := by kernel_rfl
theorem lv0 : idxK (stp [lvC0, lvC1] 0) [lvC0, lvC1] = -1 := by kernel_rfl
theorem lv1 : idxK (stp [lvC0, lvC1] 1) [lvC0, lvC1] = -1 := by kernel_rfl
theorem lv2 : idxK (stp [lvC0, lvC1] 2) [lvC0, lvC1] = -1 := by kernel_rfl
theorem lv3 : idxK (stp [lvC0, lvC1] 3) [lvC0, lvC1] = -1 := by kernel_rfl
theorem lv4 : idxK (stp [lvC0, lvC1] 4) [lvC0, lvC1] = -1 := by kernel_rfl
theorem lv5 : idxK (stp [lvC0, lvC1] 5) [lvC0, lvC1] = -1 := by kernel_rfl
theorem lu0 : idxK (stp [lvC0] 0) [lvC0] = -1 := by kernel_rfl
theorem lu1 : idxK (stp [lvC0] 1) [lvC0] = -1 := by kernel_rfl
theorem lu2 : idxK (stp [lvC0] 2) [lvC0] = -1 := by kernel_rfl
theorem lu3 : idxK (stp [lvC0] 3) [lvC0] = -1 := by kernel_rfl
theorem lu4 : idxK (stp [lvC0] 4) [lvC0] = -1 := by kernel_rfl
theorem lu5 : idxK (stp [lvC0] 5) [lvC0] = 0 := by kernel_rfl
theorem lv_ok {n e : Int} (h : IsWhere [lvC0, lvC1] n e) : e = 0 := where_ok h fun j hj => by
  match j, hj with
  | 0, _ => exact lv0
  | 1, _ => exact lv1
  | 2, _ => exact lv2
  | 3, _ => exact lv3
  | 4, _ => exact lv4
  | 5, _ => exact lv5
theorem lu_at {n e : Int} (h : IsWhere [lvC0] n e) : e = 43 := where_at h 5 (by omega) (fun j hj => by
  match j, hj with
  | 0, _ => exact lu0
  | 1, _ => exact lu1
  | 2, _ => exact lu2
  | 3, _ => exact lu3
  | 4, _ => exact lu4) (by rw [lu5]; exact Int.le_refl 0)
theorem nm_wf (a b : Int) (ha : (Lit.int .i64 a).wf = true) (hb : (Lit.int .i64 b).wf = true) : wfN (a, b) := ⟨ha, hb⟩
theorem lv_w0 : ClW lvC0 := by
  intro l hl
  have : ∀ l ∈ [lvH, lvB0, lvB1], ∀ x ∈ varsOf l, x = (-1, 0) ∨ x = (-1, 1) := by
    have e1 : varsOf lvH = [(-1, 0)] := by kernel_rfl
    have e2 : varsOf lvB0 = [(-1, 0), (-1, 1)] := by kernel_rfl
    have e3 : varsOf lvB1 = [(-1, 1)] := by kernel_rfl
    intro l hl x hx
    simp at hl
    rcases hl with rfl | rfl | rfl
    · rw [e1] at hx; simp at hx; exact .inl hx
    · rw [e2] at hx; simp at hx; exact hx
    · rw [e3] at hx; simp at hx; exact .inr hx
  intro x hx
  have hm : l ∈ [lvH, lvB0, lvB1] := by
    rcases hl with rfl | hl | hl
    · simp [lvC0]
    · simp [lvC0] at hl
    · simp [lvC0] at hl; rcases hl with rfl | rfl <;> simp
  rcases this l hm x hx with rfl | rfl <;> exact ⟨rfl, rfl⟩
theorem lv_w1 : ClW lvC1 := by
  intro l hl x hx
  have e1 : varsOf lvH1 = [] := by kernel_rfl
  rcases hl with rfl | hl | hl
  · have : x ∈ varsOf lvH1 := hx
    rw [e1] at this; simp at this
  · simp [lvC1] at hl
  · simp [lvC1] at hl
theorem lv_p0 : ∀ y ∈ calledS lvC0.bs, wfP y := by
  have e : calledS lvC0.bs = [(⟨#[113]⟩, 1)] := by kernel_rfl
  rw [e]; intro y hy; simp at hy; subst hy; exact ⟨by decide, rfl⟩
theorem lv_p1 : ∀ y ∈ calledS lvC1.bs, wfP y := by
  have e : calledS lvC1.bs = [] := by kernel_rfl
  rw [e]; intro y hy; simp at hy
theorem lv_h0 : wfP (predS lvC0.hd) := by
  have e : predS lvC0.hd = (⟨#[112]⟩, 1) := by kernel_rfl
  rw [e]; exact ⟨by decide, rfl⟩
theorem lv_h1 : wfP (predS lvC1.hd) := by
  have e : predS lvC1.hd = (⟨#[113]⟩, 1) := by kernel_rfl
  rw [e]; exact ⟨by decide, rfl⟩
theorem lv_fine : Fine [lvC0, lvC1] := by
  refine ⟨by simp, ?_, ?_, ?_, ?_, ?_⟩
  · intro c hc; simp at hc; rcases hc with rfl | rfl
    · exact lv_w0
    · exact lv_w1
  · intro c hc; simp at hc; rcases hc with rfl | rfl <;> rfl
  · intro c hc; simp at hc; rcases hc with rfl | rfl <;> simp [lvC0, lvC1]
  · intro c hc; simp at hc; rcases hc with rfl | rfl
    · intro _; exact lv_h0
    · intro _; exact lv_h1
  · intro c hc; simp at hc; rcases hc with rfl | rfl
    · exact lv_p0
    · exact lv_p1
theorem lu_fine : Fine [lvC0] := by
  refine ⟨by simp, ?_, ?_, ?_, ?_, ?_⟩
  · intro c hc; simp at hc; subst hc; exact lv_w0
  · intro c hc; simp at hc; subst hc; rfl
  · intro c hc; simp at hc; subst hc; simp [lvC0]
  · intro c hc; simp at hc; subst hc; intro _; exact lv_h0
  · intro c hc; simp at hc; subst hc; exact lv_p0
end Go.Proofs.YtlfccjlifjppdaaGreatDoor
