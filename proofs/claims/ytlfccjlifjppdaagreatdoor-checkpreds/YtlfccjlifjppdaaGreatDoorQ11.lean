/- Contract of the reference Equal: for every two terms it says whether they have the same cells. Contracts of the reference Right, one, OfInt, OfAtom, OfVar. Contract of the reference SameTerms. Contracts of lent and rows: a term, a row of terms in memory of their own. Contract of live: it returns true. What the row's list of variables gives: the package's row holds the twelve signs. Arguments that are handed in, opened: cells, terms, rows of terms. The library functions that look for an element, laid at this program by the shelf. Contracts of the check's small functions: which cells may stand in a sum. Contracts of the check's looks at terms: sums. -/
import Derived.Test.YtlfccjlifjppdaaGreatDoorQ9
import Derived.Deep.RegionHeld3
import Derived.Deep.DrawnRows
import Derived.Test.YtlfccjlifjppdaaGreatDoorQ10
import Derived.Test.YtlfccjlifjppdaaGreatDoorCards
import Derived.Test.YtlfccjlifjppdaaGreatDoorTie
import Derived.WalkKit
import Derived.ProofKit
import Derived.OpenShut
import Derived.Deep.DeepHandedRow
import Derived.Lib.LaidTab
import Derived.Lib.SmallJoins
import Derived.Deep.Slices
import Derived.SizedLaws
import Derived.Shelf.SlicesQ.IndexFunc
import Derived.Shelf.SlicesE.IndexFunc
import Derived.Test.YtlfccjlifjppdaaGreatDoorProg
namespace Go.Proofs.YtlfccjlifjppdaaGreatDoor
open Go.RowKit
attribute [local go_sem ↓] Go.wp_at_zero Go.wp_at_succ
set_option maxHeartbeats 1000000 in
theorem neq60 (k : Int) (t : ByteArray) (n vn vk : Int) (k' : Int) (t' : ByteArray) (n' vn' vk' : Int) (w : World) :
    (binOp .neq 82 (.agg #[.int .u8 k, .string t, .int .i64 n, .int .i64 vn, .int .i64 vk]) (.agg #[.int .u8 k', .string t', .int .i64 n', .int .i64 vn', .int .i64 vk'])).run Tryz.prog w = .ok (.bool (!eqCells k t n vn vk k' t' n' vn' vk')) w := by
  unfold eqCells
  cases h1 : (k == k') <;> cases h2 : (t.toList == t'.toList) <;> cases h3 : (n == n') <;> cases h4 : (vn == vn') <;> cases h5 : (vk == vk') <;> go_simp
def eqC (c d : C) : Bool := eqCells c.k c.t c.n c.vn c.vk d.k d.t d.n d.vn d.vk
def eqUpto (l m : List C) (k : Nat) : Prop := ∀ j, j < k → ∀ (h1 : j < l.length) (h2 : j < m.length), eqC l[j] m[j] = true
def eqT (l m : List C) : Bool := decide (l.length = m.length) && (l.zip m).all (fun p => eqC p.1 p.2)
theorem eqT_len {l m : List C} (h : ¬ l.length = m.length) : eqT l m = false := by simp [eqT, h]
theorem eqT_true {l m : List C} (h : l.length = m.length) (hu : eqUpto l m l.length) : eqT l m = true := by
  simp only [eqT, h, decide_true, Bool.true_and, List.all_eq_true]
  intro p hp
  obtain ⟨j, hj, rfl⟩ := List.getElem_of_mem hp
  simp at hj
  simpa using hu j (by omega) (by omega) (by omega)
theorem eqT_false {l m : List C} (j : Nat) (h1 : j < l.length) (h2 : j < m.length) (h : eqC l[j] m[j] = false) : eqT l m = false := by
  unfold eqT
  have : (l.zip m).all (fun p => eqC p.1 p.2) = false := by
    rw [List.all_eq_false]
    exact ⟨(l.zip m)[j]'(by simp; omega), List.getElem_mem _, by simp [h]⟩
  rw [this]; simp
theorem eqC_refl (c : C) : eqC c c = true := by simp [eqC, eqCells]
theorem eqT_refl (l : List C) : eqT l l = true := eqT_true rfl (fun j _ h1 _ => eqC_refl l[j])
end Go.Proofs.YtlfccjlifjppdaaGreatDoor
namespace Go.Proofs.YtlfccjlifjppdaaGreatDoor
open Go.RowKit
set_option maxHeartbeats 1000000 in
theorem c23_len (ad : Option Addr) (n cap : Nat) (w : World) (h : (n : Int) < 1 ∨ 256 < (n : Int)) :
    Calls Tryz.prog 82 #[.slice ad n cap] w fun e w' => e = .returned (.bool false) ∧ Below w.heap.size w w' := by
  by_cases h1 : (n : Int) < 1
  · go_enter Tryz.func82, Tryz.ntmps82
    go_wp2_with fail
    go_ret
    exact ⟨rfl, Below.refl _ _⟩
  · have h2 : 256 < (n : Int) := by omega
    go_enter Tryz.func82, Tryz.ntmps82
    go_wp2_with fail
    go_ret
    exact ⟨rfl, Below.refl _ _⟩
set_option maxHeartbeats 1000000 in
theorem c23_in (l : List C) (b o cap : Nat) (w : World) (hr : w.rangeAt b o (flat l)) (hb : b < w.heap.size) (h1 : 1 ≤ l.length) (h256 : l.length ≤ 256) (htx : ∀ c ∈ l, c.t.size ≤ maxLen) (hT : TermAt w (.slice (some ⟨b, o, none⟩) l.length cap) l) :
    Calls Tryz.prog 82 #[.slice (some ⟨b, o, none⟩) l.length cap] w fun e w' => e = .returned (.bool (rightB l)) ∧ Below w.heap.size w w' := by
  have hrb : rightB l = (cellsB l && (endS l 0 == (l.length : Int))) := by
    unfold rightB; rw [decide_eq_true (by omega), decide_eq_true (by omega)]; simp
  rw [hrb]; clear hrb
  have HR : Hid (w.rangeAt b o (flat l)) := hr
  have HX : Hid (∀ c ∈ l, c.t.size ≤ maxLen) := htx
  have HT : Hid (TermAt w (.slice (some ⟨b, o, none⟩) l.length cap) l) := hT
  have g1 : ¬ ((l.length : Int) < 1) := by omega
  have g2 : ¬ (256 < (l.length : Int)) := by omega
  clear hr htx hT
  go_enter Tryz.func82, Tryz.ntmps82
  go_wp2_with fail
  go_loopw [3] (fun i wr => ∃ k : Nat, k ≤ l.length ∧ i = .int .i64 k ∧ Hid ((l.take k).all C.ok = true) ∧ Below w.heap.size w wr) (fun i _ => l.length - (intOf i).toNat)
  case atStart => exact ⟨0, by omega, rfl, rfl, Below.refl _ _⟩
  case round =>
    obtain ⟨k, hk, rfl, hall, hbr⟩ := hrel
    by_cases hlt : k < l.length
    · have hlt' : (k : Int) < (l.length : Int) := by omega
      obtain ⟨p0, p1, p2, p3, p4⟩ := term_cells (range_below HR.out hb hbr) k hlt
      have HC : Hid (Calls Tryz.prog 108 #[.agg #[.int .u8 l[k].k, .string l[k].t, .int .i64 l[k].n, .int .i64 l[k].vn, .int .i64 l[k].vk]] wr fun e w' => e = .returned (.bool l[k].ok) ∧ Below wr.heap.size wr w') := c47 l[k].k l[k].t l[k].n l[k].vn l[k].vk wr (HX.out _ (List.getElem_mem _))
      cases hok : l[k].ok
      · have hF : Hid (cellsB l = false) := cells_false l k hlt hok
        rw [hok] at HC
        clear hok
        go_wp2_with fail
        refine HC.out.mono ?_
        rintro e w' ⟨rfl, hb2⟩
        go_wp2_with fail
        go_ret
        exact ⟨by rw [hF.out]; rfl, hbr.trans (hb2.mono hbr.size)⟩
      · have hT : Hid ((l.take (k + 1)).all C.ok = true) := cells_snoc l k hlt hall.out hok
        rw [hok] at HC
        clear hok
        go_wp2_with fail
        refine HC.out.mono ?_
        rintro e w' ⟨rfl, hb2⟩
        go_wp2_with fail
        go_roundw
        case rel => exact ⟨k + 1, by omega, by go_num, hT, hbr.trans (hb2.mono hbr.size)⟩
        case measure => simp [intOf]; omega
    · have hT : Hid (cellsB l = true) := by
        have h := hall.out; rw [List.take_of_length_le (by omega)] at h; exact h
      have hlt' : ¬ ((k : Int) < (l.length : Int)) := by omega
      go_wp2_with fail
      refine (c25 l _ 0 wr (HT.out.below hbr) (by omega)).mono ?_
      rintro e w' ⟨rfl, rfl⟩
      go_wp2_with fail
      go_ret
      exact ⟨by rw [hT.out]; simp, hbr⟩
theorem c23 (l : List C) (v : Value) (w : World) (h : TermAt w v l) :
    Calls Tryz.prog 82 #[v] w fun e w' => e = .returned (.bool (rightB l)) ∧ Below w.heap.size w w' := by
  by_cases hl : 1 ≤ l.length ∧ l.length ≤ 256
  · have hT := h
    obtain ⟨⟨hc, hx⟩, h⟩ := h
    rcases h with ⟨rfl, ad, rfl⟩ | ⟨b, o, cap, rfl, h2, h5, h3, h4⟩
    · simp at hl
    · exact c23_in l b o cap w h3 h4 hl.1 hl.2 hx hT
  · have e : rightB l = false := by
      unfold rightB
      by_cases h1 : 1 ≤ l.length
      · rw [decide_eq_false (p := (l.length : Int) ≤ 256) (by omega)]; simp
      · rw [decide_eq_false (p := 1 ≤ (l.length : Int)) (by omega)]; simp
    rw [e]
    obtain ⟨ad, cap, rfl⟩ := h.form
    exact c23_len ad l.length cap w (by omega)
theorem right_one (c : C) (hk : c.k ≠ 3) : rightB [c] = c.ok := by
  have ha : argsOf c.k c.n = 0 := by unfold argsOf; rw [if_neg hk]
  have h : endS [c] 0 = 1 := by simp [endS, endF, ha]
  unfold rightB cellsB
  rw [h]
  simp
end Go.Proofs.YtlfccjlifjppdaaGreatDoor
namespace Go.Proofs.YtlfccjlifjppdaaGreatDoor
open Go.RowKit
attribute [local go_sem ↓] Go.wp_at_zero Go.wp_at_succ
def sameUpto (l m : List (List C)) (k : Nat) : Prop := ∀ j, j < k → ∀ (h1 : j < l.length) (h2 : j < m.length), eqT l[j] m[j] = true
def sameR (l m : List (List C)) : Bool := decide (l.length = m.length) && (l.zip m).all (fun p => eqT p.1 p.2)
theorem sameR_len {l m : List (List C)} (h : ¬ l.length = m.length) : sameR l m = false := by simp [sameR, h]
theorem sameR_true {l m : List (List C)} (h : l.length = m.length) (hu : sameUpto l m l.length) : sameR l m = true := by
  simp only [sameR, h, decide_true, Bool.true_and, List.all_eq_true]
  intro p hp
  obtain ⟨j, hj, rfl⟩ := List.getElem_of_mem hp
  simp at hj
  simpa using hu j (by omega) (by omega) (by omega)
theorem sameR_false {l m : List (List C)} (j : Nat) (h1 : j < l.length) (h2 : j < m.length) (h : eqT l[j] m[j] = false) : sameR l m = false := by
  unfold sameR
  have : (l.zip m).all (fun p => eqT p.1 p.2) = false := by
    rw [List.all_eq_false]
    exact ⟨(l.zip m)[j]'(by simp; omega), List.getElem_mem _, by simp [h]⟩
  rw [this]; simp
theorem sameR_refl (l : List (List C)) : sameR l l = true := sameR_true rfl (fun j _ h1 _ => eqT_refl l[j])
abbrev TwS (w : World) (b1 o1 b2 o2 : Nat) (u1 u2 : Value) (w' : World) : Prop :=
  w'.cell? ⟨b1, o1, none⟩ = some u1 ∧ w'.cell? ⟨b2, o2, none⟩ = some u2 ∧ Hid (Below w.heap.size w w' ∧ b1 < w.heap.size ∧ b2 < w.heap.size)
theorem twS_drew {w : World} {b1 o1 b2 o2 : Nat} {u1 u2 : Value} {w' : World} (h : TwS w b1 o1 b2 o2 u1 u2 w') : TwS w b1 o1 b2 o2 u1 u2 w'.drew :=
  ⟨by simpa using h.1, by simpa using h.2.1, h.2.2.out.1.drew, h.2.2.out.2⟩
theorem twS_below {w : World} {b1 o1 b2 o2 : Nat} {u1 u2 : Value} {w' w'' : World} (h : TwS w b1 o1 b2 o2 u1 u2 w') (hb : Below w'.heap.size w' w'') : TwS w b1 o1 b2 o2 u1 u2 w'' := by
  have h9 := h.2.2.out
  have hz := h9.1.size
  exact ⟨(hb.cell (p := ⟨_, _, none⟩) (Nat.lt_of_lt_of_le h9.2.1 hz)).trans h.1, (hb.cell (p := ⟨_, _, none⟩) (Nat.lt_of_lt_of_le h9.2.2 hz)).trans h.2.1, h9.1.trans (hb.mono hz), h9.2⟩
theorem twS_hb {w : World} {b1 o1 b2 o2 : Nat} {u1 u2 : Value} {w' : World} (h : TwS w b1 o1 b2 o2 u1 u2 w') : Below w.heap.size w w' := h.2.2.out.1
end Go.Proofs.YtlfccjlifjppdaaGreatDoor
namespace Go.Proofs.YtlfccjlifjppdaaGreatDoor
open Go.RowKit
def OwnT (w : World) (base : Nat) (u : Value) (l : List C) : Prop := w.ownsRow base 82 5 u l.length (flat l)
theorem ownT_term {w : World} {base : Nat} {u : Value} {l : List C} (h : OwnT w base u l) (hl : l.length ≤ maxLen) (ht : ∀ c ∈ l, c.t.size ≤ maxLen) : TermAt w u l := termAt_of_owns h hl ht
theorem ownT_below {w w' : World} {base : Nat} {u : Value} {l : List C} (h : OwnT w base u l) (hb : Below w.heap.size w w') : OwnT w' base u l := by
  refine ⟨h.1, ?_⟩
  rcases h.2 with hn | ⟨g, cap, cur, h1, h2, h3, h4⟩
  · exact Or.inl hn
  · exact Or.inr ⟨g, cap, cur, h1, h2, (hb.block g (Array.getElem?_eq_some_iff.1 h3).1).trans h3, h4⟩
/-- A term of its own lies in another block than a row of terms. -/
theorem ownT_far {w : World} {base base' : Nat} {u v : Value} {l : List C} {n : Nat} {xs : List Value} (h : OwnT w base u l) (h' : w.ownsRow base' 64 1 v n xs) : u.ownBlock = none ∨ u.ownBlock ≠ v.ownBlock := by
  rcases h.2 with ⟨rfl, _⟩ | ⟨g, cap, cur, rfl, _, h3, _⟩
  · exact Or.inl rfl
  · right
    rcases h'.2 with ⟨rfl, _⟩ | ⟨g', cap', cur', rfl, _, h3', _⟩
    · simp [Value.ownBlock]
    · intro e
      simp [Value.ownBlock] at e
      subst e
      rw [h3] at h3'
      simp at h3'
end Go.Proofs.YtlfccjlifjppdaaGreatDoor
namespace Go.Proofs.YtlfccjlifjppdaaGreatDoor
open Go.RowKit
def cV : C := ⟨4, ⟨#[]⟩, 0, 0, 1⟩
def cI : C := ⟨1, ⟨#[]⟩, 3, 0, 0⟩
def tF : ByteArray := ⟨#[102]⟩
theorem size1 (a : UInt8) : (⟨#[a]⟩ : ByteArray).size ≤ maxLen := by
  show 1 ≤ maxLen
  unfold maxLen; omega
theorem rightV : rightB [cV] = true := by
  simp [rightB, cellsB, C.ok, cV, cellB, eqCells, between, endS, endF, argsOf]
theorem rightI : rightB [cI] = true := by
  simp [rightB, cellsB, C.ok, cI, cellB, eqCells, between, endS, endF, argsOf]
theorem nameF : isNameB [102] = true := by decide
theorem ownF : (ownC tF 2).ok = true := by
  simp [C.ok, ownC, cellB, eqCells, structFits, between, tF, nameF]
theorem liveE : makeE tF [[cV], [cI]] = 0 := by
  have h : allRightB [[cV], [cI]] = true := by simp [allRightB, rightV, rightI]
  unfold makeE
  rw [h, show [[cV], [cI]].length = 2 from rfl, ownF]
  rfl
theorem liveL : makeL tF [[cV], [cI]] = [ownC tF 2, cV, cI] := by unfold makeL; rw [liveE]; rfl
theorem liveR : rightB [ownC tF 2, cV, cI] = true := by
  have h1 : cellsB [ownC tF 2, cV, cI] = true := by
    have hv : cV.ok = true := by simp [C.ok, cV, cellB, eqCells, between]
    have hi : cI.ok = true := by simp [C.ok, cI, cellB, eqCells, between]
    simp [cellsB, ownF, hv, hi]
  unfold rightB
  rw [h1]
  rfl
theorem liveEnd : endS [ownC tF 2, cV, cI] 1 = 2 := by rfl
theorem notF : isNameB [70] = false := by decide
theorem lessT : lessB 0 3 1 0 = true := by decide
theorem oneV : oneT ⟨4, ⟨#[]⟩, 0, 0, 1⟩ = [cV] := by unfold oneT; rw [show (⟨4, ⟨#[]⟩, 0, 0, 1⟩ : C) = cV from rfl, rightV]; rfl
theorem oneI : oneT ⟨1, ⟨#[]⟩, 3, 0, 0⟩ = [cI] := by unfold oneT; rw [show (⟨1, ⟨#[]⟩, 3, 0, 0⟩ : C) = cI from rfl, rightI]; rfl
theorem live_row (_w w2 : World) (v1 v2 : Value) (h1 : TermAt w2 v1 [cV]) (h2 : TermAt w2 v2 [cI]) : RowAt (w2.alloc (.cells #[v1, v2] 64)) (.slice (some ⟨w2.heap.size, 0, none⟩) 2 2) [[cV], [cI]] := by
  refine ⟨by simp [maxLen], Or.inr ⟨w2.heap.size, 0, 2, [v1, v2], rfl, by simp, by simp [maxLen], by simp, rfl, range_new w2 [v1, v2] 64, ?_⟩⟩
  intro i u l hu hl
  match i with
  | 0 => simp at hu hl; subst hu; subst hl; exact h1.below (below_alloc _ _)
  | 1 => simp at hu hl; subst hu; subst hl; exact h2.below (below_alloc _ _)
  | n + 2 => simp at hu
end Go.Proofs.YtlfccjlifjppdaaGreatDoor
namespace Go.Proofs.YtlfccjlifjppdaaGreatDoor.Laid
open Go.ChangeShapes Go.WideShapes Go.ChangeAt Go.RowKit Go.Joins
open Go.ChangeMaps (open_string shut_string)

theorem own : ownKnob Tryz.prog.godebug = none := by kernel_rfl
theorem laidOut : laidOutB Tryz.prog = true := by kernel_rfl
theorem gTab : Tryz.prog.globalNamed (Rows.checkProgramsRow.named.headD default) = some 0 := by kernel_rfl
theorem gTabType : (Tryz.prog.globals[0]?).map (·.type) = some 149 := by kernel_rfl
theorem cells87 : Tryz.prog.cellsOf 149 = 12 := by kernel_rfl
theorem cells9 : Tryz.prog.cellsOf 9 = 1 := by kernel_rfl

/-- An array of strings that reads as the table holds the table's texts, cell for cell. -/
theorem cells_of_strs {H : Type} {enc : TypeId × Value → H} {w : World} {base : Nat} {sp : Nat → Bool} {held : Bool} {fuel : Nat} {cs : List Value} {zs : List (List UInt8)} {p : List MemPlace}
    (h : DataW.trod enc Tryz.prog w base sp held fuel 149 cs = some (.agg (zs.map fun z => (.lit (.string z) : DataW H)), p)) : cs = zs.map fun z => Value.string ⟨z.toArray⟩ := by
  cases fuel with
  | zero => simp [DataW.trod] at h
  | succ fuel =>
    simp only [DataW.trod, Tryz.underlying149, cells9, cells87, Nat.mul_one] at h
    split at h
    · rename_i hl
      obtain ⟨xs, hm, hx⟩ := Option.map_eq_some_iff.1 h
      have hxs : xs.map (·.1) = zs.map fun z => (DataW.lit (.string z) : DataW H) := by
        have := congrArg Prod.fst hx
        simpa using this
      have hxl : xs.length = 12 := by simpa using Lib.mapM_length hm
      have hzl : zs.length = 12 := by
        have := congrArg List.length hxs
        simp at this
        omega
      apply List.ext_getElem?
      intro i
      by_cases hi : i < 12
      · obtain ⟨b, hb, hf⟩ := Lib.mapM_at hm i i (by simp [hi])
        obtain ⟨z, hc, rfl, _⟩ := DataW.trod_string Tryz.underlying9 hf
        have h1 : cs[i]? = some (.string z) := by
          have := congrArg (·[0]?) hc
          simpa [List.getElem?_take, List.getElem?_drop] using this
        have h2 : (xs.map (·.1))[i]? = some (DataW.lit (.string z.data.toList) : DataW H) := by simp [hb]
        rw [hxs] at h2
        simp only [List.getElem?_map, Option.map_eq_some_iff, DataW.lit.injEq, Lit.string.injEq] at h2
        obtain ⟨z', hz', e⟩ := h2
        simp [h1, hz', e]
      · rw [List.getElem?_eq_none (by omega), List.getElem?_eq_none (by simp; omega)]
    · cases h

/-- What the row's list gives: the variable's cells hold the twelve signs. -/
theorem signs_of {W : World} (h : laidMetH Tryz.prog Rows.checkProgramsRow.laid W) : Signs W := by
  have h' : laidMet Tryz.prog Rows.checkProgramsRow.laid W := h
  obtain ⟨ps, ⟨g', t', cs, fuel, p, q, hg', ht', hvar, hd, _, _⟩, _⟩ := h'
  obtain rfl := Option.some.inj (gTab.symm.trans hg')
  obtain rfl := Option.some.inj (gTabType.symm.trans ht')
  have hcs : cs.toList = signs.map fun z => Value.string ⟨z.toArray⟩ := cells_of_strs (zs := signs) hd
  have hcell : ∀ j v, signVals[j]? = some v → W.cell? ⟨0, 0 + j, none⟩ = some v := by
    intro j v hv
    have h1 := World.var?_cell gTab hvar j
    rw [Nat.zero_add, h1]
    have h2 : cs[j]? = cs.toList[j]? := by simp
    rw [h2, hcs]
    exact hv
  refine ⟨?_, hcell⟩
  have h0 := hcell 0 _ rfl
  exact World.block_lt_of_cell? W _ h0

/-- The world with its first block holding the signs: for the witnesses. -/
def laidOn (w : World) : World :=
  { w with heap := w.heap.modify 0 fun
      | .cells _ t frozen => .cells signVals.toArray t frozen
      | o => o }
end Go.Proofs.YtlfccjlifjppdaaGreatDoor.Laid
namespace Go.Proofs.YtlfccjlifjppdaaGreatDoor
open Go.ChangeShapes Go.WideShapes Go.ChangeAt Go.RowKit Go.Joins Go.Deep Go.Proofs.YtlfccjlifjppdaaGreatDoor.Laid
theorem cells60 : Tryz.prog.cellsOf 82 = 5 := by kernel_rfl
theorem cells29 : Tryz.prog.cellsOf 64 = 1 := by kernel_rfl
theorem cells58 : Tryz.prog.cellsOf 78 = 1 := by kernel_rfl
theorem cells3 : Tryz.prog.cellsOf 3 = 1 := by kernel_rfl
theorem cells23' : Tryz.prog.cellsOf 80 = 2 := by kernel_rfl
theorem bytes60 : Tryz.prog.bytesOf 82 = 48 := by kernel_rfl
theorem bytes29 : Tryz.prog.bytesOf 64 = 24 := by kernel_rfl
section
variable {H : Type} {enc : TypeId × Value → H} {w : World} {base : Nat} {sp : Nat → Bool} {held : Bool}
theorem list5 {α : Type} {l : List α} (h : l.length = 5) : ∃ a b c d e, l = [a, b, c, d, e] := by
  match l, h with
  | [a, b, c, d, e], _ => exact ⟨a, b, c, d, e, rfl⟩
/-- A cell in memory, opened. -/
theorem open_cell {fuel : Nat} {cs : List Value} {x : DataW H × List MemPlace} (h : DataW.trod enc Tryz.prog w base sp held fuel 82 cs = some x) : ∃ c : C, cs = c.vals ∧ c.t.size ≤ maxLen := by
  cases fuel with
  | zero => simp [DataW.trod] at h
  | succ fuel =>
    simp only [DataW.trod, Tryz.underlying82, cells60] at h
    split at h
    · rename_i hl
      obtain ⟨a, b, c, d, e, rfl⟩ := list5 hl
      obtain ⟨xs, hm, _⟩ := Option.map_eq_some_iff.1 h
      have f0 := Lib.mapM_at hm 0 _ rfl
      have f1 := Lib.mapM_at hm 1 _ rfl
      have f2 := Lib.mapM_at hm 2 _ rfl
      have f3 := Lib.mapM_at hm 3 _ rfl
      obtain ⟨y0, _, g0⟩ := f0
      obtain ⟨y1, _, g1⟩ := f1
      obtain ⟨y2, _, g2⟩ := f2
      obtain ⟨y3, _, g3⟩ := f3
      simp only [cells58, cells9, cells3, cells23', List.drop_zero, List.drop_succ_cons, List.take_succ_cons, List.take_zero] at g0 g1 g2 g3
      obtain ⟨k, e0, _, _⟩ := DataW.trod_int Tryz.underlying78 g0
      obtain ⟨t, e1, _, ht⟩ := DataW.trod_string Tryz.underlying9 g1
      obtain ⟨n, e2, _, _⟩ := DataW.trod_int Tryz.underlying3 g2
      obtain ⟨z0, z1, n3, _, _, h30, h31⟩ := trod_struct2 Tryz.underlying80 g3
      simp only [cells3, List.drop_zero, List.drop_succ_cons, List.take_succ_cons, List.take_zero] at h30 h31
      obtain ⟨vn, e3, _, _⟩ := DataW.trod_int Tryz.underlying3 h30
      obtain ⟨vk, e4, _, _⟩ := DataW.trod_int Tryz.underlying3 h31
      simp only [List.cons.injEq, and_true] at e0 e1 e2 e3 e4
      subst e0 e1 e2 e3 e4
      exact ⟨⟨k, t, n, vn, vk⟩, rfl, ht⟩
    · cases h
theorem flat_div (l : List C) (j : Nat) (v : Value) (h : (flat l)[j]? = some v) : ∃ (hi : j / 5 < l.length), (l[j / 5].vals)[j % 5]? = some v := by
  have hj : j < (flat l).length := (List.getElem?_eq_some_iff.1 h).1
  rw [flat_length] at hj
  have hi : j / 5 < l.length := by omega
  refine ⟨hi, ?_⟩
  rw [← flat_get l (j / 5) (j % 5) hi (by omega), show 5 * (j / 5) + j % 5 = j by omega]
  exact h
/-- A term that is handed in, opened: its cells, and how long it is at most. -/
theorem open_term {fuel : Nat} {v : Value} {x : DataW H × List MemPlace} (h : DataW.trod enc Tryz.prog w base (fun _ => true) held fuel 64 [v] = some x) :
    ∃ l : List C, TermAt w v l ∧ ∀ M : Nat, (∀ y ∈ DataW.weights Tryz.prog 64 x.1, y ≤ M) → l.length * 48 ≤ M := by
  rcases open_slice Tryz.underlying64 h with ⟨hcs, hx⟩ | ⟨a, len, cap, m, n, D, Pl, hcs, _, hl, hmx, hm, hx, hel⟩
  · simp only [List.cons.injEq, and_true] at hcs
    subst hcs
    exact ⟨[], termAt_nil w, fun M _ => by simp⟩
  · simp only [List.cons.injEq, and_true] at hcs
    subst hcs
    simp only [if_true] at hm
    subst hm
    have hw : ∀ M : Nat, (∀ y ∈ DataW.weights Tryz.prog 64 x.1, y ≤ M) → len * 48 ≤ M := by
      intro M hM
      have h1 := hM ((len + (m - len)) * 48) (by
        rw [hx]
        simp [DataW.weights, Tryz.underlying64, bytes60])
      have h2 : len * 48 ≤ (len + (m - len)) * 48 := Nat.mul_le_mul_right _ (by omega)
      omega
    by_cases h0 : m = 0
    · have hl0 : len = 0 := by omega
      subst h0 hl0
      exact ⟨[], ⟨⟨by simp, by simp⟩, Or.inl ⟨rfl, some a, rfl⟩⟩, fun M _ => by simp⟩
    · rw [cells60] at hel
      have hc : ∀ i, i < m → ∃ c : C, (∀ r, r < 5 → w.cell? ((a.add (i * 5)).add r) = c.vals[r]?) ∧ c.t.size ≤ maxLen := by
        intro i hi
        obtain ⟨cs, h1, h2⟩ := hel i hi
        obtain ⟨c, rfl, ht⟩ := open_cell h2
        exact ⟨c, (World.cells?_some h1).2.2, ht⟩
      obtain ⟨f, hf⟩ := @choose_lt C ⟨⟨0, ⟨#[]⟩, 0, 0, 0⟩⟩ m _ hc
      have h00 := (hf 0 (by omega)).1 0 (by omega)
      obtain ⟨b, o, spot⟩ := a
      have hspot : spot = none := by
        have h01 : w.cell? (((⟨b, o, spot⟩ : Addr).add (0 * 5)).add 0) = some (.int .u8 (f 0).k) := h00
        simpa [Addr.add] using World.cell?_spot h01
      subst hspot
      have hr : w.rangeAt b o (flat ((List.range len).map f)) := by
        intro j u hu
        obtain ⟨hi, hv⟩ := flat_div _ j u hu
        simp at hi
        have h2 := (hf (j / 5) (by omega)).1 (j % 5) (by omega)
        rw [Addr.add_mid, Addr.add_mid, show o + j / 5 * 5 + j % 5 = o + j by omega] at h2
        rw [h2]
        simpa using hv
      refine ⟨(List.range len).map f, ⟨⟨by simp; omega, ?_⟩, Or.inr ⟨b, o, m, by simp, by simp; exact hl, hmx, hr, ?_⟩⟩, fun M hM => by simp; exact hw M hM⟩
      · intro c hc'
        simp only [List.mem_map, List.mem_range] at hc'
        obtain ⟨i, hi, rfl⟩ := hc'
        exact (hf i (by omega)).2
      · have h01 : w.cell? (((⟨b, o, none⟩ : Addr).add (0 * 5)).add 0) = some (.int .u8 (f 0).k) := h00
        rw [Addr.add_mid, Addr.add_mid] at h01
        exact World.block_lt_of_cell? w _ h01
theorem weightsAll_mem {t : TypeId} : ∀ {ds : List (DataW H)} {d : DataW H} {y : Nat}, d ∈ ds → y ∈ DataW.weights Tryz.prog t d → y ∈ DataW.weightsAll Tryz.prog t ds
  | _ :: _, _, _, hd, hy => by
    rcases List.mem_cons.1 hd with rfl | hd
    · simp [DataW.weightsAll, hy]
    · simp only [DataW.weightsAll, List.mem_append]
      exact Or.inr (weightsAll_mem hd hy)
/-- A row of terms that is handed in, opened. -/
theorem open_row {fuel : Nat} {v : Value} {x : DataW H × List MemPlace} (h : DataW.trod enc Tryz.prog w base (fun _ => true) held fuel 32 [v] = some x) :
    ∃ ls : List (List C), RowAt w v ls ∧ ∀ M : Nat, (∀ y ∈ DataW.weights Tryz.prog 32 x.1, y ≤ M) → ls.length * 24 ≤ M ∧ ∀ l ∈ ls, l.length * 48 ≤ M := by
  rcases open_slice1 Tryz.underlying32 cells29 h with ⟨hcs, hx⟩ | ⟨a, len, cap, m, n, V, D, Pl, hcs, _, hl, hmx, hm, hx, hel⟩
  · simp only [List.cons.injEq, and_true] at hcs
    subst hcs
    exact ⟨[], ⟨by simp, Or.inl ⟨rfl, none, rfl⟩⟩, fun M _ => by simp⟩
  · simp only [List.cons.injEq, and_true] at hcs
    subst hcs
    simp only [if_true] at hm
    subst hm
    by_cases h0 : m = 0
    · have hl0 : len = 0 := by omega
      subst h0 hl0
      exact ⟨[], ⟨by simp, Or.inl ⟨rfl, some a, rfl⟩⟩, fun M _ => by simp⟩
    · have hc : ∀ i, i < m → ∃ l : List C, TermAt w (V i) l ∧ ∀ M : Nat, (∀ y ∈ DataW.weights Tryz.prog 64 (D i), y ≤ M) → l.length * 48 ≤ M := fun i hi => open_term (hel i hi).2
      obtain ⟨f, hf⟩ := @choose_lt (List C) ⟨[]⟩ m _ hc
      have h00 := (hel 0 (by omega)).1
      obtain ⟨b, o, spot⟩ := a
      have hspot : spot = none := by simpa [Addr.add] using World.cell?_spot h00
      subst hspot
      have hb : b < w.heap.size := by
        rw [Addr.add_mid] at h00
        exact World.block_lt_of_cell? w _ h00
      refine ⟨(List.range len).map f, ⟨by simp; omega, Or.inr ⟨b, o, m, (List.range len).map V, by simp, by simp; exact hl, hmx, hb, by simp, ?_, ?_⟩⟩, ?_⟩
      · intro j u hu
        simp only [List.getElem?_map, Option.map_eq_some_iff] at hu
        obtain ⟨i, hi, rfl⟩ := hu
        have hj : j < len := by have := (List.getElem?_eq_some_iff.1 hi).1; simpa using this
        rw [List.getElem?_range hj] at hi
        cases hi
        have := (hel j (by omega)).1
        rw [Addr.add_mid] at this
        exact this
      · intro i u l hu hl'
        simp only [List.getElem?_map, Option.map_eq_some_iff] at hu hl'
        obtain ⟨j, hj, rfl⟩ := hu
        obtain ⟨j', hj', rfl⟩ := hl'
        rw [hj] at hj'
        cases hj'
        have hlt : i < len := by have := (List.getElem?_eq_some_iff.1 hj).1; simpa using this
        rw [List.getElem?_range hlt] at hj
        cases hj
        exact (hf i (by omega)).1
      · intro M hM
        refine ⟨?_, ?_⟩
        · have h1 := hM ((len + (m - len)) * 24) (by
            rw [hx]
            simp [DataW.weights, Tryz.underlying32, bytes29])
          have h2 : len * 24 ≤ (len + (m - len)) * 24 := Nat.mul_le_mul_right _ (by omega)
          simp; omega
        · intro l hl'
          simp only [List.mem_map, List.mem_range] at hl'
          obtain ⟨i, hi, rfl⟩ := hl'
          refine (hf i (by omega)).2 M (fun y hy => hM y ?_)
          rw [hx]
          simp only [DataW.weights, Tryz.underlying32, List.mem_cons, List.mem_append]
          right; left
          exact weightsAll_mem (List.mem_map.2 ⟨i, by simpa using hi, rfl⟩) hy
end
end Go.Proofs.YtlfccjlifjppdaaGreatDoor
namespace Go.Proofs
open Go.Shelf
def Tryz.lays43_ren : Go.Shelf.Ren := ⟨fun | 8 => 101 | 6 => 117 | n => n, fun | 22 => 63 | 23 => 82 | 25 => 129 | 4 => 4 | 3 => 3 | 0 => 0 | n => n, fun | n => n⟩
theorem Tryz.lays43 : Go.Proofs.SlLaysH0.n8 Tryz.prog Tryz.lays43_ren := {
  mixed := by kernel_rfl
  f6 := ⟨Tryz.f117.name, by decide, Tryz.func117.trans (congrArg some (by kernel_rfl))⟩
  f8 := ⟨Tryz.f101.name, by decide, Tryz.func101.trans (congrArg some (by kernel_rfl))⟩
  t0 := Tryz.underlying0
  a0 := Tryz.isAgg0
  z0 := Tryz.sizeOf0
  v0 := Tryz.zeroValue0
  t3 := Tryz.underlying3
  a3 := Tryz.isAgg3
  z3 := Tryz.sizeOf3
  v3 := Tryz.zeroValue3
  t4 := Tryz.underlying4
  a4 := Tryz.isAgg4
  z4 := Tryz.sizeOf4
  v4 := Tryz.zeroValue4
  t22 := Tryz.underlying63
  a22 := Tryz.isAgg63
  z22 := Tryz.sizeOf63
  v22 := Tryz.zeroValue63
  t25 := Tryz.underlying129
  a25 := Tryz.isAgg129
  z25 := Tryz.sizeOf129
  v25 := Tryz.zeroValue129 }
def Tryz.lays54_ren : Go.Shelf.Ren := ⟨fun | 6 => 30 | n => n, fun | 22 => 23 | 23 => 66 | 25 => 70 | 3 => 3 | 0 => 0 | 4 => 4 | n => n, fun | n => n⟩
theorem Tryz.lays54 : Go.Proofs.SlLaysH0.n6 Tryz.prog Tryz.lays54_ren := {
  mixed := by kernel_rfl
  f6 := ⟨Tryz.f30.name, by decide, Tryz.func30.trans (congrArg some (by kernel_rfl))⟩
  t0 := Tryz.underlying0
  a0 := Tryz.isAgg0
  z0 := Tryz.sizeOf0
  v0 := Tryz.zeroValue0
  t3 := Tryz.underlying3
  a3 := Tryz.isAgg3
  z3 := Tryz.sizeOf3
  v3 := Tryz.zeroValue3
  t4 := Tryz.underlying4
  a4 := Tryz.isAgg4
  z4 := Tryz.sizeOf4
  v4 := Tryz.zeroValue4
  t22 := Tryz.underlying23
  a22 := Tryz.isAgg23
  z22 := Tryz.sizeOf23
  v22 := Tryz.zeroValue23
  t25 := Tryz.underlying70
  a25 := Tryz.isAgg70
  z25 := Tryz.sizeOf70
  v25 := Tryz.zeroValue70 }
def Tryz.lays69_ren : Go.Shelf.Ren := ⟨fun | 8 => 58 | 6 => 90 | n => n, fun | 22 => 32 | 23 => 64 | 25 => 83 | 4 => 4 | 3 => 3 | 0 => 0 | n => n, fun | n => n⟩
theorem Tryz.lays69 : Go.Proofs.SlLaysH.n8 Tryz.prog Tryz.lays69_ren := {
  mixed := by kernel_rfl
  f6 := ⟨Tryz.f90.name, by decide, Tryz.func90.trans (congrArg some (by kernel_rfl))⟩
  f8 := ⟨Tryz.f58.name, by decide, Tryz.func58.trans (congrArg some (by kernel_rfl))⟩
  t0 := Tryz.underlying0
  a0 := Tryz.isAgg0
  z0 := Tryz.sizeOf0
  v0 := Tryz.zeroValue0
  t3 := Tryz.underlying3
  a3 := Tryz.isAgg3
  z3 := Tryz.sizeOf3
  v3 := Tryz.zeroValue3
  t4 := Tryz.underlying4
  a4 := Tryz.isAgg4
  z4 := Tryz.sizeOf4
  v4 := Tryz.zeroValue4
  t22 := Tryz.underlying32
  a22 := Tryz.isAgg32
  z22 := Tryz.sizeOf32
  v22 := Tryz.zeroValue32
  a23 := Tryz.isAgg64
  z23 := Tryz.sizeOf64
  t25 := Tryz.underlying83
  a25 := Tryz.isAgg83
  z25 := Tryz.sizeOf83
  v25 := Tryz.zeroValue83 }
def Tryz.lays75_ren : Go.Shelf.Ren := ⟨fun | 8 => 64 | 6 => 93 | n => n, fun | 22 => 39 | 23 => 61 | 25 => 102 | 4 => 4 | 3 => 3 | 0 => 0 | n => n, fun | n => n⟩
theorem Tryz.lays75 : Go.Proofs.SlLaysH0.n8 Tryz.prog Tryz.lays75_ren := {
  mixed := by kernel_rfl
  f6 := ⟨Tryz.f93.name, by decide, Tryz.func93.trans (congrArg some (by kernel_rfl))⟩
  f8 := ⟨Tryz.f64.name, by decide, Tryz.func64.trans (congrArg some (by kernel_rfl))⟩
  t0 := Tryz.underlying0
  a0 := Tryz.isAgg0
  z0 := Tryz.sizeOf0
  v0 := Tryz.zeroValue0
  t3 := Tryz.underlying3
  a3 := Tryz.isAgg3
  z3 := Tryz.sizeOf3
  v3 := Tryz.zeroValue3
  t4 := Tryz.underlying4
  a4 := Tryz.isAgg4
  z4 := Tryz.sizeOf4
  v4 := Tryz.zeroValue4
  t22 := Tryz.underlying39
  a22 := Tryz.isAgg39
  z22 := Tryz.sizeOf39
  v22 := Tryz.zeroValue39
  t25 := Tryz.underlying102
  a25 := Tryz.isAgg102
  z25 := Tryz.sizeOf102
  v25 := Tryz.zeroValue102 }
def Tryz.lays92_ren : Go.Shelf.Ren := ⟨fun | 8 => 88 | 6 => 111 | n => n, fun | 22 => 105 | 23 => 80 | 25 => 118 | 4 => 4 | 3 => 3 | 0 => 0 | n => n, fun | n => n⟩
theorem Tryz.lays92 : Go.Proofs.SlLaysH0.n8 Tryz.prog Tryz.lays92_ren := {
  mixed := by kernel_rfl
  f6 := ⟨Tryz.f111.name, by decide, Tryz.func111.trans (congrArg some (by kernel_rfl))⟩
  f8 := ⟨Tryz.f88.name, by decide, Tryz.func88.trans (congrArg some (by kernel_rfl))⟩
  t0 := Tryz.underlying0
  a0 := Tryz.isAgg0
  z0 := Tryz.sizeOf0
  v0 := Tryz.zeroValue0
  t3 := Tryz.underlying3
  a3 := Tryz.isAgg3
  z3 := Tryz.sizeOf3
  v3 := Tryz.zeroValue3
  t4 := Tryz.underlying4
  a4 := Tryz.isAgg4
  z4 := Tryz.sizeOf4
  v4 := Tryz.zeroValue4
  t22 := Tryz.underlying105
  a22 := Tryz.isAgg105
  z22 := Tryz.sizeOf105
  v22 := Tryz.zeroValue105
  t25 := Tryz.underlying118
  a25 := Tryz.isAgg118
  z25 := Tryz.sizeOf118
  v25 := Tryz.zeroValue118 }
end Go.Proofs
namespace Go.Proofs.YtlfccjlifjppdaaGreatDoor
open Go.RowKit
/-- May a cell stand in a sum? By its text, its number, its kind. -/
def sumC (c : C) : Bool :=
  if c.t.toList == [43] then true else if c.t.toList == [45] then true else if c.t.toList == [42] then true
  else if c.t.toList == [100, 105, 118] then c.n == 2 else if c.t.toList == [109, 111, 100] then c.n == 2 else if c.t.toList == [109, 105, 110] then c.n == 2 else if c.t.toList == [109, 97, 120] then c.n == 2
  else if c.t.toList == [97, 98, 115] then c.n == 1 else (c.k == 1 || c.k == 4)
set_option maxRecDepth 100000 in
set_option maxHeartbeats 2000000 in
theorem k45 (c : C) (w : World) :
    Calls Tryz.prog 103 #[.agg #[.int .u8 c.k, .string c.t, .int .i64 c.n, .int .i64 c.vn, .int .i64 c.vk]] w fun e w' => e = .returned (.bool (sumC c)) ∧ Below w.heap.size w w' := by
  have hB : ∀ o : Obj, Hid (Below w.heap.size w (w.alloc o)) := fun o => (Below.refl _ _).alloc (Nat.le_refl _) o
  obtain ⟨k, t, n, vn, vk⟩ := c
  have HC : Hid (sumC ⟨k, t, n, vn, vk⟩ = if t.toList == [43] then true else if t.toList == [45] then true else if t.toList == [42] then true
    else if t.toList == [100, 105, 118] then n == 2 else if t.toList == [109, 111, 100] then n == 2 else if t.toList == [109, 105, 110] then n == 2 else if t.toList == [109, 97, 120] then n == 2
    else if t.toList == [97, 98, 115] then n == 1 else (k == 1 || k == 4)) := rfl
  simp only
  cases h1 : (t.toList == [43])
  · cases h2 : (t.toList == [45])
    · cases h3 : (t.toList == [42])
      · cases h4 : (t.toList == [100, 105, 118])
        · cases h5 : (t.toList == [109, 111, 100])
          · cases h6 : (t.toList == [109, 105, 110])
            · cases h7 : (t.toList == [109, 97, 120])
              · cases h8 : (t.toList == [97, 98, 115])
                · have hT : Hid (sumC ⟨k, t, n, vn, vk⟩ = (k == 1 || k == 4)) := by
                    show sumC _ = _
                    rw [HC.out]; simp [h1, h2, h3, h4, h5, h6, h7, h8]
                  clear HC
                  cases hk : (k == 1) <;> rw [hk] at hT
                  · go_enter Tryz.func103, Tryz.ntmps103
                    go_wp2_with fail
                    all_goals (go_ret; exact ⟨by rw [hT.out]; rfl, (hB _).out⟩)
                  · go_enter Tryz.func103, Tryz.ntmps103
                    go_wp2_with fail
                    all_goals (go_ret; exact ⟨by rw [hT.out]; rfl, (hB _).out⟩)
                · have hT : Hid (sumC ⟨k, t, n, vn, vk⟩ = (n == 1)) := by
                    show sumC _ = _
                    rw [HC.out]; simp [h1, h2, h3, h4, h5, h6, h7, h8]
                  clear HC
                  go_enter Tryz.func103, Tryz.ntmps103
                  go_wp2_with fail
                  all_goals (go_ret; exact ⟨by rw [hT.out]; rfl, (hB _).out⟩)
              · have hT : Hid (sumC ⟨k, t, n, vn, vk⟩ = (n == 2)) := by
                  show sumC _ = _
                  rw [HC.out]; simp [h1, h2, h3, h4, h5, h6, h7]
                clear HC
                go_enter Tryz.func103, Tryz.ntmps103
                go_wp2_with fail
                all_goals (go_ret; exact ⟨by rw [hT.out]; rfl, (hB _).out⟩)
            · have hT : Hid (sumC ⟨k, t, n, vn, vk⟩ = (n == 2)) := by
                show sumC _ = _
                rw [HC.out]; simp [h1, h2, h3, h4, h5, h6]
              clear HC
              go_enter Tryz.func103, Tryz.ntmps103
              go_wp2_with fail
              all_goals (go_ret; exact ⟨by rw [hT.out]; rfl, (hB _).out⟩)
          · have hT : Hid (sumC ⟨k, t, n, vn, vk⟩ = (n == 2)) := by
              show sumC _ = _
              rw [HC.out]; simp [h1, h2, h3, h4, h5]
            clear HC
            go_enter Tryz.func103, Tryz.ntmps103
            go_wp2_with fail
            all_goals (go_ret; exact ⟨by rw [hT.out]; rfl, (hB _).out⟩)
        · have hT : Hid (sumC ⟨k, t, n, vn, vk⟩ = (n == 2)) := by
            show sumC _ = _
            rw [HC.out]; simp [h1, h2, h3, h4]
          clear HC
          go_enter Tryz.func103, Tryz.ntmps103
          go_wp2_with fail
          all_goals (go_ret; exact ⟨by rw [hT.out]; rfl, (hB _).out⟩)
      · have hT : Hid (sumC ⟨k, t, n, vn, vk⟩ = (true)) := by
          show sumC _ = _
          rw [HC.out]; simp [h1, h2, h3]
        clear HC
        go_enter Tryz.func103, Tryz.ntmps103
        go_wp2_with fail
        all_goals (go_ret; exact ⟨by rw [hT.out]; rfl, (hB _).out⟩)
    · have hT : Hid (sumC ⟨k, t, n, vn, vk⟩ = (true)) := by
        show sumC _ = _
        rw [HC.out]; simp [h1, h2]
      clear HC
      go_enter Tryz.func103, Tryz.ntmps103
      go_wp2_with fail
      all_goals (go_ret; exact ⟨by rw [hT.out]; rfl, (hB _).out⟩)
  · have hT : Hid (sumC ⟨k, t, n, vn, vk⟩ = (true)) := by
      show sumC _ = _
      rw [HC.out]; simp [h1]
    clear HC
    go_enter Tryz.func103, Tryz.ntmps103
    go_wp2_with fail
    all_goals (go_ret; exact ⟨by rw [hT.out]; rfl, (hB _).out⟩)
theorem k44 (c : C) (w : World) :
    Calls Tryz.prog 102 #[.agg #[.int .u8 c.k, .string c.t, .int .i64 c.n, .int .i64 c.vn, .int .i64 c.vk]] w fun e w' => e = .returned (.bool (!sumC c)) ∧ Below w.heap.size w w' := by
  have H45 := fun w => k45 c w
  obtain ⟨k, t, n, vn, vk⟩ := c
  generalize sumC ⟨k, t, n, vn, vk⟩ = b at *
  have hB : ∀ o : Obj, Hid (Below w.heap.size w (w.alloc o)) := fun o => (Below.refl _ _).alloc (Nat.le_refl _) o
  simp only at H45 ⊢
  go_enter Tryz.func102, Tryz.ntmps102
  go_wp2_with fail
  refine (H45 _).mono ?_
  rintro e w' ⟨rfl, hb⟩
  go_wp2_with fail
  go_ret
  exact ⟨rfl, (hB _).out.trans (hb.mono (by simp))⟩
end Go.Proofs.YtlfccjlifjppdaaGreatDoor
namespace Go.Proofs.YtlfccjlifjppdaaGreatDoor
open Go.RowKit Go.Shelf
instance : Inhabited C := ⟨⟨0, ⟨#[]⟩, 0, 0, 0⟩⟩
/-- Do all cells stand in a sum? -/
def sumAll (l : List C) : Bool := l.all sumC
theorem any_not (l : List C) : l.any (fun c => !sumC c) = !sumAll l := by
  unfold sumAll
  rw [List.all_eq_not_any_not]; simp
theorem pred44 (w : World) : PredBelow Tryz.prog 102 #[] (fun x : C => .agg x.vals.toArray) (fun x => !sumC x) w := fun W x hb =>
  (k44 x W).mono fun _ _ ⟨h1, h2⟩ => ⟨h1, hb.trans (h2.mono hb.size)⟩
theorem k43_in (l : List C) (b o cap : Nat) (w : World) (hr : w.rangeAt b o (flat l)) (hb : b < w.heap.size) (hc : l.length ≤ maxLen) :
    Calls Tryz.prog 101 #[.slice (some ⟨b, o, none⟩) l.length cap, .func (.func 102) #[] #[]] w fun e w' => e = .returned (.bool (!sumAll l)) ∧ Below w.heap.size w w' := by
  have eg : ∀ args w, (callFunc 102 args).run Tryz.prog w = .ok (.enter 102 args) w := enters_of Tryz.func102 (by kernel_rfl) rfl
  have h := AnyQ.slices_ContainsFunc Tryz.lays43 5 Tryz.isAgg82 Tryz.sizeOf82 C.vals (fun _ => rfl) (fun x => !sumC x) 102 #[] eg b o l.length cap l w (pred44 w) (Nat.le_refl _) (by unfold maxLen at hc; omega) hb (fun j hj i v hv => by
    have e : l[j]! = l[j] := getElem!_pos l j hj
    rw [e] at hv
    have hi : i < 5 := by
      have := (List.getElem?_eq_some_iff.1 hv).1
      exact this
    have h5 := hr (5 * j + i) v (by rw [flat_get l j i hj hi]; exact hv)
    rw [show o + (5 * j + i) = o + j * 5 + i by omega] at h5
    exact h5)
  rw [List.take_length, any_not] at h
  exact h
set_option maxRecDepth 100000 in
theorem k25_in (l : List C) (b o cap : Nat) (w : World) (hr : w.rangeAt b o (flat l)) (hb : b < w.heap.size) (hc : l.length ≤ maxLen) :
    Calls Tryz.prog 76 #[.slice (some ⟨b, o, none⟩) l.length cap] w fun e w' => e = .returned (.bool (sumAll l)) ∧ Below w.heap.size w w' := by
  have H43 := fun W hW => k43_in l b o cap W (range_below hr hb hW) (Nat.lt_of_lt_of_le hb hW.size) hc
  generalize sumAll l = s at *
  clear hr
  go_enter Tryz.func76, Tryz.ntmps76
  go_wp2_with fail
  refine (H43 _ (Below.refl _ _)).mono ?_
  rintro e w' ⟨rfl, hb2⟩
  go_wp2_with fail
  go_ret
  exact ⟨by simp, hb2⟩
theorem k25 (l : List C) (v : Value) (w : World) (h : TermAt w v l) (h1 : 0 < l.length) :
    Calls Tryz.prog 76 #[v] w fun e w' => e = .returned (.bool (sumAll l)) ∧ Below w.heap.size w w' := by
  obtain ⟨⟨hc, _⟩, h⟩ := h
  rcases h with ⟨rfl, _⟩ | ⟨b, o, cap, rfl, h2, h5, h3, h4⟩
  · simp at h1
  · exact k25_in l b o cap w h3 h4 hc
def isSumS (l : List C) : Bool := rightB l && sumAll l
end Go.Proofs.YtlfccjlifjppdaaGreatDoor
