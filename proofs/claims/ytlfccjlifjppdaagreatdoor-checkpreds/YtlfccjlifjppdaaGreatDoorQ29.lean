/- Contracts of the reference's wrong, Where and Program. Contract of Preds. How many clauses a program holds at most, by the bulk of what is handed in. Contract of Reached: the walk. What is reached, as a row: the plain side. Contract of Reached: the row itself, as a sequence. append onto a slice of one's own: where the new one lies elsewhere, what was there stays. Rows of numbers that are kept in a book: written over, grown, looked at. -/
import Derived.Test.YtlfccjlifjppdaaGreatDoorQ26
import Derived.Test.YtlfccjlifjppdaaGreatDoorQ27
import Derived.Test.YtlfccjlifjppdaaGreatDoorQ28
import Derived.Test.YtlfccjlifjppdaaGreatDoorQ20
import Derived.Test.YtlfccjlifjppdaaGreatDoorQ21
import Derived.Maps.AppendAt
import Derived.Maps.OwnRows
import Derived.Below
import Derived.OneCell
import Derived.Deep.MidRow
namespace Go.Proofs.YtlfccjlifjppdaaGreatDoor
open Go.RowKit
attribute [local go_sem ↓] Go.wp_at_zero Go.wp_at_succ
theorem z31 (cs : List Cl) (hl : cs.length ≤ 64) (v : Value) (W : World) (hP : ProgAt W v cs) (k : Nat) (hk : k < 6) (hn : ∀ j, j < k → idxK (stp cs j) cs = -1) (x : ClV) (c : Cl) (hm : c ∈ cs) (hC : ClAt W x c) :
    Calls Tryz.prog 31 #[v, .agg #[x.hv, x.gv, x.bv, .int .i64 x.n], .int .i64 (errS k)] W fun e w' => e = .returned (.bool (stp cs k c)) ∧ Below W.heap.size W w' := by
  obtain ⟨h1, h2, h3, h4⟩ := hC
  rw [h4]
  match k, hk, hn with
  | 0, _, _ =>
    have e : stp cs 0 c = longS c.gs.length c.bs.length c.n := by
      show step0 cs c = _
      unfold step0
      have : ¬ ((64 : Int) < (cs.length : Int)) := by omega
      simp [this]
    obtain ⟨a1, c1, e1⟩ := h1.form
    obtain ⟨a2, c2, e2⟩ := h2.form
    obtain ⟨a3, c3, e3⟩ := h3.form
    rw [e, e1, e2, e3]
    exact z31_5 v a1 a2 a3 _ c1 _ c2 _ c3 c.n W
  | 1, _, _ => exact z31_6 c x.hv x.gv x.bv v W h1 h2 h3
  | 2, _, hn =>
    have hr := mis_head (idxK_neg (hn 1 (by omega)) c hm)
    obtain ⟨a2, c2, e2⟩ := h2.form
    obtain ⟨a3, c3, e3⟩ := h3.form
    rw [e2, e3]
    exact z31_40 c.hd x.hv v a2 a3 _ c2 _ c3 c.n W h1 hr
  | 3, _, hn =>
    have hr := mis_head (idxK_neg (hn 1 (by omega)) c hm)
    exact z31_41 c x.hv x.gv x.bv v W h1 h2 h3 hr
  | 4, _, _ => exact z31_42 c x.hv x.gv x.bv v W h1 h2 h3
  | 5, _, hn =>
    have h0 := idxK_neg (hn 0 (by omega)) c hm
    have hb : c.bs.length ≤ 8 := by
      have h0' : step0 cs c = false := h0
      unfold step0 longS at h0'
      simp at h0'
      omega
    exact z31_43 cs c x.hv x.gv x.bv v W hP (by omega) h1 h2 h3 (by omega)
def wayVals : List Value := [.int .i64 5, .int .i64 6, .int .i64 40, .int .i64 41, .int .i64 42, .int .i64 43]
theorem way_at (k : Nat) (hk : k < 6) : wayVals[k]? = some (.int .i64 (errS k)) := by
  match k, hk with
  | 0, _ => rfl
  | 1, _ => rfl
  | 2, _ => rfl
  | 3, _ => rfl
  | 4, _ => rfl
  | 5, _ => rfl
theorem where_long {cs : List Cl} (h : 64 < cs.length) : IsWhere cs 0 5 := by
  refine .inl ⟨0, by omega, fun j hj => by omega, ?_, ?_, rfl⟩
  all_goals (
    have h0 : idxK (stp cs 0) cs = ((0 : Nat) : Int) := idxK_at (stp cs 0) cs 0 (by omega) (fun j hj hj2 => by omega) (by
      show step0 cs _ = true
      unfold step0
      have : (64 : Int) < (cs.length : Int) := by omega
      simp [this])
    rw [h0]
    simp)
set_option maxRecDepth 100000 in
set_option maxHeartbeats 4000000 in
theorem z8 (cs : List Cl) (v : Value) (w : World) (hP : ProgAt w v cs) :
    Calls Tryz.prog 8 #[v] w fun e w' => ∃ n er, e = .returned (.tuple #[.int .i64 n, .int .i64 er]) ∧ IsWhere cs n er ∧ Below w.heap.size w w' := by
  have HP : Hid (ProgAt w v cs) := hP
  have hcm : cs.length ≤ maxLen := hP.1
  unfold maxLen at hcm
  obtain ⟨ad, cap, hv⟩ := hP.form
  subst hv
  clear hP
  by_cases h64 : 64 < cs.length
  · have HW : Hid (IsWhere cs 0 5) := where_long h64
    have h64' : (64 : Int) < (cs.length : Int) := by omega
    go_enter Tryz.func8, Tryz.ntmps8
    go_wp2_with fail
    exact bodyPost_ret (v := .tuple #[.int .i64 0, .int .i64 5]) (by simp [results, Tryz.results8, go_sem]) rfl ⟨_, _, rfl, HW.out, Below.refl _ _⟩
  · have h64' : ¬ ((64 : Int) < (cs.length : Int)) := by omega
    have HB0 : Hid (Below w.heap.size w (w.alloc (.cells #[.int .i64 5, .int .i64 6, .int .i64 40, .int .i64 41, .int .i64 42, .int .i64 43] 25))) := below_alloc w _
    have HBox : Hid (∀ W, Below (w.heap.size + 1) (w.alloc (.cells #[.int .i64 5, .int .i64 6, .int .i64 40, .int .i64 41, .int .i64 42, .int .i64 43] 25)) W → ∀ j, j < 6 → W.cell? ⟨w.heap.size, j, none⟩ = some (.int .i64 (errS j))) := fun W hW j hj => by
      have e1 : W.heap[w.heap.size]? = some (.cells #[.int .i64 5, .int .i64 6, .int .i64 40, .int .i64 41, .int .i64 42, .int .i64 43] 25 (0, 0)) := (hW.block w.heap.size (by omega)).trans (heap_alloc_new w _)
      rw [cell_of_row W _ j _ 25 (0, 0) e1]
      simpa [wayVals] using way_at j hj
    go_enter Tryz.func8, Tryz.ntmps8
    go_wp2_with fail
    go_loopw [5] (fun i wr => ∃ j : Nat, j ≤ 6 ∧ i = .int .i64 j ∧ Hid (∀ m, m < j → idxK (stp cs m) cs = -1) ∧ w.heap.size + 1 ≤ wr.heap.size ∧ Below (w.heap.size + 1) (w.alloc (.cells #[.int .i64 5, .int .i64 6, .int .i64 40, .int .i64 41, .int .i64 42, .int .i64 43] 25)) wr) (fun i _ => 6 - (intOf i).toNat)
    case atStart => exact ⟨0, by omega, rfl, fun j hj => by omega, by simp, Below.refl _ _⟩
    case round =>
      obtain ⟨j, hj, rfl, HI, hsz, hbr0⟩ := hrel
      have hbr : Below w.heap.size w wr := HB0.out.trans (hbr0.mono (by omega))
      by_cases hlt : j < 6
      · have hlt' : (j : Int) < 6 := by omega
        have hj0 : (0 : Int) ≤ (j : Int) := by omega
        go_wp2_with fail
        go_loopw [6] (fun i wr => ∃ k : Nat, k ≤ cs.length ∧ i = .int .i64 k ∧ Hid (noneUptoK (stp cs j) cs k) ∧ w.heap.size + 1 ≤ wr.heap.size ∧ Below (w.heap.size + 1) (w.alloc (.cells #[.int .i64 5, .int .i64 6, .int .i64 40, .int .i64 41, .int .i64 42, .int .i64 43] 25)) wr) (fun i _ => cs.length - (intOf i).toNat)
        case atStart => exact ⟨0, by omega, rfl, fun m hm h => by omega, hsz, hbr0⟩
        case round =>
          obtain ⟨k, hk, rfl, HI2, hsz2, hbr2⟩ := hrel
          have hbrw : Below w.heap.size w wr := HB0.out.trans (hbr2.mono (by omega))
          have hway := HBox.out wr hbr2 j hlt
          have hwl : w.heap.size < wr.heap.size := by omega
          by_cases hltk : k < cs.length
          · have hltk' : (k : Int) < (cs.length : Int) := by omega
            have hk0 : (0 : Int) ≤ (k : Int) := by omega
            obtain ⟨b, o, cp, y, hu, ⟨p0, p1, p2, p3⟩, hC, hb⟩ := prog_at (HP.out.below hbrw) k hltk
            simp only [Value.slice.injEq] at hu
            obtain ⟨rfl, _, rfl⟩ := hu
            have H31 : Hid (∀ W, Below wr.heap.size wr W → Calls Tryz.prog 31 #[.slice (some ⟨b, o, none⟩) cs.length cap, .agg #[y.hv, y.gv, y.bv, .int .i64 y.n], .int .i64 (errS j)] W fun e w' => e = .returned (.bool (stp cs j cs[k])) ∧ Below W.heap.size W w') := fun W hW => z31 cs (by omega) _ W ((HP.out.below hbrw).below hW) j hlt HI.out y cs[k] (List.getElem_mem hltk) (hC.below hW)
            obtain ⟨a1, c1, e1⟩ := hC.1.form
            obtain ⟨a2, c2, e2⟩ := hC.2.1.form
            obtain ⟨a3, c3, e3⟩ := hC.2.2.1.form
            rw [e1, e2, e3] at H31
            rw [e1] at p0
            rw [e2] at p1
            rw [e3] at p2
            clear hC e1 e2 e3
            generalize y.n = yn at *
            have HDone : Hid (stp cs j cs[k] = true → IsWhere cs (k : Int) (errS j)) := fun h => by
              have e := idxK_at (stp cs j) cs k hltk HI2.out h
              exact .inl ⟨j, hlt, HI.out, by omega, e.symm, rfl⟩
            have HNext : Hid (stp cs j cs[k] = false → noneUptoK (stp cs j) cs (k + 1)) := fun h m hm h2 => if e : m = k then by subst e; exact h else HI2.out m hm (by omega)
            generalize cs[k].hd.length = l1 at *
            generalize cs[k].gs.length = l2 at *
            generalize cs[k].bs.length = l3 at *
            generalize hes : errS j = er at *
            cases hq : stp cs j cs[k]
            · have HN : Hid (noneUptoK (stp cs j) cs (k + 1)) := HNext.out hq
              rw [hq] at H31
              clear hq HDone HNext
              go_wp2_with fail
              first
                | go_region_with (go_at_call 31; refine (H31.out _ (Below.drew (Below.refl _ _))).mono ?_; rintro e w2 ⟨rfl, hb2⟩)
                | fail
              all_goals (
                have hb2' : Below wr.heap.size wr w2 := (Below.drew (Below.refl _ _)).trans hb2
                have hszn := Nat.le_trans hsz2 hb2'.size
                go_wp2_with fail
                go_roundw
                case rel => exact ⟨k + 1, by omega, by go_num, HN, hszn, hbr2.trans (hb2'.mono hsz2)⟩
                case measure => simp [intOf]; omega)
            · have HN : Hid (IsWhere cs (k : Int) er) := HDone.out hq
              rw [hq] at H31
              clear hq HDone HNext
              go_wp2_with fail
              first
                | go_region_with (go_at_call 31; refine (H31.out _ (Below.drew (Below.refl _ _))).mono ?_; rintro e w2 ⟨rfl, hb2⟩)
                | fail
              all_goals (
                have hb2' : Below wr.heap.size wr w2 := (Below.drew (Below.refl _ _)).trans hb2
                have hway2 : w2.cell? ⟨w.heap.size, j, none⟩ = some (.int .i64 er) := (hb2'.cell (p := ⟨w.heap.size, j, none⟩) hwl).trans hway
                have hbf : Below w.heap.size w w2 := hbrw.trans (hb2'.mono hbrw.size)
                go_wp2_with fail
                go_quiet (fail)
                go_wp2_with fail
                exact bodyPost_ret (v := .tuple #[.int .i64 (k : Int), .int .i64 er]) (by simp [results, Tryz.results8, go_sem]) rfl ⟨_, _, rfl, HN.out, below_dN hbf _⟩)
          · have hltk' : ¬ ((k : Int) < (cs.length : Int)) := by omega
            have HN : Hid (∀ m, m < j + 1 → idxK (stp cs m) cs = -1) := fun m hm => if e : m = j then by
                subst e
                exact idxK_none (stp cs m) cs (by have := HI2.out; rwa [show k = cs.length by omega] at this)
              else HI.out m (by omega)
            go_wp2_with fail
            go_roundw
            case rel => exact ⟨j + 1, by omega, by go_num, HN, hsz2, hbr2⟩
            case measure => simp [intOf]; omega
      · have hlt' : ¬ ((j : Int) < 6) := by omega
        have HN : Hid (IsWhere cs 0 0) := .inr ⟨fun m hm => HI.out m (by omega), rfl, rfl⟩
        go_wp2_with fail
        exact bodyPost_ret (v := .tuple #[.int .i64 0, .int .i64 0]) (by simp [results, Tryz.results8, go_sem]) rfl ⟨_, _, rfl, HN.out, hbr⟩
set_option maxRecDepth 100000 in
theorem z11 (cs : List Cl) (v : Value) (w : World) (hP : ProgAt w v cs) :
    Calls Tryz.prog 11 #[v] w fun e w' => ∃ n er, e = .returned (.int .i64 er) ∧ IsWhere cs n er ∧ Below w.heap.size w w' := by
  have H := z8 cs v w hP
  obtain ⟨ad, cap, hv⟩ := hP.form
  subst hv
  clear hP
  go_enter Tryz.func11, Tryz.ntmps11
  go_wp2_with fail
  refine H.mono ?_
  rintro e w1 ⟨n, er, rfl, hI, hb1⟩
  have HI : Hid (IsWhere cs n er) := hI
  clear hI
  go_wp2_with fail
  go_ret
  exact ⟨n, er, rfl, HI.out, hb1⟩
end Go.Proofs.YtlfccjlifjppdaaGreatDoor
namespace Go.Proofs.YtlfccjlifjppdaaGreatDoor
open Go.RowKit
attribute [local go_sem ↓] Go.wp_at_zero Go.wp_at_succ
def headsS (cs : List Cl) : List Pd := (cs.filter fun c => hasNameS c.hd).map fun c => predS c.hd
def headsA (pss : List (List Cl)) : List Pd := pss.flatMap headsS
/-- A row of programs in memory, one at least. -/
def ProgsAt (w : World) (v : Value) (pss : List (List Cl)) : Prop :=
  ∃ (b o cap : Nat) (vs : List Value), v = .slice (some ⟨b, o, none⟩) pss.length cap ∧ b < w.heap.size ∧ vs.length = pss.length ∧ w.rangeAt b o vs ∧ ∀ (i : Nat) (u : Value) (p : List Cl), vs[i]? = some u → pss[i]? = some p → ProgAt w u p
theorem progs_at {w : World} {v : Value} {pss : List (List Cl)} (h : ProgsAt w v pss) (i : Nat) (hi : i < pss.length) : ∃ b o cap u, v = .slice (some ⟨b, o, none⟩) pss.length cap ∧ w.cell? ⟨b, o + i, none⟩ = some u ∧ ProgAt w u pss[i] := by
  obtain ⟨b, o, cap, vs, h1, h2, h3, h4, h5⟩ := h
  have hv : i < vs.length := by omega
  exact ⟨b, o, cap, vs[i], h1, h4 i _ (List.getElem?_eq_getElem hv), h5 i _ _ (List.getElem?_eq_getElem hv) (List.getElem?_eq_getElem hi)⟩
theorem ProgsAt.below {w w' : World} {v : Value} {pss : List (List Cl)} (h : ProgsAt w v pss) (hb : Below w.heap.size w w') : ProgsAt w' v pss := by
  obtain ⟨b, o, cap, vs, h1, h2, h3, h4, h5⟩ := h
  exact ⟨b, o, cap, vs, h1, Nat.lt_of_lt_of_le h2 hb.size, h3, range_below h4 h2 hb, fun i u p hu hp => (h5 i u p hu hp).below hb⟩
theorem heads_snoc (p : List Cl) (k : Nat) (hk : k < p.length) : headsS (p.take (k + 1)) = headsS (p.take k) ++ (if hasNameS p[k].hd then [predS p[k].hd] else []) := by
  unfold headsS
  rw [List.take_succ_eq_append_getElem hk, List.filter_append, List.map_append]
  cases h : hasNameS p[k].hd <;> simp [h]
theorem headsA_snoc (pss : List (List Cl)) (k : Nat) (hk : k < pss.length) : headsA (pss.take (k + 1)) = headsA (pss.take k) ++ headsS pss[k] := by
  unfold headsA
  rw [List.take_succ_eq_append_getElem hk, List.flatMap_append]
  simp
theorem heads_le (p : List Cl) (k : Nat) : (headsS (p.take k)).length ≤ (headsS p).length := by
  have e : headsS p = headsS (p.take k) ++ headsS (p.drop k) := by
    unfold headsS
    rw [← List.map_append, ← List.filter_append, List.take_append_drop]
  rw [e, List.length_append]; omega
theorem headsA_le (pss : List (List Cl)) (k : Nat) : (headsA (pss.take k)).length ≤ (headsA pss).length := by
  have e : headsA pss = headsA (pss.take k) ++ headsA (pss.drop k) := by
    unfold headsA
    rw [← List.flatMap_append, List.take_append_drop]
  rw [e, List.length_append]; omega
set_option maxRecDepth 100000 in
set_option maxHeartbeats 4000000 in
theorem k16p (pss : List (List Cl)) (v : Value) (w : World) (hP : ProgsAt w v pss) (hW : ∀ p ∈ pss, ∀ c ∈ p, hasNameS c.hd = true → wfP (predS c.hd)) (hN : (headsA pss).length ≤ 1000000000) (hl : pss.length ≤ 1000000000) :
    Calls Tryz.prog 16 #[v] w fun e w' => ∃ u, e = .returned u ∧ w'.ownsRow w.heap.size 61 2 u ((headsA pss).foldl addP []).length (flatP ((headsA pss).foldl addP [])) ∧ Below w.heap.size w w' := by
  have HP : Hid (ProgsAt w v pss) := hP
  have HW : Hid (∀ p ∈ pss, ∀ c ∈ p, hasNameS c.hd = true → wfP (predS c.hd)) := hW
  have HN : Hid ((headsA pss).length ≤ 1000000000) := hN
  obtain ⟨b0, o0, cap0, _, hv, _⟩ := hP
  subst hv
  have HI0 : Hid (RowAny (w.alloc (.cells #[.slice none 0 0, .map none] 90)) w.heap.size w.heap.size ((headsA (pss.take 0)).foldl addP [])) := .inl ⟨rfl, heap_alloc_new w _, Nat.le_refl _⟩
  have HB0 : Hid (Below w.heap.size w (w.alloc (.cells #[.slice none 0 0, .map none] 90))) := (Below.refl _ w).alloc (Nat.le_refl _) _
  clear hW hN
  go_enter Tryz.func16, Tryz.ntmps16
  go_wp2_with fail
  go_loopw [10] (fun i wr => ∃ k : Nat, k ≤ pss.length ∧ i = .int .i64 k ∧ Hid (RowAny wr w.heap.size w.heap.size ((headsA (pss.take k)).foldl addP [])) ∧ Below w.heap.size w wr) (fun i _ => pss.length - (intOf i).toNat)
  case atStart => exact ⟨0, by omega, rfl, HI0, HB0.out⟩
  case round =>
    obtain ⟨k, hk, rfl, HI, hbr⟩ := hrel
    by_cases hlt : k < pss.length
    · have hlt' : (k : Int) < (pss.length : Int) := by omega
      have hk0 : (0 : Int) ≤ (k : Int) := by omega
      obtain ⟨b, o, cp, u, hu, cu0, hPk⟩ := progs_at HP.out k hlt
      have cu : wr.cell? ⟨b, o + k, none⟩ = some u := (hbr.cell (p := ⟨b, o + k, none⟩) (World.block_lt_of_cell? w _ cu0)).trans cu0
      clear cu0
      simp only [Value.slice.injEq, Option.some.injEq, Addr.mk.injEq] at hu
      obtain ⟨⟨rfl, rfl, _⟩, _, rfl⟩ := hu
      have HPk : Hid (ProgAt w u pss[k]) := hPk
      have hpm : pss[k].length ≤ maxLen := hPk.1
      unfold maxLen at hpm
      have HWk : Hid (∀ c ∈ pss[k], hasNameS c.hd = true → wfP (predS c.hd)) := HW.out _ (List.getElem_mem hlt)
      have HS : Hid ((headsA (pss.take (k + 1))).foldl addP [] = (headsS pss[k]).foldl addP ((headsA (pss.take k)).foldl addP [])) := by
        show (headsA (pss.take (k + 1))).foldl addP [] = _
        rw [headsA_snoc pss k hlt, List.foldl_append]
      have HL : Hid (((headsA (pss.take k)).foldl addP []).length + (headsS pss[k]).length ≤ 1000000000) := by
        have h1 := foldP_len (headsA (pss.take k)) []
        have h2 := headsA_le pss (k + 1)
        rw [headsA_snoc pss k hlt, List.length_append] at h2
        have h3 := HN.out
        simp at h1
        show _ ≤ _
        omega
      obtain ⟨ap, cpp, hup⟩ := hPk.form
      subst hup
      clear hPk
      generalize (headsA (pss.take k)).foldl addP [] = acc0 at *
      generalize pss[k] = p at *
      go_wp2_with fail
      go_loopw [16] (fun i wr2 => ∃ j : Nat, j ≤ p.length ∧ i = .int .i64 j ∧ Hid (RowAny wr2 w.heap.size w.heap.size ((headsS (p.take j)).foldl addP acc0)) ∧ Below w.heap.size w wr2) (fun i _ => p.length - (intOf i).toNat)
      case atStart => exact ⟨0, by omega, rfl, HI.out, hbr⟩
      case round =>
        obtain ⟨j, hj, rfl, HI2, hbr2⟩ := hrel
        have hsz2 := hbr2.size
        by_cases hltj : j < p.length
        · have hltj' : (j : Int) < (p.length : Int) := by omega
          have hj0 : (0 : Int) ≤ (j : Int) := by omega
          obtain ⟨pb, po, pc, y, hy, ⟨p0, p1, p2, p3⟩, hC, hpb⟩ := prog_at (HPk.out.below hbr2) j hltj
          simp only [Value.slice.injEq] at hy
          obtain ⟨rfl, _, rfl⟩ := hy
          have HE := heads_snoc p j hltj
          have hle := heads_le p j
          have hcl : ((headsS (p.take j)).foldl addP acc0).length ≤ 1000000000 := by
            have h1 := foldP_len (headsS (p.take j)) acc0
            have h2 := HL.out
            omega
          have HWj : Hid (hasNameS p[j].hd = true → wfP (predS p[j].hd)) := HWk.out _ (List.getElem_mem hltj)
          obtain ⟨a1, c1, e1⟩ := hC.1.form
          obtain ⟨a2, c2, e2⟩ := hC.2.1.form
          obtain ⟨a3, c3, e3⟩ := hC.2.2.1.form
          have HT : Hid (TermAt wr y.hv p[j].hd) := hC.1
          rw [e1] at p0 HT
          rw [e2] at p1
          rw [e3] at p2
          clear hC e1 e2 e3
          generalize y.n = yn at *
          have HTa : Hid (TermAt (wr.alloc (.cells #[.slice a1 p[j].hd.length c1, .slice a2 p[j].gs.length c2, .slice a3 p[j].bs.length c3, .int .i64 yn] 66)) (.slice a1 p[j].hd.length c1) p[j].hd) := HT.out.below (below_alloc _ _)
          have H50 := k50 p[j].hd _ _ HTa.out
          have HIa : Hid (RowAny (wr.alloc (.cells #[.slice a1 p[j].hd.length c1, .slice a2 p[j].gs.length c2, .slice a3 p[j].bs.length c3, .int .i64 yn] 66)) w.heap.size w.heap.size ((headsS (p.take j)).foldl addP acc0)) := HI2.out.below (below_alloc _ _)
          have HBa : Hid (Below w.heap.size w (wr.alloc (.cells #[.slice a1 p[j].hd.length c1, .slice a2 p[j].gs.length c2, .slice a3 p[j].bs.length c3, .int .i64 yn] 66))) := hbr2.alloc hsz2 _
          have HBox : Hid (∀ W, Below (wr.alloc (.cells #[.slice a1 p[j].hd.length c1, .slice a2 p[j].gs.length c2, .slice a3 p[j].bs.length c3, .int .i64 yn] 66)).heap.size (wr.alloc (.cells #[.slice a1 p[j].hd.length c1, .slice a2 p[j].gs.length c2, .slice a3 p[j].bs.length c3, .int .i64 yn] 66)) W → W.cell? ⟨wr.heap.size, 0, none⟩ = some (.slice a1 p[j].hd.length c1)) := fun W hW => (box66 (hW.mono (by simp))).1
          have h0 : hasNameS p[j].hd = true → 0 < p[j].hd.length := fun h => by
            cases hh : p[j].hd with
            | nil => rw [hh] at h; simp [hasNameS] at h
            | cons _ _ => simp
          have H0 : Hid (hasNameS p[j].hd = true → 0 < p[j].hd.length) := h0
          have H55 : Hid (hasNameS p[j].hd = true → ∀ W, Below (wr.alloc (.cells #[.slice a1 p[j].hd.length c1, .slice a2 p[j].gs.length c2, .slice a3 p[j].bs.length c3, .int .i64 yn] 66)).heap.size (wr.alloc (.cells #[.slice a1 p[j].hd.length c1, .slice a2 p[j].gs.length c2, .slice a3 p[j].bs.length c3, .int .i64 yn] 66)) W → Calls Tryz.prog 40 #[.slice a1 p[j].hd.length c1] W fun e w' => e = .returned (.agg #[.string (predS p[j].hd).1, .int .i64 (predS p[j].hd).2]) ∧ Below W.heap.size W w') := fun h W hW => k55 p[j].hd _ W (HTa.out.below hW) (H0.out h)
          have HEq : Hid (headsS (p.take (j + 1)) = headsS (p.take j) ++ if hasNameS p[j].hd = true then [predS p[j].hd] else []) := HE
          clear HE h0 H0 HT
          generalize p[j].hd.length = q1 at *
          generalize p[j].gs.length = q2 at *
          generalize p[j].bs.length = q3 at *
          cases hn : hasNameS p[j].hd
          · have HF : Hid ((headsS (p.take (j + 1))).foldl addP acc0 = (headsS (p.take j)).foldl addP acc0) := by
              show (headsS (p.take (j + 1))).foldl addP acc0 = _
              rw [HEq.out, hn]; simp
            rw [hn] at H50
            clear hn HEq H55
            generalize (headsS (p.take j)).foldl addP acc0 = ac at *
            go_wp2_with fail
            refine H50.mono ?_
            rintro e w1 ⟨rfl, hb1⟩
            go_wp2_with fail
            go_roundw
            case rel => exact ⟨j + 1, by omega, by go_num, by rw [HF.out]; exact HIa.out.below hb1, HBa.out.trans (hb1.mono HBa.out.size)⟩
            case measure => simp [intOf]; omega
          · have HF : Hid ((headsS (p.take (j + 1))).foldl addP acc0 = addP ((headsS (p.take j)).foldl addP acc0) (predS p[j].hd)) := by
              show (headsS (p.take (j + 1))).foldl addP acc0 = _
              rw [HEq.out, hn]; simp
            have H55 := H55.out hn
            have HWx : Hid (wfP (predS p[j].hd)) := HWj.out hn
            rw [hn] at H50
            clear hn HEq HWj
            generalize (headsS (p.take j)).foldl addP acc0 = ac at *
            generalize predS p[j].hd = x at *
            have H55 : Hid (∀ W, _) := H55
            go_wp2_with fail
            refine H50.mono ?_
            rintro e w1 ⟨rfl, hb1⟩
            have q0 := HBox.out w1 hb1
            go_wp2_with fail
            refine (H55.out w1 hb1).mono ?_
            rintro e w2 ⟨rfl, hb2⟩
            have hb12 := hb1.trans (hb2.mono hb1.size)
            have hbw2 : Below w.heap.size w w2 := HBa.out.trans (hb12.mono HBa.out.size)
            have H39 := k39_one x ac w.heap.size w.heap.size w2 (HIa.out.below hb12) HWx.out (by omega) hbw2.size
            go_wp2_with fail
            refine H39.mono ?_
            rintro e w3 ⟨rfl, hA3, hb3⟩
            have HA3 : Hid (RowAny w3 w.heap.size w.heap.size (addP ac x)) := hA3
            clear hA3
            go_wp2_with fail
            go_roundw
            case rel => exact ⟨j + 1, by omega, by go_num, by rw [HF.out]; exact HA3.out, hbw2.trans hb3⟩
            case measure => simp [intOf]; omega
        · have hltj' : ¬ ((j : Int) < (p.length : Int)) := by omega
          have HF : Hid (RowAny wr w.heap.size w.heap.size ((headsA (pss.take (k + 1))).foldl addP [])) := by
            show RowAny _ _ _ _
            rw [HS.out]
            have h2 := HI2.out
            rwa [List.take_of_length_le (by omega)] at h2
          go_wp2_with fail
          go_roundw
          case rel => exact ⟨k + 1, by omega, by go_num, HF, hbr2⟩
          case measure => simp [intOf]; omega
    · have hlt' : ¬ ((k : Int) < (pss.length : Int)) := by omega
      rw [List.take_of_length_le (by omega)] at HI
      obtain ⟨lv, hc, hO⟩ := HI.out.cell
      have HO : Hid (wr.ownsRow w.heap.size 61 2 lv ((headsA pss).foldl addP []).length (flatP ((headsA pss).foldl addP []))) := hO
      clear hO
      go_wp2_with fail
      go_ret
      exact ⟨_, rfl, HO.out, hbr⟩
end Go.Proofs.YtlfccjlifjppdaaGreatDoor
namespace Go.Proofs.YtlfccjlifjppdaaGreatDoor
open Go.ChangeShapes Go.WideShapes Go.ChangeAt Go.RowKit Go.Joins Go.Deep Go.Proofs.YtlfccjlifjppdaaGreatDoor.Laid
theorem cells34 : Tryz.prog.cellsOf 34 = 4 := by kernel_rfl
section
variable {H : Type} {enc : TypeId × Value → H} {w : World} {base : Nat} {sp : Nat → Bool} {held : Bool}
theorem prog_len {fuel : Nat} {v : Value} {x : DataW H × List MemPlace} {cs : List Cl}
    (h : DataW.trod enc Tryz.prog w base (fun _ => true) held fuel 23 [v] = some x) (hP : ProgAt w v cs) : cs.length ≤ Rows.uptoBulk x.1 := by
  obtain ⟨ad, cp, hf⟩ := hP.form
  rcases open_slice Tryz.underlying23 h with ⟨hcs, hx⟩ | ⟨a, len, cap, m, n, D, Pl, hcs, _, hl, hmx, hm, hx, hel⟩
  · simp only [List.cons.injEq, and_true] at hcs
    rw [hf] at hcs
    simp at hcs
    rw [hcs.2.1]
    simp
  · simp only [List.cons.injEq, and_true] at hcs
    rw [hf] at hcs
    simp at hcs
    rw [hx]
    simp only [Rows.uptoBulk]
    have := bulkAll_len ((List.range len).map D)
    simp only [List.length_map, List.length_range] at this
    omega
end
theorem mem_goals : ∀ (cs : List Cl) (c : Cl), c ∈ cs → c.bs.length ≤ goals cs
  | [], _, h => by simp at h
  | a :: r, c, h => by
    simp only [goals, List.map_cons, List.sum_cons]
    rcases List.mem_cons.1 h with rfl | h
    · omega
    · have := mem_goals r c h
      unfold goals at this
      omega
theorem headsS_len (cs : List Cl) : (headsS cs).length ≤ cs.length := by
  unfold headsS
  rw [List.length_map]
  exact List.length_filter_le _ _
theorem heads_two (cs ds : List Cl) : (headsA [cs, ds]).length ≤ cs.length + ds.length := by
  unfold headsA
  simp only [List.flatMap_cons, List.flatMap_nil, List.append_nil, List.length_append]
  have h1 := headsS_len cs
  have h2 := headsS_len ds
  omega
end Go.Proofs.YtlfccjlifjppdaaGreatDoor
namespace Go.Proofs.YtlfccjlifjppdaaGreatDoor
open Go.RowKit
attribute [local go_sem ↓] Go.wp_at_zero Go.wp_at_succ
theorem groups_at_seg {w w' : World} {M n : Nat} {D : DataW Unit} {key : Value} {kl : Lit} (h : w.ownsGroups (H := Unit) Tryz.prog 61 (M + 1) 3 .i64 M n D) (hs : w.heap.size ≤ w'.heap.size) (he : ∀ k, M ≤ k → k < w.heap.size → w'.heap[k]? = w.heap[k]?) (hn : n < maxLen) (hkey : keyOf Tryz.prog 61 key = some kl) :
    ∃ v zs, (Instr.lookup 85 (.map (some M)) key false).run Tryz.prog w' = .ok v w' ∧ D.atKey kl .nil = rowDatum .i64 v zs ∧ w'.ownsInts (M + 1) 3 .i64 v zs ∧ zs.length ≤ n ∧ ∀ g, v.ownBlock = some g → M ≤ g ∧ g < w.heap.size := by
  have h' := groups_seg h hs he
  obtain ⟨v, zs, hrun, hat, hoi, hzl, _⟩ := h'.at keyed40 Tryz.underlying85 (zero44 _) hn hkey
  refine ⟨v, zs, hrun, hat, hoi, hzl, ?_⟩
  obtain ⟨es, clock, hb, F, _⟩ := h
  have hb' : w'.heap[M]? = some (.map es clock) := (he M (Nat.le_refl _) (Array.getElem?_eq_some_iff.1 hb).1).trans hb
  obtain ⟨es', clock', hb2, F2, _⟩ := h'
  rw [hb'] at hb2
  simp only [Option.some.injEq, Obj.map.injEq] at hb2
  obtain ⟨rfl, rfl⟩ := hb2
  rcases Maps.fit_look false keyed40 Tryz.underlying85 (zero44 w') hb' F2 hkey with ⟨hr, _, _⟩ | ⟨e0, y, hm0, h3, hr, _⟩
  · rw [hrun] at hr
    obtain rfl : v = .slice none 0 0 := by simpa using hr
    intro g hg
    simp [Value.ownBlock] at hg
  · rw [hrun] at hr
    obtain rfl : v = e0.val := by simpa using hr
    intro g hg
    obtain ⟨y, hy⟩ := F.reads e0 hm0
    obtain ⟨z, hz, _⟩ := WideElems.rd_val hy
    obtain ⟨zs0, ho0, _⟩ := rowElem_inv hz
    have := ho0.1.lt g hg
    exact ⟨by omega, this.2⟩
theorem ints_seg {w w' : World} {base : Nat} {v : Value} {zs : List Int} (h : w.ownsInts base 3 .i64 v zs) (hg : ∀ g, v.ownBlock = some g → w'.heap[g]? = w.heap[g]?) : w'.ownsInts base 3 .i64 v zs := by
  refine ⟨⟨h.1.1, ?_⟩, h.2⟩
  rcases h.1.2 with hh | ⟨g, cap, cur, e1, e2, e3, e4⟩
  · exact .inl hh
  · exact .inr ⟨g, cap, cur, e1, e2, (hg g (by rw [e1]; rfl)).trans e3, e4⟩
set_option maxRecDepth 100000 in
set_option maxHeartbeats 4000000 in
theorem k18 (cs : List Cl) (F : Fits cs) (ls : List (List C)) (v vl : Value) (w : World) (hP : ProgAt w v cs) (hR : RowAt w vl ls) (hS : Signs w) (hls : ls.length ≤ 5864062014805) (hW : ∀ y ∈ calledS ls, wfP y) (hU : (univ cs ls).length ≤ 1000000000) :
    Calls Tryz.prog 22 #[v, vl] w fun e w' => ∃ u acc, e = .returned u ∧ PredsAt w' u acc ∧ Grows cs ls acc ∧ Done cs acc acc.length ∧ (∀ y ∈ acc, wfP y) ∧ Below w.heap.size w w' := by
  have HP : Hid (ProgAt w v cs) := hP
  have HS : Hid (Signs w) := hS
  have HF : Hid (Fits cs) := F
  have HU : Hid ((univ cs ls).length ≤ 1000000000) := hU
  have HWl : Hid (∀ y ∈ calledS ls, wfP y) := hW
  have hb0 : Below w.heap.size w (w.alloc (.cells #[.slice none 0 0, .map none] 90)) := (Below.refl _ w).alloc (Nat.le_refl _) _
  have HB0 : Hid (Below w.heap.size w (w.alloc (.cells #[.slice none 0 0, .map none] 90))) := hb0
  have H38 := k38 ls vl (w.alloc (.cells #[.slice none 0 0, .map none] 90)) (hR.below hb0) (hS.below hb0) hls
  have HR0 : Hid ((w.alloc (.cells #[.slice none 0 0, .map none] 90)).heap[w.heap.size]? = some (.cells #[.slice none 0 0, .map none] 90 (0, 0))) := heap_alloc_new w _
  have HCl : Hid ((calledS ls).length ≤ 1000000000) := by
    have : (calledS ls).length ≤ (univ cs ls).length := by unfold univ; rw [List.length_append]; omega
    exact Nat.le_trans this hU
  obtain ⟨ad, cap, hv⟩ := hP.form
  obtain ⟨adl, capl, hvl⟩ := hR.form
  subst hv hvl
  clear hP hR hS F hW hU hb0
  go_enter Tryz.func22, Tryz.ntmps22
  go_wp2_with fail
  refine H38.mono ?_
  rintro e w1 ⟨u, rfl, hO, hb1⟩
  have H39 := k39_first (calledS ls) w.heap.size w.heap.size w1 _ u HR0.out (Nat.le_refl _) hO hb1 HWl.out (by have := HCl.out; omega) HB0.out.size
  have HB1 : Hid (Below w.heap.size w w1) := HB0.out.trans (hb1.mono HB0.out.size)
  clear hO hb1 H38
  go_wp2_with fail
  refine H39.mono ?_
  rintro e w2 ⟨rfl, ⟨m, lv0, hRS⟩, hb2⟩
  have HB2 : Hid (Below w.heap.size w w2) := HB1.out.trans hb2
  have H40 := k40 cs _ w2 (HP.out.below HB2.out) HF.out.len HF.out.hw
  have HRS : Hid (RowSt w2 w.heap.size w.heap.size m lv0 ((calledS ls).foldl addP [])) := hRS
  clear hRS hb2 H39 HB1
  go_wp2_with fail
  refine H40.mono ?_
  rintro e w3 ⟨rfl, ⟨D, hG, hD⟩, hb3⟩
  have HG : Hid (w3.ownsGroups (H := Unit) Tryz.prog 61 (w2.heap.size + 1) 3 .i64 w2.heap.size cs.length D ∧ GrpOf D cs cs.length) := ⟨hG, hD⟩
  have HB3 : Hid (Below w.heap.size w w3) := HB2.out.trans (hb3.mono HB2.out.size)
  have HRS3 : Hid (RS w3 w3 w.heap.size w.heap.size m w2.heap.size lv0 ((calledS ls).foldl addP [])) := by
    refine ⟨HRS.out.below hb3, Nat.le_refl _, fun k h1 h2 => ⟨rfl, fun e => ?_⟩, ?_, ?_⟩
    · have := (HRS.out.2.2.2.1.lt k e).2; omega
    · exact (Array.getElem?_eq_some_iff.1 HRS.out.1).1
    · obtain ⟨es, ck, hh, _⟩ := HRS.out.2.2.2.2.1
      exact (Array.getElem?_eq_some_iff.1 hh).1
  have hsz3 : w.heap.size ≤ w3.heap.size := HB3.out.size
  clear hG hD hb3 H40 HRS HB2
  generalize w2.heap.size = M at *
  go_wp2_with fail
  go_loopw [7] (fun iv wr => ∃ (i : Nat) (lv : Value) (acc : List Pd), iv = .int .i64 i ∧ i ≤ acc.length ∧ acc.length ≤ (univ cs ls).length ∧ Hid (RS w3 wr w.heap.size w.heap.size m M lv acc ∧ Grows cs ls acc ∧ Done cs acc i) ∧ Below w.heap.size w wr) (fun iv _ => (univ cs ls).length - (intOf iv).toNat)
  case atStart => exact ⟨0, lv0, _, rfl, by omega, (Grows.start cs ls).len, ⟨HRS3.out, Grows.start cs ls, fun j x hj => by omega⟩, HB3.out⟩
  case round =>
    obtain ⟨i, lv, acc, rfl, hia, hau, HI, hbr⟩ := hrel
    have hUn := HU.out
    have hsz := hbr.size
    obtain ⟨cR0, cR1, fR⟩ := HI.out.1.row.cells
    have hlvf : ∃ adv cpv, lv = .slice adv acc.length cpv := by
      rcases HI.out.1.row.2.2.2.1.2 with ⟨h1, h2⟩ | ⟨g, c, cur, h1, _⟩
      · exact ⟨none, 0, by rw [h1, h2]⟩
      · exact ⟨_, _, h1⟩
    obtain ⟨adv, cpv, hlv⟩ := hlvf
    by_cases hlt : i < acc.length
    · have hlt' : (i : Int) < (acc.length : Int) := by omega
      have hi0 : (0 : Int) ≤ (i : Int) := by omega
      have hpa : PredsAt wr lv acc := predsAt_of_owns HI.out.1.row.2.2.2.1 (by have := HU.out; unfold maxLen; omega)
      obtain ⟨pb, po, pc, hpv, q0, q1⟩ := preds_at hpa i hlt
      have hwx : wfP acc[i] := HI.out.1.row.2.2.2.2.2 _ (List.getElem_mem hlt)
      obtain ⟨vz, zs, hrun, hat, hoi, hzl, hown⟩ := groups_at_seg HG.out.1 HI.out.1.size (fun k k1 k2 => (HI.out.1.seg k k1 k2).1) (by have := HF.out.len; unfold maxLen; omega) (key40 acc[i] hwx)
      have hzs : zs = idxG cs acc[i] cs.length := rowG_inv hoi ((HG.out.2.2 acc[i] hwx).symm.trans hat)
      have HInt : Hid (w3.ownsInts (M + 1) 3 .i64 vz zs ∧ ∀ g, vz.ownBlock = some g → M ≤ g ∧ g < w3.heap.size) := ⟨ints_seg hoi (fun g hg => ((HI.out.1.seg g (hown g hg).1 (hown g hg).2).1).symm), hown⟩
      have HAi : Hid (acc[i]? = some acc[i]) := List.getElem?_eq_getElem hlt
      unfold Pd.val at hrun
      obtain ⟨adz, cpz, hvz⟩ := (show IntsAt w3 vz zs from ⟨_, HInt.out.1⟩).form
      have hzl' : zs.length ≤ 1759218604441 := Nat.le_trans hzl HF.out.len
      have HZs : Hid (zs = idxG cs acc[i] cs.length) := hzs
      have HT0 : Hid (∀ k, M ≤ k → k < w3.heap.size → lv.ownBlock ≠ some k) := fun k k1 k2 => (HI.out.1.seg k k1 k2).2
      subst hvz
      rw [hpv] at cR0
      have HLv : Hid (lv = .slice (some ⟨pb, po, none⟩) acc.length pc) := hpv
      clear hoi hat hown hzs hlv hpa hpv
      generalize hxi : acc[i] = x at *
      go_wp2_with fail
      go_loopw [30] (fun jv wr2 => ∃ (j : Nat) (lv2 : Value) (acc2 : List Pd), jv = .int .i64 j ∧ j ≤ zs.length ∧ i < acc2.length ∧ acc2.length ≤ (univ cs ls).length ∧ Hid (RS w3 wr2 w.heap.size w.heap.size m M lv2 acc2 ∧ Grows cs ls acc2 ∧ Done cs acc2 i ∧ acc2[i]? = some x ∧ Half cs acc2 x j) ∧ Below w.heap.size w wr2) (fun jv _ => zs.length - (intOf jv).toNat)
      case atStart => exact ⟨0, lv, acc, rfl, by omega, hlt, hau, ⟨HI.out.1, HI.out.2.1, HI.out.2.2, HAi.out, fun i2 z h => by omega⟩, hbr⟩
      case round =>
        obtain ⟨j, lv2, acc2, rfl, hj, hi2, hau2, HI2, hbr2⟩ := hrel
        have hsz2 := hbr2.size
        by_cases hjt : j < zs.length
        · have hjt' : (j : Int) < (zs.length : Int) := by omega
          have hj0 : (0 : Int) ≤ (j : Int) := by omega
          have hIA : IntsAt wr (.slice adz zs.length cpz) zs := ⟨_, ints_seg HInt.out.1 (fun g hg => (HI2.out.1.seg g (HInt.out.2 g hg).1 (HInt.out.2 g hg).2).1)⟩
          obtain ⟨zb, zc, hzv, cz, _⟩ := ints_at hIA j hjt
          simp only [Value.slice.injEq] at hzv
          obtain ⟨rfl, _, rfl⟩ := hzv
          obtain ⟨n, c, hn, hzn, hcn, hck⟩ := idxG_mem cs x zs[j] cs.length (by rw [← HZs.out]; exact List.getElem_mem hjt)
          have hcm : c ∈ cs := List.mem_of_getElem? hcn
          have hcc : cs[n] = c := by rw [List.getElem?_eq_getElem hn] at hcn; exact Option.some.inj hcn
          obtain ⟨qb, qo, qc, xx, hpv', ⟨p0, p1, p2, p3⟩, ⟨_, _, hbv, _⟩, hbw⟩ := prog_at (HP.out.below hbr2) n hn
          simp only [Value.slice.injEq] at hpv'
          obtain ⟨rfl, _, rfl⟩ := hpv'
          have H38 := k38 c.bs xx.bv wr (hcc ▸ hbv) (HS.out.below hbr2) (HF.out.bl c hcm)
          have hn' : (n : Int) < (cs.length : Int) := by omega
          have hn0 : (0 : Int) ≤ (n : Int) := by omega
          have HNew : Hid (Grows cs ls ((calledS c.bs).foldl addP acc2) ∧ Done cs ((calledS c.bs).foldl addP acc2) i ∧ ((calledS c.bs).foldl addP acc2)[i]? = some x ∧ Half cs ((calledS c.bs).foldl addP acc2) x (j + 1)) := by
            obtain ⟨h1, h2, h3, h4, h5⟩ := HI2.out
            refine ⟨h2.add (List.mem_of_getElem? h4) hcn hck, h3.mono (by omega) _, ((foldP_prefix _ _).2 i hi2).trans h4, h5.mono (z := zs[j]) ?_ ?_⟩
            · rw [← HZs.out]; exact List.getElem?_eq_getElem hjt
            · rw [hzn]; simpa using hcn
          have HBd : Hid (acc2.length + (calledS c.bs).length ≤ 5864062014805 ∧ (∀ y ∈ calledS c.bs, wfP y) ∧ i < ((calledS c.bs).foldl addP acc2).length) := by
            have e1 := called_univ (ls := ls) hcm
            have e2 := HU.out
            have e3 := (foldP_prefix (calledS c.bs) acc2).1
            exact ⟨by omega, HF.out.pw c hcm, by omega⟩
          rw [hzn] at cz
          have HI2r : Hid (RS w3 wr w.heap.size w.heap.size m M lv2 acc2) := HI2.out.1
          clear hIA hzn hcc hck hcm hcn hbv HI2
          go_wp2_with fail
          refine H38.mono ?_
          rintro e w5 ⟨u, rfl, hO, hb5⟩
          have H39 := k39_rs (calledS c.bs) acc2 lv2 w.heap.size w.heap.size m M w3 w5 u wr HI2r.out hO hb5 HBd.out.2.1 HBd.out.1 hsz2
          have HB5 : Hid (Below w.heap.size w w5) := hbr2.trans (hb5.mono hsz2)
          clear hO hb5 H38
          go_wp2_with fail
          refine H39.mono ?_
          rintro e w6 ⟨rfl, ⟨lv', hRS⟩, hb6⟩
          have HN : Hid (RS w3 w6 w.heap.size w.heap.size m M lv' ((calledS c.bs).foldl addP acc2)) := hRS
          have HB6 : Hid (Below w.heap.size w w6) := HB5.out.trans hb6
          clear hRS hb6 H39
          go_wp2_with fail
          go_roundw
          case rel => exact ⟨j + 1, lv', _, by go_num, by omega, HBd.out.2.2, HNew.out.1.len, ⟨HN.out, HNew.out⟩, HB6.out⟩
          case measure => simp [intOf]; omega
        · have hjt' : ¬ ((j : Int) < (zs.length : Int)) := by omega
          have hjz : j = zs.length := by omega
          have HN : Hid (RS w3 wr w.heap.size w.heap.size m M lv2 acc2 ∧ Grows cs ls acc2 ∧ Done cs acc2 (i + 1)) := by
            obtain ⟨h1, h2, h3, h4, h5⟩ := HI2.out
            rw [hjz, HZs.out] at h5
            exact ⟨h1, h2, h3.next h4 h5⟩
          go_wp2_with fail
          go_roundw
          case rel => exact ⟨i + 1, lv2, acc2, by go_num, by omega, hau2, HN, hbr2⟩
          case measure => simp [intOf]; omega
    · have hlt' : ¬ ((i : Int) < (acc.length : Int)) := by omega
      have hil : i = acc.length := by omega
      have HN : Hid (PredsAt wr lv acc ∧ Grows cs ls acc ∧ Done cs acc acc.length ∧ ∀ y ∈ acc, wfP y) := by
        refine ⟨predsAt_of_owns HI.out.1.row.2.2.2.1 (by have := HU.out; unfold maxLen; omega), HI.out.2.1, by have := HI.out.2.2; rwa [hil] at this, HI.out.1.row.2.2.2.2.2⟩
      subst hlv
      clear HI
      go_wp2_with fail
      go_ret
      exact ⟨_, rfl, acc, HN.out.1, HN.out.2.1, HN.out.2.2.1, fun a b h => HN.out.2.2.2 (a, b) h, hbr⟩
end Go.Proofs.YtlfccjlifjppdaaGreatDoor
namespace Go.Proofs.YtlfccjlifjppdaaGreatDoor
open Go.RowKit
/-- What the body of one clause calls, put behind a row. -/
def stepZ (cs : List Cl) (acc : List Pd) (z : Int) : List Pd := match cs[z.toNat]? with
  | some c => (calledS c.bs).foldl addP acc
  | none => acc
def stepX (cs : List Cl) (x : Pd) (acc : List Pd) : List Pd := (idxG cs x cs.length).foldl (stepZ cs) acc
/-- The row behind i rounds: round i puts what the clauses of its i-th predicate call. -/
def seqR (cs : List Cl) (a0 : List Pd) : Nat → List Pd
  | 0 => a0
  | i + 1 => match (seqR cs a0 i)[i]? with
    | some x => stepX cs x (seqR cs a0 i)
    | none => seqR cs a0 i
theorem seqR_succ (cs : List Cl) (a0 : List Pd) (i : Nat) : seqR cs a0 (i + 1) = match (seqR cs a0 i)[i]? with | some x => stepX cs x (seqR cs a0 i) | none => seqR cs a0 i := rfl
theorem seqR_next {cs : List Cl} {a0 : List Pd} {i : Nat} {x : Pd} (h : (seqR cs a0 i)[i]? = some x) : seqR cs a0 (i + 1) = stepX cs x (seqR cs a0 i) := by
  rw [seqR_succ, h]
theorem seqR_stay (cs : List Cl) (a0 : List Pd) (i : Nat) (h : (seqR cs a0 i).length = i) (d : Nat) : seqR cs a0 (i + d) = seqR cs a0 i := by
  induction d with
  | zero => rfl
  | succ d ih =>
    show seqR cs a0 (i + d + 1) = _
    rw [seqR_succ, ih, List.getElem?_eq_none (by omega)]
theorem seqR_uniq {cs : List Cl} {a0 : List Pd} {i j : Nat} (hi : (seqR cs a0 i).length = i) (hj : (seqR cs a0 j).length = j) : seqR cs a0 i = seqR cs a0 j := by
  rcases Nat.le_total i j with h | h
  · obtain ⟨d, rfl⟩ := Nat.exists_eq_add_of_le h
    exact (seqR_stay cs a0 i hi d).symm
  · obtain ⟨d, rfl⟩ := Nat.exists_eq_add_of_le h
    exact seqR_stay cs a0 j hj d
theorem stepZ_at {cs : List Cl} {acc : List Pd} {z : Int} {c : Cl} (h : cs[z.toNat]? = some c) : stepZ cs acc z = (calledS c.bs).foldl addP acc := by
  unfold stepZ; rw [h]
theorem steps_snoc (cs : List Cl) (zs : List Int) (a : List Pd) (j : Nat) (hj : j < zs.length) : (zs.take (j + 1)).foldl (stepZ cs) a = stepZ cs ((zs.take j).foldl (stepZ cs) a) zs[j] := by
  rw [List.take_succ_eq_append_getElem hj, List.foldl_append]; rfl
theorem calledS_nodup (ls : List (List C)) : (calledS ls).Nodup := by
  have h : ∀ k, k ≤ ls.length → (calledS (ls.take k)).Nodup := by
    intro k
    induction k with
    | zero => intro _; exact List.nodup_nil
    | succ k ih =>
      intro hk
      have := ih (by omega)
      cases hc : callB ls[k]
      · rw [calledS_no ls k hk hc]; exact this
      · rw [calledS_yes ls k hk hc]; exact addP_nodup _ this
  have := h ls.length (Nat.le_refl _)
  rwa [List.take_length] at this
theorem foldP_self (xs acc : List Pd) (h : (acc ++ xs).Nodup) : xs.foldl addP acc = acc ++ xs := by
  induction xs generalizing acc with
  | nil => simp
  | cons a r ih =>
    have e : addP acc a = acc ++ [a] := by
      unfold addP
      have : hasP acc a ≠ true := fun hh => by
        have hm := (hasP_iff _ _).1 hh
        rw [List.nodup_append] at h
        exact h.2.2 a hm a (by simp) rfl
      simp [this]
    rw [List.foldl_cons, e, ih _ (by simpa using h)]
    simp
theorem called_self (ls : List (List C)) : (calledS ls).foldl addP [] = calledS ls := by
  rw [foldP_self _ _ (by simpa using calledS_nodup ls)]; rfl
end Go.Proofs.YtlfccjlifjppdaaGreatDoor
namespace Go.Proofs.YtlfccjlifjppdaaGreatDoor
open Go.RowKit
attribute [local go_sem ↓] Go.wp_at_zero Go.wp_at_succ
set_option maxRecDepth 100000 in
set_option maxHeartbeats 4000000 in
theorem k18r (cs : List Cl) (F : Fits cs) (ls : List (List C)) (v vl : Value) (w : World) (hP : ProgAt w v cs) (hR : RowAt w vl ls) (hS : Signs w) (hls : ls.length ≤ 5864062014805) (hW : ∀ y ∈ calledS ls, wfP y) (hU : (univ cs ls).length ≤ 1000000000) :
    Calls Tryz.prog 22 #[v, vl] w fun e w' => ∃ u acc, e = .returned u ∧ PredsAt w' u acc ∧ acc = seqR cs ((calledS ls).foldl addP []) acc.length ∧ Grows cs ls acc ∧ Below w.heap.size w w' := by
  have HP : Hid (ProgAt w v cs) := hP
  have HS : Hid (Signs w) := hS
  have HF : Hid (Fits cs) := F
  have HU : Hid ((univ cs ls).length ≤ 1000000000) := hU
  have HWl : Hid (∀ y ∈ calledS ls, wfP y) := hW
  have hb0 : Below w.heap.size w (w.alloc (.cells #[.slice none 0 0, .map none] 90)) := (Below.refl _ w).alloc (Nat.le_refl _) _
  have HB0 : Hid (Below w.heap.size w (w.alloc (.cells #[.slice none 0 0, .map none] 90))) := hb0
  have H38 := k38 ls vl (w.alloc (.cells #[.slice none 0 0, .map none] 90)) (hR.below hb0) (hS.below hb0) hls
  have HR0 : Hid ((w.alloc (.cells #[.slice none 0 0, .map none] 90)).heap[w.heap.size]? = some (.cells #[.slice none 0 0, .map none] 90 (0, 0))) := heap_alloc_new w _
  have HCl : Hid ((calledS ls).length ≤ 1000000000) := by
    have : (calledS ls).length ≤ (univ cs ls).length := by unfold univ; rw [List.length_append]; omega
    exact Nat.le_trans this hU
  obtain ⟨ad, cap, hv⟩ := hP.form
  obtain ⟨adl, capl, hvl⟩ := hR.form
  subst hv hvl
  clear hP hR hS F hW hU hb0
  go_enter Tryz.func22, Tryz.ntmps22
  go_wp2_with fail
  refine H38.mono ?_
  rintro e w1 ⟨u, rfl, hO, hb1⟩
  have H39 := k39_first (calledS ls) w.heap.size w.heap.size w1 _ u HR0.out (Nat.le_refl _) hO hb1 HWl.out (by have := HCl.out; omega) HB0.out.size
  have HB1 : Hid (Below w.heap.size w w1) := HB0.out.trans (hb1.mono HB0.out.size)
  clear hO hb1 H38
  go_wp2_with fail
  refine H39.mono ?_
  rintro e w2 ⟨rfl, ⟨m, lv0, hRS⟩, hb2⟩
  have HB2 : Hid (Below w.heap.size w w2) := HB1.out.trans hb2
  have H40 := k40 cs _ w2 (HP.out.below HB2.out) HF.out.len HF.out.hw
  have HRS : Hid (RowSt w2 w.heap.size w.heap.size m lv0 ((calledS ls).foldl addP [])) := hRS
  clear hRS hb2 H39 HB1
  go_wp2_with fail
  refine H40.mono ?_
  rintro e w3 ⟨rfl, ⟨D, hG, hD⟩, hb3⟩
  have HG : Hid (w3.ownsGroups (H := Unit) Tryz.prog 61 (w2.heap.size + 1) 3 .i64 w2.heap.size cs.length D ∧ GrpOf D cs cs.length) := ⟨hG, hD⟩
  have HB3 : Hid (Below w.heap.size w w3) := HB2.out.trans (hb3.mono HB2.out.size)
  have HRS3 : Hid (RS w3 w3 w.heap.size w.heap.size m w2.heap.size lv0 ((calledS ls).foldl addP [])) := by
    refine ⟨HRS.out.below hb3, Nat.le_refl _, fun k h1 h2 => ⟨rfl, fun e => ?_⟩, ?_, ?_⟩
    · have := (HRS.out.2.2.2.1.lt k e).2; omega
    · exact (Array.getElem?_eq_some_iff.1 HRS.out.1).1
    · obtain ⟨es, ck, hh, _⟩ := HRS.out.2.2.2.2.1
      exact (Array.getElem?_eq_some_iff.1 hh).1
  have hsz3 : w.heap.size ≤ w3.heap.size := HB3.out.size
  clear hG hD hb3 H40 HRS HB2
  generalize w2.heap.size = M at *
  go_wp2_with fail
  go_loopw [7] (fun iv wr => ∃ (i : Nat) (lv : Value) (acc : List Pd), iv = .int .i64 i ∧ i ≤ acc.length ∧ acc.length ≤ (univ cs ls).length ∧ Hid (RS w3 wr w.heap.size w.heap.size m M lv acc ∧ Grows cs ls acc ∧ acc = seqR cs ((calledS ls).foldl addP []) i) ∧ Below w.heap.size w wr) (fun iv _ => (univ cs ls).length - (intOf iv).toNat)
  case atStart => exact ⟨0, lv0, _, rfl, by omega, (Grows.start cs ls).len, ⟨HRS3.out, Grows.start cs ls, rfl⟩, HB3.out⟩
  case round =>
    obtain ⟨i, lv, acc, rfl, hia, hau, HI, hbr⟩ := hrel
    have hUn := HU.out
    have hsz := hbr.size
    obtain ⟨cR0, cR1, fR⟩ := HI.out.1.row.cells
    have hlvf : ∃ adv cpv, lv = .slice adv acc.length cpv := by
      rcases HI.out.1.row.2.2.2.1.2 with ⟨h1, h2⟩ | ⟨g, c, cur, h1, _⟩
      · exact ⟨none, 0, by rw [h1, h2]⟩
      · exact ⟨_, _, h1⟩
    obtain ⟨adv, cpv, hlv⟩ := hlvf
    by_cases hlt : i < acc.length
    · have hlt' : (i : Int) < (acc.length : Int) := by omega
      have hi0 : (0 : Int) ≤ (i : Int) := by omega
      have hpa : PredsAt wr lv acc := predsAt_of_owns HI.out.1.row.2.2.2.1 (by have := HU.out; unfold maxLen; omega)
      obtain ⟨pb, po, pc, hpv, q0, q1⟩ := preds_at hpa i hlt
      have hwx : wfP acc[i] := HI.out.1.row.2.2.2.2.2 _ (List.getElem_mem hlt)
      obtain ⟨vz, zs, hrun, hat, hoi, hzl, hown⟩ := groups_at_seg HG.out.1 HI.out.1.size (fun k k1 k2 => (HI.out.1.seg k k1 k2).1) (by have := HF.out.len; unfold maxLen; omega) (key40 acc[i] hwx)
      have hzs : zs = idxG cs acc[i] cs.length := rowG_inv hoi ((HG.out.2.2 acc[i] hwx).symm.trans hat)
      have HInt : Hid (w3.ownsInts (M + 1) 3 .i64 vz zs ∧ ∀ g, vz.ownBlock = some g → M ≤ g ∧ g < w3.heap.size) := ⟨ints_seg hoi (fun g hg => ((HI.out.1.seg g (hown g hg).1 (hown g hg).2).1).symm), hown⟩
      have HAi : Hid (acc[i]? = some acc[i]) := List.getElem?_eq_getElem hlt
      unfold Pd.val at hrun
      obtain ⟨adz, cpz, hvz⟩ := (show IntsAt w3 vz zs from ⟨_, HInt.out.1⟩).form
      have hzl' : zs.length ≤ 1759218604441 := Nat.le_trans hzl HF.out.len
      have HZs : Hid (zs = idxG cs acc[i] cs.length) := hzs
      have HT0 : Hid (∀ k, M ≤ k → k < w3.heap.size → lv.ownBlock ≠ some k) := fun k k1 k2 => (HI.out.1.seg k k1 k2).2
      subst hvz
      rw [hpv] at cR0
      have HLv : Hid (lv = .slice (some ⟨pb, po, none⟩) acc.length pc) := hpv
      clear hoi hat hown hzs hlv hpa hpv
      generalize hxi : acc[i] = x at *
      go_wp2_with fail
      go_loopw [30] (fun jv wr2 => ∃ (j : Nat) (lv2 : Value) (acc2 : List Pd), jv = .int .i64 j ∧ j ≤ zs.length ∧ i < acc2.length ∧ acc2.length ≤ (univ cs ls).length ∧ Hid (RS w3 wr2 w.heap.size w.heap.size m M lv2 acc2 ∧ Grows cs ls acc2 ∧ acc2 = (zs.take j).foldl (stepZ cs) (seqR cs ((calledS ls).foldl addP []) i) ∧ acc2[i]? = some x) ∧ Below w.heap.size w wr2) (fun jv _ => zs.length - (intOf jv).toNat)
      case atStart => exact ⟨0, lv, acc, rfl, by omega, hlt, hau, ⟨HI.out.1, HI.out.2.1, HI.out.2.2, HAi.out⟩, hbr⟩
      case round =>
        obtain ⟨j, lv2, acc2, rfl, hj, hi2, hau2, HI2, hbr2⟩ := hrel
        have hsz2 := hbr2.size
        by_cases hjt : j < zs.length
        · have hjt' : (j : Int) < (zs.length : Int) := by omega
          have hj0 : (0 : Int) ≤ (j : Int) := by omega
          have hIA : IntsAt wr (.slice adz zs.length cpz) zs := ⟨_, ints_seg HInt.out.1 (fun g hg => (HI2.out.1.seg g (HInt.out.2 g hg).1 (HInt.out.2 g hg).2).1)⟩
          obtain ⟨zb, zc, hzv, cz, _⟩ := ints_at hIA j hjt
          simp only [Value.slice.injEq] at hzv
          obtain ⟨rfl, _, rfl⟩ := hzv
          obtain ⟨n, c, hn, hzn, hcn, hck⟩ := idxG_mem cs x zs[j] cs.length (by rw [← HZs.out]; exact List.getElem_mem hjt)
          have hcm : c ∈ cs := List.mem_of_getElem? hcn
          have hcc : cs[n] = c := by rw [List.getElem?_eq_getElem hn] at hcn; exact Option.some.inj hcn
          obtain ⟨qb, qo, qc, xx, hpv', ⟨p0, p1, p2, p3⟩, ⟨_, _, hbv, _⟩, hbw⟩ := prog_at (HP.out.below hbr2) n hn
          simp only [Value.slice.injEq] at hpv'
          obtain ⟨rfl, _, rfl⟩ := hpv'
          have H38 := k38 c.bs xx.bv wr (hcc ▸ hbv) (HS.out.below hbr2) (HF.out.bl c hcm)
          have hn' : (n : Int) < (cs.length : Int) := by omega
          have hn0 : (0 : Int) ≤ (n : Int) := by omega
          have HNew : Hid (Grows cs ls ((calledS c.bs).foldl addP acc2) ∧ (calledS c.bs).foldl addP acc2 = (zs.take (j + 1)).foldl (stepZ cs) (seqR cs ((calledS ls).foldl addP []) i) ∧ ((calledS c.bs).foldl addP acc2)[i]? = some x) := by
            obtain ⟨h1, h2, h3, h4⟩ := HI2.out
            refine ⟨h2.add (List.mem_of_getElem? h4) hcn hck, ?_, ((foldP_prefix _ _).2 i hi2).trans h4⟩
            rw [steps_snoc cs zs _ j hjt, ← h3, stepZ_at (c := c) (by rw [hzn]; simpa using hcn)]
          have HBd : Hid (acc2.length + (calledS c.bs).length ≤ 5864062014805 ∧ (∀ y ∈ calledS c.bs, wfP y) ∧ i < ((calledS c.bs).foldl addP acc2).length) := by
            have e1 := called_univ (ls := ls) hcm
            have e2 := HU.out
            have e3 := (foldP_prefix (calledS c.bs) acc2).1
            exact ⟨by omega, HF.out.pw c hcm, by omega⟩
          rw [hzn] at cz
          have HI2r : Hid (RS w3 wr w.heap.size w.heap.size m M lv2 acc2) := HI2.out.1
          clear hIA hzn hcc hck hcm hcn hbv HI2
          go_wp2_with fail
          refine H38.mono ?_
          rintro e w5 ⟨u, rfl, hO, hb5⟩
          have H39 := k39_rs (calledS c.bs) acc2 lv2 w.heap.size w.heap.size m M w3 w5 u wr HI2r.out hO hb5 HBd.out.2.1 HBd.out.1 hsz2
          have HB5 : Hid (Below w.heap.size w w5) := hbr2.trans (hb5.mono hsz2)
          clear hO hb5 H38
          go_wp2_with fail
          refine H39.mono ?_
          rintro e w6 ⟨rfl, ⟨lv', hRS⟩, hb6⟩
          have HN : Hid (RS w3 w6 w.heap.size w.heap.size m M lv' ((calledS c.bs).foldl addP acc2)) := hRS
          have HB6 : Hid (Below w.heap.size w w6) := HB5.out.trans hb6
          clear hRS hb6 H39
          go_wp2_with fail
          go_roundw
          case rel => exact ⟨j + 1, lv', _, by go_num, by omega, HBd.out.2.2, HNew.out.1.len, ⟨HN.out, HNew.out⟩, HB6.out⟩
          case measure => simp [intOf]; omega
        · have hjt' : ¬ ((j : Int) < (zs.length : Int)) := by omega
          have hjz : j = zs.length := by omega
          have HN : Hid (RS w3 wr w.heap.size w.heap.size m M lv2 acc2 ∧ Grows cs ls acc2 ∧ acc2 = seqR cs ((calledS ls).foldl addP []) (i + 1)) := by
            obtain ⟨h1, h2, h3, h4⟩ := HI2.out
            refine ⟨h1, h2, ?_⟩
            rw [hjz, List.take_length, HZs.out] at h3
            rw [h3, seqR_next (x := x) (by rw [← HI.out.2.2]; exact HAi.out)]; rfl
          go_wp2_with fail
          go_roundw
          case rel => exact ⟨i + 1, lv2, acc2, by go_num, by omega, hau2, HN, hbr2⟩
          case measure => simp [intOf]; omega
    · have hlt' : ¬ ((i : Int) < (acc.length : Int)) := by omega
      have hil : i = acc.length := by omega
      have HN : Hid (PredsAt wr lv acc ∧ acc = seqR cs ((calledS ls).foldl addP []) acc.length ∧ Grows cs ls acc) := by
        refine ⟨predsAt_of_owns HI.out.1.row.2.2.2.1 (by have := HU.out; unfold maxLen; omega), by have := HI.out.2.2; rwa [hil] at this, HI.out.2.1⟩
      subst hlv
      clear HI
      go_wp2_with fail
      go_ret
      exact ⟨_, rfl, acc, HN.out.1, HN.out.2.1, HN.out.2.2, hbr⟩
end Go.Proofs.YtlfccjlifjppdaaGreatDoor
namespace Go.Proofs.YtlfccjlifjppdaaGreatDoor
open Go.RowKit
theorem append_two {P : Program} (w : World) (base : Nat) (t ty e : TypeId) (i : TypeInfo) (z : Value) (size bytes : Nat) (ht : P.underlying t = some (.slice e)) (hi : P.info? e = some i) (hz : i.zero = some z)
    (hsize : i.size = size) (hby : i.bytes = bytes) (hzs : z.cells.size = size) (hsz : 0 < size)
    (v : Value) (n : Nat) (xs : List Value) (hown : w.ownsRow base e size v n xs)
    (a : Addr) (m c : Nat) (news : List Value) (hl : news.length = m * size) (hnews : ∀ j u, news[j]? = some u → w.cell? (a.add j) = some u) (h1 : ∀ u ∈ news, u.oneCell' = true)
    (h63 : n + m ≤ maxLen) (hbytes : (n + m) * bytes ≤ 140737488355328) (hbase : base ≤ w.heap.size) :
    ∃ v' w', (Builtin.append_ #[t, t] ty #[v, .slice (some a) m c]).run P w = .ok v' w' ∧ w'.ownsRow base e size v' (n + m) (xs ++ news) ∧ w.grownBy w' v.ownBlock ∧
      ((v'.ownBlock = v.ownBlock) ∨ (v'.ownBlock = some w.heap.size ∧ w.grownBy w' none)) := by
  obtain ⟨v', w', hr, h2, h3, _, h5⟩ := run_append_own_at (P := P) w base t ty e i z size bytes ht hi hz hsize hby hzs hsz v n xs hown a m c news hl hnews h1 h63 hbytes hbase
  refine ⟨v', w', hr, h2, h3, ?_⟩
  subst hsize hby
  rcases hown.2 with ⟨rfl, rfl⟩ | ⟨g, cap, cur, rfl, hbg, hg, hnc, hcm, hcs, htake⟩
  · rcases h5 with h5 | h5
    · exact .inl h5
    · exact .inr ⟨h5, h3⟩
  · by_cases hroom : n + m ≤ cap
    · have hfit : n * i.size + news.length ≤ cur.size := by rw [hl, hcs, ← Nat.add_mul]; exact Nat.mul_le_mul_right _ hroom
      have hr2 := run_append_room (P := P) w t ty e i ht hi g n cap cur hg a m c news hl hnews h1 hroom hfit
      rw [hr] at hr2
      obtain ⟨e1, _⟩ : v' = _ ∧ w' = _ := by simpa using hr2
      left
      rw [e1]; rfl
    · have holds : ∀ j u, xs[j]? = some u → w.cell? ((⟨g, 0, none⟩ : Addr).add j) = some u := hown.cells (g := g) rfl
      have hm63 : n + m ≤ 9223372036854775807 := by unfold maxLen at h63; omega
      have hr2 := run_append_grow (P := P) w t ty e i z ht hi hz ⟨g, 0, none⟩ n cap xs hown.1 holds a m c news hl hnews (by omega) (by omega) (growslice_fits (by omega) hbytes)
      rw [hr] at hr2
      obtain ⟨e1, e2⟩ : v' = _ ∧ w' = _ := by simpa using hr2
      right
      refine ⟨by rw [e1]; rfl, ?_⟩
      rw [e2]
      exact ⟨rfl, rfl, rfl, by simp, fun k hk _ => Below.heap_alloc w.drew _ k hk⟩
theorem wpList_append_two {P : Program} {w : World} {ops : Array Oper} {rest : List Oper} {o : Oper} {a : Act} {Q : Exit → Act → World → Prop} (hgd : o.guard = none) (s x : Operand) (t : TypeId)
    (ho : o.op = .call { callee := .builtin .append, args := #[s, x], argTypes := #[t, t] })
    (base : Nat) (e : TypeId) (i : TypeInfo) (z : Value) (size bytes : Nat) (ht : P.underlying t = some (.slice e)) (hi : P.info? e = some i) (hz : i.zero = some z)
    (hsize : i.size = size) (hby : i.bytes = bytes) (hzs : z.cells.size = size) (hsz : 0 < size)
    (v : Value) (n : Nat) (xs : List Value) (hs : a.eval s = v) (hown : w.ownsRow base e size v n xs)
    (ad : Addr) (m c : Nat) (news : List Value) (hx : a.eval x = .slice (some ad) m c) (hl : news.length = m * size) (hnews : ∀ j u, news[j]? = some u → w.cell? (ad.add j) = some u) (h1 : ∀ u ∈ news, u.oneCell' = true)
    (h63 : n + m ≤ maxLen) (hbytes : (n + m) * bytes ≤ 140737488355328) (hbase : base ≤ w.heap.size)
    (h : ∀ v' w', w'.ownsRow base e size v' (n + m) (xs ++ news) → w.grownBy w' v.ownBlock → ((v'.ownBlock = v.ownBlock) ∨ (v'.ownBlock = some w.heap.size ∧ w.grownBy w' none)) → wpList P ops Q rest (a.put o.dst v') w') :
    wpList P ops Q (o :: rest) a w := by
  refine wpList_plain hgd fun K hK => ?_
  obtain ⟨v', w', hr, h2, h3, h4⟩ := append_two (P := P) w base t o.type e i z size bytes ht hi hz hsize hby hzs hsz v n xs hown ad m c news hl hnews h1 h63 hbytes hbase
  unfold Oper.wp execOp
  simp only [ho, resolve, invoke, builtin, Sem.run_bind, Sem.run_pure, Result.andThen_ok, List.map_toArray, List.map_cons, List.map_nil, hs, hx, hr]
  exact hK _ _ (h v' w' h2 h3 h4)
end Go.Proofs.YtlfccjlifjppdaaGreatDoor
namespace Go.Proofs.YtlfccjlifjppdaaGreatDoor
open Go.RowKit
/-- The mark of row j. -/
def mkI (j : Nat) : Int := -9000 - (j : Int)
theorem owns_eq {w w' : World} {base : Nat} {e : TypeId} {s n : Nat} {v : Value} {xs : List Value} (h : w.ownsRow base e s v n xs) (hg : ∀ g, v.ownBlock = some g → w'.heap[g]? = w.heap[g]?) : w'.ownsRow base e s v n xs := by
  refine ⟨h.1, ?_⟩
  rcases h.2 with hh | ⟨g, cap, cur, e1, e2, e3, e4⟩
  · exact .inl hh
  · exact .inr ⟨g, cap, cur, e1, e2, (hg g (by rw [e1]; rfl)).trans e3, e4⟩
theorem ints_eq {w w' : World} {base : Nat} {v : Value} {zs : List Int} (h : w.ownsInts base 3 .i64 v zs) (hg : ∀ g, v.ownBlock = some g → w'.heap[g]? = w.heap[g]?) : w'.ownsInts base 3 .i64 v zs := ⟨owns_eq h.1 hg, h.2⟩
/-- Rows of two element types do not share a block. -/
theorem types_apart {w : World} {base base' : Nat} {e e' : TypeId} {s s' n n' : Nat} {v v' : Value} {xs xs' : List Value} (h : w.ownsRow base e s v n xs) (h' : w.ownsRow base' e' s' v' n' xs') (hne : e ≠ e') (g : Nat) (hg : v.ownBlock = some g) : v'.ownBlock ≠ some g := by
  intro hg'
  rcases h.2 with ⟨h1, _⟩ | ⟨g1, c1, cur1, h1, _, h3, _⟩
  · rw [h1] at hg; cases hg
  · rcases h'.2 with ⟨k1, _⟩ | ⟨g2, c2, cur2, k1, _, k3, _⟩
    · rw [k1] at hg'; cases hg'
    · rw [h1] at hg
      rw [k1] at hg'
      simp only [Value.ownBlock, Option.some.injEq] at hg hg'
      subst hg hg'
      rw [h3] at k3
      simp only [Option.some.injEq, Obj.cells.injEq] at k3
      exact hne k3.2.1
theorem owns_lt {w : World} {base : Nat} {e : TypeId} {s n : Nat} {v : Value} {xs : List Value} (h : w.ownsRow base e s v n xs) (g : Nat) (hg : v.ownBlock = some g) : base ≤ g ∧ g < w.heap.size := h.lt g hg
theorem ints_base {w : World} {base base' : Nat} {v : Value} {zs : List Int} (h : w.ownsInts base 3 .i64 v zs) (hb : base' ≤ base) : w.ownsInts base' 3 .i64 v zs := by
  refine ⟨⟨h.1.1, ?_⟩, h.2⟩
  rcases h.1.2 with hh | ⟨g, cap, cur, e1, e2, e3⟩
  · exact .inl hh
  · exact .inr ⟨g, cap, cur, e1, by omega, e3⟩
theorem ints_form {w : World} {base : Nat} {v : Value} {zs : List Int} (h : w.ownsInts base 3 .i64 v zs) : ∃ ad cap, v = .slice ad zs.length cap := by
  rcases h.1.2 with ⟨h1, h2⟩ | ⟨g, c, cur, h1, _⟩
  · exact ⟨none, 0, by rw [h1, h2]⟩
  · exact ⟨_, _, h1⟩
/-- A number of a row is written. -/
theorem ints_write {w : World} {base : Nat} {v : Value} {k : Nat} {x y : Int} {ys : List Int} (h : w.ownsInts base 3 .i64 v (List.replicate k x ++ y :: ys)) (hx : (Lit.int .i64 x).wf = true) :
    ∃ g cap, v = .slice (some ⟨g, 0, none⟩) (k + (ys.length + 1)) cap ∧ base ≤ g ∧ g < w.heap.size ∧ w.cell? ⟨g, k, none⟩ = some (.int .i64 y) ∧ w.frozen? ⟨g, k, none⟩ = false ∧ (w.setCell ⟨g, k, none⟩ (.int .i64 x)).ownsInts base 3 .i64 v (List.replicate (k + 1) x ++ ys) := by
  rcases h.1.2 with ⟨_, h2⟩ | ⟨g, cap, cur, h1, h2, h3, h4, h5, h6, h7⟩
  · simp at h2
  · have hl : (List.replicate k x ++ y :: ys).length = k + (ys.length + 1) := by simp
    rw [hl] at h1 h4
    have hset : (List.replicate k x ++ y :: ys).set k x = List.replicate (k + 1) x ++ ys := by
      rw [List.set_append_right _ _ (by simp), List.replicate_succ']
      simp
    refine ⟨g, cap, h1, h2, (Array.getElem?_eq_some_iff.1 h3).1, ?_, frozen_of_row w g k cur 3 h3, ?_, ?_⟩
    · rw [cell_of_row w g k cur 3 (0, 0) h3]
      have : (cur.toList.take ((List.replicate k x ++ y :: ys).length * 1))[k]? = some (.int .i64 y) := by
        rw [h7]; simp
      rw [List.getElem?_take_of_lt (by simp)] at this
      simpa using this
    · have h8 := heap_setCell_same w g k cur 3 (.int .i64 x) h3
      refine ⟨by simp, .inr ⟨g, cap, cur.setIfInBounds k (.int .i64 x), ?_, h2, h8, ?_, h5, by simp [h6], ?_⟩⟩
      · rw [h1]; congr 1; simp; omega
      · simp; omega
      · have e1 : (List.replicate (k + 1) x ++ ys).length * 1 = (List.replicate k x ++ y :: ys).length * 1 := by simp; omega
        rw [e1, Array.toList_setIfInBounds, List.take_set, h7, ← hset, List.map_set]
    · intro z hz
      rcases List.mem_append.1 hz with hz | hz
      · rw [(List.mem_replicate.1 hz).2]; exact hx
      · exact h.2 z (by simp [hz])
/-- A row that reads as so many marks. -/
def RdI (w : World) (v : Value) (n : Nat) (x : Int) : Prop := ∃ ad cap, v = .slice ad n cap ∧ (n = 0 ∨ ∃ g, ad = some ⟨g, 0, none⟩ ∧ g < w.heap.size ∧ w.rangeAt g 0 (List.replicate n (.int .i64 x)))
theorem RdI.at {w : World} {v : Value} {n : Nat} {x : Int} (h : RdI w v n x) (k : Nat) (hk : k < n) : ∃ g cap, v = .slice (some ⟨g, 0, none⟩) n cap ∧ w.cell? ⟨g, k, none⟩ = some (.int .i64 x) ∧ g < w.heap.size := by
  obtain ⟨ad, cap, rfl, h | ⟨g, rfl, h1, h2⟩⟩ := h
  · omega
  · refine ⟨g, cap, rfl, ?_, h1⟩
    have := h2 k (.int .i64 x) (by rw [List.getElem?_replicate]; simp [hk])
    simpa using this
theorem RdI.form {w : World} {v : Value} {n : Nat} {x : Int} (h : RdI w v n x) : ∃ ad cap, v = .slice ad n cap := by
  obtain ⟨ad, cap, rfl, _⟩ := h
  exact ⟨_, _, rfl⟩
theorem RdI.eq {w w' : World} {v : Value} {n : Nat} {x : Int} (h : RdI w v n x) (hs : w.heap.size ≤ w'.heap.size) (hg : ∀ g, v.ownBlock = some g → w'.heap[g]? = w.heap[g]?) : RdI w' v n x := by
  obtain ⟨ad, cap, rfl, h | ⟨g, rfl, h1, h2⟩⟩ := h
  · exact ⟨ad, cap, rfl, .inl h⟩
  · refine ⟨_, cap, rfl, .inr ⟨g, rfl, by omega, fun j u hu => ?_⟩⟩
    have := h2 j u hu
    rwa [World.cell?_of_block (a := ⟨g, 0 + j, none⟩) (hg g rfl)]
theorem rd_of {w : World} {base : Nat} {v v0 : Value} {n m : Nat} {x : Int} (h : w.ownsInts base 3 .i64 v (List.replicate m x)) (hn : n ≤ m) (ad : Option Addr) (cap : Nat) (h0 : v0 = .slice ad n cap) (hb : n = 0 ∨ (∃ g, ad = some ⟨g, 0, none⟩ ∧ v.ownBlock = some g)) : RdI w v0 n x := by
  refine ⟨ad, cap, h0, ?_⟩
  rcases hb with hb | ⟨g, hg, hv⟩
  · exact .inl hb
  · right
    rcases h.1.2 with ⟨h1, _⟩ | ⟨g', c, cur, h1, h2, h3, h4, h5, h6, h7⟩
    · rw [h1] at hv; cases hv
    · rw [h1] at hv
      simp only [Value.ownBlock, Option.some.injEq] at hv
      subst hv
      refine ⟨g', hg, (Array.getElem?_eq_some_iff.1 h3).1, fun j u hu => ?_⟩
      rw [Nat.zero_add, cell_of_row w g' j cur 3 (0, 0) h3]
      rw [List.getElem?_replicate] at hu
      split at hu
      · next hj =>
        have : (cur.toList.take ((List.replicate m x).length * 1))[j]? = some u := by
          rw [h7, List.map_replicate, List.getElem?_replicate, if_pos (by omega)]
          exact hu
        rw [List.getElem?_take_of_lt (by simp; omega)] at this
        simpa using this
      · cases hu
end Go.Proofs.YtlfccjlifjppdaaGreatDoor
