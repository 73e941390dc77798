/- Contracts of the reference's wrong, Where and Program. Contract of Preds. CheckCalls: the plain side. -/
import Derived.Test.YtgknheafkkkjcaaGreatDoorQ25
import Derived.Test.YtgknheafkkkjcaaGreatDoorQ26
import Derived.Test.YtgknheafkkkjcaaGreatDoorQ27
import Derived.Test.YtgknheafkkkjcaaGreatDoorQ20
import Derived.Test.YtgknheafkkkjcaaGreatDoorQ21
namespace Go.Proofs.YtgknheafkkkjcaaGreatDoor
open Go.RowKit
attribute [local go_sem ↓] Go.wp_at_zero Go.wp_at_succ
theorem z31 (cs : List Cl) (hl : cs.length ≤ 64) (v : Value) (W : World) (hP : ProgAt W v cs) (k : Nat) (hk : k < 6) (hn : ∀ j, j < k → idxK (stp cs j) cs = -1) (x : ClV) (c : Cl) (hm : c ∈ cs) (hC : ClAt W x c) :
    Calls Tryz.prog 31 #[v, .agg #[x.hv, x.gv, x.bv, .int .i64 x.n], .int .i64 (errS k)] W fun e w' => e = .returned (.bool (stp cs k c)) ∧ Below W.heap.size W w' := by
  obtain ⟨h1, h2, h3, h4⟩ := hC
  rw [h4]
  match k, hk, hn with
  | 0, _, _ =>
    have e : stp cs 0 c = longS c.gs.length c.bs.length c.n := by
      show step0 cs c = _
      unfold step0
      have : ¬ ((64 : Int) < (cs.length : Int)) := by omega
      simp [this]
    obtain ⟨a1, c1, e1⟩ := h1.form
    obtain ⟨a2, c2, e2⟩ := h2.form
    obtain ⟨a3, c3, e3⟩ := h3.form
    rw [e, e1, e2, e3]
    exact z31_5 v a1 a2 a3 _ c1 _ c2 _ c3 c.n W
  | 1, _, _ => exact z31_6 c x.hv x.gv x.bv v W h1 h2 h3
  | 2, _, hn =>
    have hr := mis_head (idxK_neg (hn 1 (by omega)) c hm)
    obtain ⟨a2, c2, e2⟩ := h2.form
    obtain ⟨a3, c3, e3⟩ := h3.form
    rw [e2, e3]
    exact z31_40 c.hd x.hv v a2 a3 _ c2 _ c3 c.n W h1 hr
  | 3, _, hn =>
    have hr := mis_head (idxK_neg (hn 1 (by omega)) c hm)
    exact z31_41 c x.hv x.gv x.bv v W h1 h2 h3 hr
  | 4, _, _ => exact z31_42 c x.hv x.gv x.bv v W h1 h2 h3
  | 5, _, hn =>
    have h0 := idxK_neg (hn 0 (by omega)) c hm
    have hb : c.bs.length ≤ 8 := by
      have h0' : step0 cs c = false := h0
      unfold step0 longS at h0'
      simp at h0'
      omega
    exact z31_43 cs c x.hv x.gv x.bv v W hP (by omega) h1 h2 h3 (by omega)
def wayVals : List Value := [.int .i64 5, .int .i64 6, .int .i64 40, .int .i64 41, .int .i64 42, .int .i64 43]
theorem way_at (k : Nat) (hk : k < 6) : wayVals[k]? = some (.int .i64 (errS k)) := by
  match k, hk with
  | 0, _ => rfl
  | 1, _ => rfl
  | 2, _ => rfl
  | 3, _ => rfl
  | 4, _ => rfl
  | 5, _ => rfl
theorem where_long {cs : List Cl} (h : 64 < cs.length) : IsWhere cs 0 5 := by
  refine .inl ⟨0, by omega, fun j hj => by omega, ?_, ?_, rfl⟩
  all_goals (
    have h0 : idxK (stp cs 0) cs = ((0 : Nat) : Int) := idxK_at (stp cs 0) cs 0 (by omega) (fun j hj hj2 => by omega) (by
      show step0 cs _ = true
      unfold step0
      have : (64 : Int) < (cs.length : Int) := by omega
      simp [this])
    rw [h0]
    simp)
set_option maxRecDepth 100000 in
set_option maxHeartbeats 4000000 in
theorem z8 (cs : List Cl) (v : Value) (w : World) (hP : ProgAt w v cs) :
    Calls Tryz.prog 8 #[v] w fun e w' => ∃ n er, e = .returned (.tuple #[.int .i64 n, .int .i64 er]) ∧ IsWhere cs n er ∧ Below w.heap.size w w' := by
  have HP : Hid (ProgAt w v cs) := hP
  have hcm : cs.length ≤ maxLen := hP.1
  unfold maxLen at hcm
  obtain ⟨ad, cap, hv⟩ := hP.form
  subst hv
  clear hP
  by_cases h64 : 64 < cs.length
  · have HW : Hid (IsWhere cs 0 5) := where_long h64
    have h64' : (64 : Int) < (cs.length : Int) := by omega
    go_enter Tryz.func8, Tryz.ntmps8
    go_wp2_with fail
    exact bodyPost_ret (v := .tuple #[.int .i64 0, .int .i64 5]) (by simp [results, Tryz.results8, go_sem]) rfl ⟨_, _, rfl, HW.out, Below.refl _ _⟩
  · have h64' : ¬ ((64 : Int) < (cs.length : Int)) := by omega
    have HB0 : Hid (Below w.heap.size w (w.alloc (.cells #[.int .i64 5, .int .i64 6, .int .i64 40, .int .i64 41, .int .i64 42, .int .i64 43] 25))) := below_alloc w _
    have HBox : Hid (∀ W, Below (w.heap.size + 1) (w.alloc (.cells #[.int .i64 5, .int .i64 6, .int .i64 40, .int .i64 41, .int .i64 42, .int .i64 43] 25)) W → ∀ j, j < 6 → W.cell? ⟨w.heap.size, j, none⟩ = some (.int .i64 (errS j))) := fun W hW j hj => by
      have e1 : W.heap[w.heap.size]? = some (.cells #[.int .i64 5, .int .i64 6, .int .i64 40, .int .i64 41, .int .i64 42, .int .i64 43] 25 (0, 0)) := (hW.block w.heap.size (by omega)).trans (heap_alloc_new w _)
      rw [cell_of_row W _ j _ 25 (0, 0) e1]
      simpa [wayVals] using way_at j hj
    go_enter Tryz.func8, Tryz.ntmps8
    go_wp2_with fail
    go_loopw [5] (fun i wr => ∃ j : Nat, j ≤ 6 ∧ i = .int .i64 j ∧ Hid (∀ m, m < j → idxK (stp cs m) cs = -1) ∧ w.heap.size + 1 ≤ wr.heap.size ∧ Below (w.heap.size + 1) (w.alloc (.cells #[.int .i64 5, .int .i64 6, .int .i64 40, .int .i64 41, .int .i64 42, .int .i64 43] 25)) wr) (fun i _ => 6 - (intOf i).toNat)
    case atStart => exact ⟨0, by omega, rfl, fun j hj => by omega, by simp, Below.refl _ _⟩
    case round =>
      obtain ⟨j, hj, rfl, HI, hsz, hbr0⟩ := hrel
      have hbr : Below w.heap.size w wr := HB0.out.trans (hbr0.mono (by omega))
      by_cases hlt : j < 6
      · have hlt' : (j : Int) < 6 := by omega
        have hj0 : (0 : Int) ≤ (j : Int) := by omega
        go_wp2_with fail
        go_loopw [6] (fun i wr => ∃ k : Nat, k ≤ cs.length ∧ i = .int .i64 k ∧ Hid (noneUptoK (stp cs j) cs k) ∧ w.heap.size + 1 ≤ wr.heap.size ∧ Below (w.heap.size + 1) (w.alloc (.cells #[.int .i64 5, .int .i64 6, .int .i64 40, .int .i64 41, .int .i64 42, .int .i64 43] 25)) wr) (fun i _ => cs.length - (intOf i).toNat)
        case atStart => exact ⟨0, by omega, rfl, fun m hm h => by omega, hsz, hbr0⟩
        case round =>
          obtain ⟨k, hk, rfl, HI2, hsz2, hbr2⟩ := hrel
          have hbrw : Below w.heap.size w wr := HB0.out.trans (hbr2.mono (by omega))
          have hway := HBox.out wr hbr2 j hlt
          have hwl : w.heap.size < wr.heap.size := by omega
          by_cases hltk : k < cs.length
          · have hltk' : (k : Int) < (cs.length : Int) := by omega
            have hk0 : (0 : Int) ≤ (k : Int) := by omega
            obtain ⟨b, o, cp, y, hu, ⟨p0, p1, p2, p3⟩, hC, hb⟩ := prog_at (HP.out.below hbrw) k hltk
            simp only [Value.slice.injEq] at hu
            obtain ⟨rfl, _, rfl⟩ := hu
            have H31 : Hid (∀ W, Below wr.heap.size wr W → Calls Tryz.prog 31 #[.slice (some ⟨b, o, none⟩) cs.length cap, .agg #[y.hv, y.gv, y.bv, .int .i64 y.n], .int .i64 (errS j)] W fun e w' => e = .returned (.bool (stp cs j cs[k])) ∧ Below W.heap.size W w') := fun W hW => z31 cs (by omega) _ W ((HP.out.below hbrw).below hW) j hlt HI.out y cs[k] (List.getElem_mem hltk) (hC.below hW)
            obtain ⟨a1, c1, e1⟩ := hC.1.form
            obtain ⟨a2, c2, e2⟩ := hC.2.1.form
            obtain ⟨a3, c3, e3⟩ := hC.2.2.1.form
            rw [e1, e2, e3] at H31
            rw [e1] at p0
            rw [e2] at p1
            rw [e3] at p2
            clear hC e1 e2 e3
            generalize y.n = yn at *
            have HDone : Hid (stp cs j cs[k] = true → IsWhere cs (k : Int) (errS j)) := fun h => by
              have e := idxK_at (stp cs j) cs k hltk HI2.out h
              exact .inl ⟨j, hlt, HI.out, by omega, e.symm, rfl⟩
            have HNext : Hid (stp cs j cs[k] = false → noneUptoK (stp cs j) cs (k + 1)) := fun h m hm h2 => if e : m = k then by subst e; exact h else HI2.out m hm (by omega)
            generalize cs[k].hd.length = l1 at *
            generalize cs[k].gs.length = l2 at *
            generalize cs[k].bs.length = l3 at *
            generalize hes : errS j = er at *
            cases hq : stp cs j cs[k]
            · have HN : Hid (noneUptoK (stp cs j) cs (k + 1)) := HNext.out hq
              rw [hq] at H31
              clear hq HDone HNext
              go_wp2_with fail
              first
                | go_region_with (go_at_call 31; refine (H31.out _ (Below.drew (Below.refl _ _))).mono ?_; rintro e w2 ⟨rfl, hb2⟩)
                | fail
              all_goals (
                have hb2' : Below wr.heap.size wr w2 := (Below.drew (Below.refl _ _)).trans hb2
                have hszn := Nat.le_trans hsz2 hb2'.size
                go_wp2_with fail
                go_roundw
                case rel => exact ⟨k + 1, by omega, by go_num, HN, hszn, hbr2.trans (hb2'.mono hsz2)⟩
                case measure => simp [intOf]; omega)
            · have HN : Hid (IsWhere cs (k : Int) er) := HDone.out hq
              rw [hq] at H31
              clear hq HDone HNext
              go_wp2_with fail
              first
                | go_region_with (go_at_call 31; refine (H31.out _ (Below.drew (Below.refl _ _))).mono ?_; rintro e w2 ⟨rfl, hb2⟩)
                | fail
              all_goals (
                have hb2' : Below wr.heap.size wr w2 := (Below.drew (Below.refl _ _)).trans hb2
                have hway2 : w2.cell? ⟨w.heap.size, j, none⟩ = some (.int .i64 er) := (hb2'.cell (p := ⟨w.heap.size, j, none⟩) hwl).trans hway
                have hbf : Below w.heap.size w w2 := hbrw.trans (hb2'.mono hbrw.size)
                go_wp2_with fail
                go_quiet (fail)
                go_wp2_with fail
                exact bodyPost_ret (v := .tuple #[.int .i64 (k : Int), .int .i64 er]) (by simp [results, Tryz.results8, go_sem]) rfl ⟨_, _, rfl, HN.out, below_dN hbf _⟩)
          · have hltk' : ¬ ((k : Int) < (cs.length : Int)) := by omega
            have HN : Hid (∀ m, m < j + 1 → idxK (stp cs m) cs = -1) := fun m hm => if e : m = j then by
                subst e
                exact idxK_none (stp cs m) cs (by have := HI2.out; rwa [show k = cs.length by omega] at this)
              else HI.out m (by omega)
            go_wp2_with fail
            go_roundw
            case rel => exact ⟨j + 1, by omega, by go_num, HN, hsz2, hbr2⟩
            case measure => simp [intOf]; omega
      · have hlt' : ¬ ((j : Int) < 6) := by omega
        have HN : Hid (IsWhere cs 0 0) := .inr ⟨fun m hm => HI.out m (by omega), rfl, rfl⟩
        go_wp2_with fail
        exact bodyPost_ret (v := .tuple #[.int .i64 0, .int .i64 0]) (by simp [results, Tryz.results8, go_sem]) rfl ⟨_, _, rfl, HN.out, hbr⟩
set_option maxRecDepth 100000 in
theorem z11 (cs : List Cl) (v : Value) (w : World) (hP : ProgAt w v cs) :
    Calls Tryz.prog 11 #[v] w fun e w' => ∃ n er, e = .returned (.int .i64 er) ∧ IsWhere cs n er ∧ Below w.heap.size w w' := by
  have H := z8 cs v w hP
  obtain ⟨ad, cap, hv⟩ := hP.form
  subst hv
  clear hP
  go_enter Tryz.func11, Tryz.ntmps11
  go_wp2_with fail
  refine H.mono ?_
  rintro e w1 ⟨n, er, rfl, hI, hb1⟩
  have HI : Hid (IsWhere cs n er) := hI
  clear hI
  go_wp2_with fail
  go_ret
  exact ⟨n, er, rfl, HI.out, hb1⟩
end Go.Proofs.YtgknheafkkkjcaaGreatDoor
namespace Go.Proofs.YtgknheafkkkjcaaGreatDoor
open Go.RowKit
attribute [local go_sem ↓] Go.wp_at_zero Go.wp_at_succ
def headsS (cs : List Cl) : List Pd := (cs.filter fun c => hasNameS c.hd).map fun c => predS c.hd
def headsA (pss : List (List Cl)) : List Pd := pss.flatMap headsS
/-- A row of programs in memory, one at least. -/
def ProgsAt (w : World) (v : Value) (pss : List (List Cl)) : Prop :=
  ∃ (b o cap : Nat) (vs : List Value), v = .slice (some ⟨b, o, none⟩) pss.length cap ∧ b < w.heap.size ∧ vs.length = pss.length ∧ w.rangeAt b o vs ∧ ∀ (i : Nat) (u : Value) (p : List Cl), vs[i]? = some u → pss[i]? = some p → ProgAt w u p
theorem progs_at {w : World} {v : Value} {pss : List (List Cl)} (h : ProgsAt w v pss) (i : Nat) (hi : i < pss.length) : ∃ b o cap u, v = .slice (some ⟨b, o, none⟩) pss.length cap ∧ w.cell? ⟨b, o + i, none⟩ = some u ∧ ProgAt w u pss[i] := by
  obtain ⟨b, o, cap, vs, h1, h2, h3, h4, h5⟩ := h
  have hv : i < vs.length := by omega
  exact ⟨b, o, cap, vs[i], h1, h4 i _ (List.getElem?_eq_getElem hv), h5 i _ _ (List.getElem?_eq_getElem hv) (List.getElem?_eq_getElem hi)⟩
theorem ProgsAt.below {w w' : World} {v : Value} {pss : List (List Cl)} (h : ProgsAt w v pss) (hb : Below w.heap.size w w') : ProgsAt w' v pss := by
  obtain ⟨b, o, cap, vs, h1, h2, h3, h4, h5⟩ := h
  exact ⟨b, o, cap, vs, h1, Nat.lt_of_lt_of_le h2 hb.size, h3, range_below h4 h2 hb, fun i u p hu hp => (h5 i u p hu hp).below hb⟩
theorem heads_snoc (p : List Cl) (k : Nat) (hk : k < p.length) : headsS (p.take (k + 1)) = headsS (p.take k) ++ (if hasNameS p[k].hd then [predS p[k].hd] else []) := by
  unfold headsS
  rw [List.take_succ_eq_append_getElem hk, List.filter_append, List.map_append]
  cases h : hasNameS p[k].hd <;> simp [h]
theorem headsA_snoc (pss : List (List Cl)) (k : Nat) (hk : k < pss.length) : headsA (pss.take (k + 1)) = headsA (pss.take k) ++ headsS pss[k] := by
  unfold headsA
  rw [List.take_succ_eq_append_getElem hk, List.flatMap_append]
  simp
theorem heads_le (p : List Cl) (k : Nat) : (headsS (p.take k)).length ≤ (headsS p).length := by
  have e : headsS p = headsS (p.take k) ++ headsS (p.drop k) := by
    unfold headsS
    rw [← List.map_append, ← List.filter_append, List.take_append_drop]
  rw [e, List.length_append]; omega
theorem headsA_le (pss : List (List Cl)) (k : Nat) : (headsA (pss.take k)).length ≤ (headsA pss).length := by
  have e : headsA pss = headsA (pss.take k) ++ headsA (pss.drop k) := by
    unfold headsA
    rw [← List.flatMap_append, List.take_append_drop]
  rw [e, List.length_append]; omega
set_option maxRecDepth 100000 in
set_option maxHeartbeats 4000000 in
theorem k16p (pss : List (List Cl)) (v : Value) (w : World) (hP : ProgsAt w v pss) (hW : ∀ p ∈ pss, ∀ c ∈ p, hasNameS c.hd = true → wfP (predS c.hd)) (hN : (headsA pss).length ≤ 1000000000) (hl : pss.length ≤ 1000000000) :
    Calls Tryz.prog 16 #[v] w fun e w' => ∃ u, e = .returned u ∧ w'.ownsRow w.heap.size 61 2 u ((headsA pss).foldl addP []).length (flatP ((headsA pss).foldl addP [])) ∧ Below w.heap.size w w' := by
  have HP : Hid (ProgsAt w v pss) := hP
  have HW : Hid (∀ p ∈ pss, ∀ c ∈ p, hasNameS c.hd = true → wfP (predS c.hd)) := hW
  have HN : Hid ((headsA pss).length ≤ 1000000000) := hN
  obtain ⟨b0, o0, cap0, _, hv, _⟩ := hP
  subst hv
  have HI0 : Hid (RowAny (w.alloc (.cells #[.slice none 0 0, .map none] 90)) w.heap.size w.heap.size ((headsA (pss.take 0)).foldl addP [])) := .inl ⟨rfl, heap_alloc_new w _, Nat.le_refl _⟩
  have HB0 : Hid (Below w.heap.size w (w.alloc (.cells #[.slice none 0 0, .map none] 90))) := (Below.refl _ w).alloc (Nat.le_refl _) _
  clear hW hN
  go_enter Tryz.func16, Tryz.ntmps16
  go_wp2_with fail
  go_loopw [10] (fun i wr => ∃ k : Nat, k ≤ pss.length ∧ i = .int .i64 k ∧ Hid (RowAny wr w.heap.size w.heap.size ((headsA (pss.take k)).foldl addP [])) ∧ Below w.heap.size w wr) (fun i _ => pss.length - (intOf i).toNat)
  case atStart => exact ⟨0, by omega, rfl, HI0, HB0.out⟩
  case round =>
    obtain ⟨k, hk, rfl, HI, hbr⟩ := hrel
    by_cases hlt : k < pss.length
    · have hlt' : (k : Int) < (pss.length : Int) := by omega
      have hk0 : (0 : Int) ≤ (k : Int) := by omega
      obtain ⟨b, o, cp, u, hu, cu0, hPk⟩ := progs_at HP.out k hlt
      have cu : wr.cell? ⟨b, o + k, none⟩ = some u := (hbr.cell (p := ⟨b, o + k, none⟩) (World.block_lt_of_cell? w _ cu0)).trans cu0
      clear cu0
      simp only [Value.slice.injEq, Option.some.injEq, Addr.mk.injEq] at hu
      obtain ⟨⟨rfl, rfl, _⟩, _, rfl⟩ := hu
      have HPk : Hid (ProgAt w u pss[k]) := hPk
      have hpm : pss[k].length ≤ maxLen := hPk.1
      unfold maxLen at hpm
      have HWk : Hid (∀ c ∈ pss[k], hasNameS c.hd = true → wfP (predS c.hd)) := HW.out _ (List.getElem_mem hlt)
      have HS : Hid ((headsA (pss.take (k + 1))).foldl addP [] = (headsS pss[k]).foldl addP ((headsA (pss.take k)).foldl addP [])) := by
        show (headsA (pss.take (k + 1))).foldl addP [] = _
        rw [headsA_snoc pss k hlt, List.foldl_append]
      have HL : Hid (((headsA (pss.take k)).foldl addP []).length + (headsS pss[k]).length ≤ 1000000000) := by
        have h1 := foldP_len (headsA (pss.take k)) []
        have h2 := headsA_le pss (k + 1)
        rw [headsA_snoc pss k hlt, List.length_append] at h2
        have h3 := HN.out
        simp at h1
        show _ ≤ _
        omega
      obtain ⟨ap, cpp, hup⟩ := hPk.form
      subst hup
      clear hPk
      generalize (headsA (pss.take k)).foldl addP [] = acc0 at *
      generalize pss[k] = p at *
      go_wp2_with fail
      go_loopw [16] (fun i wr2 => ∃ j : Nat, j ≤ p.length ∧ i = .int .i64 j ∧ Hid (RowAny wr2 w.heap.size w.heap.size ((headsS (p.take j)).foldl addP acc0)) ∧ Below w.heap.size w wr2) (fun i _ => p.length - (intOf i).toNat)
      case atStart => exact ⟨0, by omega, rfl, HI.out, hbr⟩
      case round =>
        obtain ⟨j, hj, rfl, HI2, hbr2⟩ := hrel
        have hsz2 := hbr2.size
        by_cases hltj : j < p.length
        · have hltj' : (j : Int) < (p.length : Int) := by omega
          have hj0 : (0 : Int) ≤ (j : Int) := by omega
          obtain ⟨pb, po, pc, y, hy, ⟨p0, p1, p2, p3⟩, hC, hpb⟩ := prog_at (HPk.out.below hbr2) j hltj
          simp only [Value.slice.injEq] at hy
          obtain ⟨rfl, _, rfl⟩ := hy
          have HE := heads_snoc p j hltj
          have hle := heads_le p j
          have hcl : ((headsS (p.take j)).foldl addP acc0).length ≤ 1000000000 := by
            have h1 := foldP_len (headsS (p.take j)) acc0
            have h2 := HL.out
            omega
          have HWj : Hid (hasNameS p[j].hd = true → wfP (predS p[j].hd)) := HWk.out _ (List.getElem_mem hltj)
          obtain ⟨a1, c1, e1⟩ := hC.1.form
          obtain ⟨a2, c2, e2⟩ := hC.2.1.form
          obtain ⟨a3, c3, e3⟩ := hC.2.2.1.form
          have HT : Hid (TermAt wr y.hv p[j].hd) := hC.1
          rw [e1] at p0 HT
          rw [e2] at p1
          rw [e3] at p2
          clear hC e1 e2 e3
          generalize y.n = yn at *
          have HTa : Hid (TermAt (wr.alloc (.cells #[.slice a1 p[j].hd.length c1, .slice a2 p[j].gs.length c2, .slice a3 p[j].bs.length c3, .int .i64 yn] 66)) (.slice a1 p[j].hd.length c1) p[j].hd) := HT.out.below (below_alloc _ _)
          have H50 := k50 p[j].hd _ _ HTa.out
          have HIa : Hid (RowAny (wr.alloc (.cells #[.slice a1 p[j].hd.length c1, .slice a2 p[j].gs.length c2, .slice a3 p[j].bs.length c3, .int .i64 yn] 66)) w.heap.size w.heap.size ((headsS (p.take j)).foldl addP acc0)) := HI2.out.below (below_alloc _ _)
          have HBa : Hid (Below w.heap.size w (wr.alloc (.cells #[.slice a1 p[j].hd.length c1, .slice a2 p[j].gs.length c2, .slice a3 p[j].bs.length c3, .int .i64 yn] 66))) := hbr2.alloc hsz2 _
          have HBox : Hid (∀ W, Below (wr.alloc (.cells #[.slice a1 p[j].hd.length c1, .slice a2 p[j].gs.length c2, .slice a3 p[j].bs.length c3, .int .i64 yn] 66)).heap.size (wr.alloc (.cells #[.slice a1 p[j].hd.length c1, .slice a2 p[j].gs.length c2, .slice a3 p[j].bs.length c3, .int .i64 yn] 66)) W → W.cell? ⟨wr.heap.size, 0, none⟩ = some (.slice a1 p[j].hd.length c1)) := fun W hW => (box66 (hW.mono (by simp))).1
          have h0 : hasNameS p[j].hd = true → 0 < p[j].hd.length := fun h => by
            cases hh : p[j].hd with
            | nil => rw [hh] at h; simp [hasNameS] at h
            | cons _ _ => simp
          have H0 : Hid (hasNameS p[j].hd = true → 0 < p[j].hd.length) := h0
          have H55 : Hid (hasNameS p[j].hd = true → ∀ W, Below (wr.alloc (.cells #[.slice a1 p[j].hd.length c1, .slice a2 p[j].gs.length c2, .slice a3 p[j].bs.length c3, .int .i64 yn] 66)).heap.size (wr.alloc (.cells #[.slice a1 p[j].hd.length c1, .slice a2 p[j].gs.length c2, .slice a3 p[j].bs.length c3, .int .i64 yn] 66)) W → Calls Tryz.prog 40 #[.slice a1 p[j].hd.length c1] W fun e w' => e = .returned (.agg #[.string (predS p[j].hd).1, .int .i64 (predS p[j].hd).2]) ∧ Below W.heap.size W w') := fun h W hW => k55 p[j].hd _ W (HTa.out.below hW) (H0.out h)
          have HEq : Hid (headsS (p.take (j + 1)) = headsS (p.take j) ++ if hasNameS p[j].hd = true then [predS p[j].hd] else []) := HE
          clear HE h0 H0 HT
          generalize p[j].hd.length = q1 at *
          generalize p[j].gs.length = q2 at *
          generalize p[j].bs.length = q3 at *
          cases hn : hasNameS p[j].hd
          · have HF : Hid ((headsS (p.take (j + 1))).foldl addP acc0 = (headsS (p.take j)).foldl addP acc0) := by
              show (headsS (p.take (j + 1))).foldl addP acc0 = _
              rw [HEq.out, hn]; simp
            rw [hn] at H50
            clear hn HEq H55
            generalize (headsS (p.take j)).foldl addP acc0 = ac at *
            go_wp2_with fail
            refine H50.mono ?_
            rintro e w1 ⟨rfl, hb1⟩
            go_wp2_with fail
            go_roundw
            case rel => exact ⟨j + 1, by omega, by go_num, by rw [HF.out]; exact HIa.out.below hb1, HBa.out.trans (hb1.mono HBa.out.size)⟩
            case measure => simp [intOf]; omega
          · have HF : Hid ((headsS (p.take (j + 1))).foldl addP acc0 = addP ((headsS (p.take j)).foldl addP acc0) (predS p[j].hd)) := by
              show (headsS (p.take (j + 1))).foldl addP acc0 = _
              rw [HEq.out, hn]; simp
            have H55 := H55.out hn
            have HWx : Hid (wfP (predS p[j].hd)) := HWj.out hn
            rw [hn] at H50
            clear hn HEq HWj
            generalize (headsS (p.take j)).foldl addP acc0 = ac at *
            generalize predS p[j].hd = x at *
            have H55 : Hid (∀ W, _) := H55
            go_wp2_with fail
            refine H50.mono ?_
            rintro e w1 ⟨rfl, hb1⟩
            have q0 := HBox.out w1 hb1
            go_wp2_with fail
            refine (H55.out w1 hb1).mono ?_
            rintro e w2 ⟨rfl, hb2⟩
            have hb12 := hb1.trans (hb2.mono hb1.size)
            have hbw2 : Below w.heap.size w w2 := HBa.out.trans (hb12.mono HBa.out.size)
            have H39 := k39_one x ac w.heap.size w.heap.size w2 (HIa.out.below hb12) HWx.out (by omega) hbw2.size
            go_wp2_with fail
            refine H39.mono ?_
            rintro e w3 ⟨rfl, hA3, hb3⟩
            have HA3 : Hid (RowAny w3 w.heap.size w.heap.size (addP ac x)) := hA3
            clear hA3
            go_wp2_with fail
            go_roundw
            case rel => exact ⟨j + 1, by omega, by go_num, by rw [HF.out]; exact HA3.out, hbw2.trans hb3⟩
            case measure => simp [intOf]; omega
        · have hltj' : ¬ ((j : Int) < (p.length : Int)) := by omega
          have HF : Hid (RowAny wr w.heap.size w.heap.size ((headsA (pss.take (k + 1))).foldl addP [])) := by
            show RowAny _ _ _ _
            rw [HS.out]
            have h2 := HI2.out
            rwa [List.take_of_length_le (by omega)] at h2
          go_wp2_with fail
          go_roundw
          case rel => exact ⟨k + 1, by omega, by go_num, HF, hbr2⟩
          case measure => simp [intOf]; omega
    · have hlt' : ¬ ((k : Int) < (pss.length : Int)) := by omega
      rw [List.take_of_length_le (by omega)] at HI
      obtain ⟨lv, hc, hO⟩ := HI.out.cell
      have HO : Hid (wr.ownsRow w.heap.size 61 2 lv ((headsA pss).foldl addP []).length (flatP ((headsA pss).foldl addP []))) := hO
      clear hO
      go_wp2_with fail
      go_ret
      exact ⟨_, rfl, HO.out, hbr⟩
end Go.Proofs.YtgknheafkkkjcaaGreatDoor
namespace Go.Proofs.YtgknheafkkkjcaaGreatDoor
open Go.RowKit
theorem sum_one {α : Type} (P : List α) (p : α → Bool) (a : α) (hn : P.Nodup) (ha : a ∈ P) (hp : ∀ x, p x = true ↔ x = a) : (P.map fun x => if p x then 1 else 0).sum = 1 := by
  induction P with
  | nil => simp at ha
  | cons y r ih =>
    have hn' := List.nodup_cons.1 hn
    rw [List.map_cons, List.sum_cons]
    by_cases hy : y = a
    · have h1 : p y = true := (hp y).2 hy
      have h2 : (r.map fun x => if p x then 1 else 0).sum = 0 := by
        have : ∀ x ∈ r, (if p x then 1 else 0) = 0 := fun x hx => by
          have : p x ≠ true := fun h => hn'.1 (by rw [hy, ← (hp x).1 h]; exact hx)
          simp [this]
        clear ih hn ha hn'
        induction r with
        | nil => rfl
        | cons z s ih2 =>
          rw [List.map_cons, List.sum_cons, this z (by simp), ih2 (fun x hx => this x (by simp [hx]))]
      rw [h1, h2]; rfl
    · have h1 : p y ≠ true := fun h => hy ((hp y).1 h)
      rcases List.mem_cons.1 ha with h | h
      · exact absurd h.symm hy
      · rw [ih hn'.2 h]
        simp [h1]
theorem idxG_len1 (cs : List Cl) (x : Pd) (n : Nat) (hn : n < cs.length) : (idxG cs x (n + 1)).length = (idxG cs x n).length + (if hasK cs[n] x then 1 else 0) := by
  cases h : hasK cs[n] x
  · rw [idxG_no cs x n hn h]; simp
  · rw [idxG_yes cs x n hn h]; simp
theorem sum_add {α : Type} (P : List α) (f g : α → Nat) : (P.map fun x => f x + g x).sum = (P.map f).sum + (P.map g).sum := by
  induction P with
  | nil => rfl
  | cons y r ih => simp only [List.map_cons, List.sum_cons, ih]; omega
theorem count_all (cs : List Cl) (P : List Pd) (hP : P.Nodup) (hin : ∀ c ∈ cs, hasNameS c.hd = true ∧ predS c.hd ∈ P) (n : Nat) (hn : n ≤ cs.length) : (P.map fun x => (idxG cs x n).length).sum = n := by
  induction n with
  | zero =>
    have : ∀ P : List Pd, (P.map fun x => (idxG cs x 0).length).sum = 0 := fun P => by
      induction P with
      | nil => rfl
      | cons y r ih => rw [List.map_cons, List.sum_cons, ih]; rfl
    exact this P
  | succ n ih =>
    have hlt : n < cs.length := by omega
    have e : (P.map fun x => (idxG cs x (n + 1)).length) = P.map fun x => (idxG cs x n).length + (if hasK cs[n] x then 1 else 0) := List.map_congr_left (fun x _ => idxG_len1 cs x n hlt)
    rw [e, sum_add, ih (by omega)]
    obtain ⟨h1, h2⟩ := hin cs[n] (List.getElem_mem hlt)
    rw [sum_one P (fun x => hasK cs[n] x) (predS cs[n].hd) hP h2 (fun x => by
      unfold hasK
      rw [h1, Bool.true_and, hasP_iff]
      simp)]
/-- What is counted of the first i predicates. -/
def cntS (cs : List Cl) (P : List Pd) (i : Nat) : Nat := ((P.take i).map fun x => (idxG cs x cs.length).length).sum
theorem cnt_next (cs : List Cl) (P : List Pd) (i : Nat) (hi : i < P.length) : cntS cs P (i + 1) = cntS cs P i + (idxG cs P[i] cs.length).length := by
  unfold cntS
  rw [List.take_succ_eq_append_getElem hi, List.map_append, List.sum_append]
  simp
theorem cnt_le (cs : List Cl) (P : List Pd) (i : Nat) : cntS cs P i ≤ cntS cs P P.length := by
  unfold cntS
  rw [List.take_of_length_le (Nat.le_refl _)]
  have e : (P.map fun x => (idxG cs x cs.length).length).sum = ((P.take i).map fun x => (idxG cs x cs.length).length).sum + ((P.drop i).map fun x => (idxG cs x cs.length).length).sum := by
    rw [← List.sum_append, ← List.map_append, List.take_append_drop]
  omega
theorem heads_in {cs : List Cl} {c : Cl} (hc : c ∈ cs) (hn : hasNameS c.hd = true) : predS c.hd ∈ (headsA [cs]).foldl addP [] := by
  rw [foldP_iff]
  right
  unfold headsA headsS
  simp only [List.flatMap_cons, List.flatMap_nil, List.append_nil]
  exact List.mem_map.2 ⟨c, List.mem_filter.2 ⟨hc, hn⟩, rfl⟩
/-- What a right program is. -/
theorem right_prog {cs : List Cl} {n : Int} (h : IsWhere cs n 0) : (∀ c ∈ cs, hasNameS c.hd = true) ∧ (∀ c ∈ cs, ∀ y ∈ calledS c.bs, noneG cs y = false) ∧ cs.length ≤ 64 ∧ ∀ c ∈ cs, c.bs.length ≤ 8 := by
  have h1 := where_zero h
  have h0 : ∀ c ∈ cs, step0 cs c = false := idxK_neg (h1 0 (by omega))
  have hlen : cs.length ≤ 64 := by
    cases cs with
    | nil => simp
    | cons a r =>
      have := h0 a (by simp)
      unfold step0 at this
      simp at this
      have h2 := this.1
      simp
      omega
  refine ⟨fun c hc => ?_, fun c hc y hy => ?_, hlen, fun c hc => ?_⟩
  · have : step2 c = false := idxK_neg (h1 2 (by omega)) c hc
    unfold step2 headOk at this
    simp at this
    exact this.1.1
  · have : step5 cs c = false := idxK_neg (h1 5 (by omega)) c hc
    unfold step5 at this
    rw [List.any_eq_false] at this
    have := this y hy
    simpa using this
  · have := h0 c hc
    unfold step0 longS at this
    simp at this
    omega
theorem cnt_total {cs : List Cl} (hn : ∀ c ∈ cs, hasNameS c.hd = true) : cntS cs ((headsA [cs]).foldl addP []) ((headsA [cs]).foldl addP []).length = cs.length := by
  unfold cntS
  rw [List.take_of_length_le (Nat.le_refl _)]
  exact count_all cs _ (foldP_nodup _ (by simp)) (fun c hc => ⟨hn c hc, heads_in hc (hn c hc)⟩) cs.length (Nat.le_refl _)
theorem heads_len (cs : List Cl) : (headsA [cs]).length ≤ cs.length := by
  unfold headsA headsS
  simp only [List.flatMap_cons, List.flatMap_nil, List.append_nil, List.length_map]
  exact List.length_filter_le _ _
end Go.Proofs.YtgknheafkkkjcaaGreatDoor
