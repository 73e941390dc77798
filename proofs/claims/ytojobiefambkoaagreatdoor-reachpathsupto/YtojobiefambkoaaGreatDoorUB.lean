/- Contracts of slices.Compact at names, of the program's Foreign and of the document's. -/
import Derived.Test.YtojobiefambkoaaGreatDoorUA
import Derived.Test.YtojobiefambkoaaGreatDoorTC
namespace Go.Proofs.YtojobiefambkoaaGreatDoor
open Go.RowKit Go.Lib
attribute [local go_sem ↓] Go.wp_at_zero Go.wp_at_succ
theorem own_get {W : World} {B g n c : Nat} {xs : List Nm} (h : OwnN W B (.slice (some ⟨g, 0, none⟩) n c) xs) (k : Nat) (hk : k < xs.length) : ∃ y : Nm, xs[k]? = some y ∧ W.cell? ⟨g, k * 2, none⟩ = some (.int .i64 y.1) ∧ W.cell? ⟨g, k * 2 + 1, none⟩ = some (.int .i64 y.2) ∧ W.frozen? ⟨g, k * 2, none⟩ = false ∧ W.frozen? ⟨g, k * 2 + 1, none⟩ = false :=
  ⟨xs[k], List.getElem?_eq_getElem hk, own_at h k hk⟩
theorem arr_get {d : Array Nm} {j : Nat} {y : Nm} (h : d.toList[j]? = some y) : d[j]! = y := by
  obtain ⟨hj, e⟩ := List.getElem?_eq_some_iff.1 h
  rw [getElem!_pos d j (by simpa using hj)]
  simpa using e
set_option maxRecDepth 100000 in
set_option maxHeartbeats 4000000 in
theorem cmp48 (B g c n : Nat) (xs : List Nm) (w : World) (h : OwnN w B (.slice (some ⟨g, 0, none⟩) n c) xs) (hB : B ≤ w.heap.size) (hl : n ≤ 1000000000) :
    Calls Tryz.prog 48 #[.slice (some ⟨g, 0, none⟩) n c] w fun e w' => ∃ k, e = .returned (.slice (some ⟨g, 0, none⟩) k c) ∧ Hid ((compactUpTo xs.toArray xs.length).length = k ∧ OwnN w' B (.slice (some ⟨g, 0, none⟩) k c) (compactUpTo xs.toArray xs.length) ∧ Below B w w') := by
  have hxl := own_len h
  have hcap : n ≤ c ∧ c ≤ 9223372036854775807 := by
    rcases h.2 with ⟨e, _⟩ | ⟨g', cap, cur, e, h1, h2, h3, h4, h5, h6⟩
    · simp at e
    · simp only [Value.slice.injEq] at e
      unfold maxLen at h4
      omega
  obtain ⟨hnc, hcm⟩ := hcap
  obtain ⟨d, hd⟩ : ∃ d, xs.toArray = d := ⟨_, rfl⟩
  have HV : Hid (OwnN w B (.slice (some ⟨g, 0, none⟩) n c) xs ∧ d.toList = xs ∧ d.size = n ∧ B ≤ w.heap.size) := ⟨h, by rw [← hd], by rw [← hd]; simpa using hxl, hB⟩
  rw [hd, hxl]
  clear h hd
  have same : Hid (∀ W, OwnN W B (.slice (some ⟨g, 0, none⟩) n c) xs → (∀ j, j < n → keeps d j = true) → (compactUpTo d n).length = n ∧ OwnN W B (.slice (some ⟨g, 0, none⟩) n c) (compactUpTo d n)) := fun W hW hall => by
    have e : compactUpTo d n = xs := by
      rw [compactUpTo_all d n hall, ← HV.out.2.2.1, range_map_get, HV.out.2.1]
    rw [e]
    exact ⟨hxl, hW⟩
  have HXL : Hid (xs.length = n) := hxl
  clear hxl hB
  have hn0 : (0 : Int) ≤ (n : Int) := by omega
  go_enter Tryz.func48, Tryz.ntmps48
  by_cases h2 : n < 2
  · have h2' : (n : Int) < 2 := by omega
    go_wp2_with fail
    go_ret
    have h := same.out w HV.out.1 fun j hj => keeps_lt_one d j (by omega)
    exact ⟨n, rfl, h.1, h.2, Below.refl _ _⟩
  · have h2' : ¬ (n : Int) < 2 := by omega
    have HI0 : Hid (OwnN w B (.slice (some ⟨g, 0, none⟩) n c) xs ∧ Below B w w ∧ ∀ j, j < 1 → keeps d j = true) := ⟨HV.out.1, Below.refl _ _, keeps_lt_one d⟩
    go_wp2_with fail
    go_loopw [3] (fun s3 wr => ∃ k : Nat, 1 ≤ k ∧ k ≤ n ∧ s3 = .int .i64 k ∧ Hid (OwnN wr B (.slice (some ⟨g, 0, none⟩) n c) xs ∧ Below B w wr ∧ ∀ j, j < k → keeps d j = true)) (fun s3 _ => n - (intOf s3).toNat)
    case atStart => exact ⟨1, Nat.le_refl _, by omega, rfl, HI0⟩
    case round =>
      clear HI0
      obtain ⟨k, hk1, hk, rfl, HK⟩ := hrel
      by_cases hlt : k < n
      · have hltI : (k : Int) < (n : Int) := by omega
        have hk0 : (0 : Int) ≤ (k : Int) := by omega
        have hk1I : (0 : Int) ≤ (k : Int) - 1 := by omega
        have hk1n : (k : Int) - 1 < (n : Int) := by omega
        have hkx : k < xs.length := by have := HXL.out; omega
        obtain ⟨p0, p1, _, _⟩ := own_at HK.out.1 k hkx
        obtain ⟨q0, q1, _, _⟩ := own_at HK.out.1 (k - 1) (by omega)
        have HXY : Hid (d[k]! = xs[k] ∧ d[k - 1]! = xs[k - 1]) := by
          have h1 := HV.out.2.2.1
          have h3 := HV.out.2.1
          subst h3
          exact ⟨by rw [getElem!_pos d k (by omega)]; simp, by rw [getElem!_pos d (k - 1) (by omega)]; simp⟩
        generalize xs[k] = y at *
        generalize xs[k - 1] = x at *
        obtain ⟨y1, y2⟩ := y
        obtain ⟨x1, x2⟩ := x
        simp only at p0 p1 q0 q1
        have hE := eql23b y1 y2 x1 x2
        cases hyx : (y1 == x1 && y2 == x2)
        · rw [hyx] at hE
          have HKP : Hid (keeps d k = true) := keeps_pos (by
            rw [HXY.out.1, HXY.out.2]
            intro e
            simp only [Prod.mk.injEq] at e
            simp [e.1, e.2] at hyx)
          clear hyx
          go_wp2_with fail
          go_quiet (fail)
          go_wp2_with fail
          go_roundw
          case rel =>
            refine ⟨k + 1, by omega, by omega, by go_num, owns_below' HK.out.1 (below_drewN (Below.refl _ _) _), below_drewN HK.out.2.1 _, fun j hj => ?_⟩
            by_cases e : j = k
            · subst e
              exact HKP.out
            · exact HK.out.2.2 j (by omega)
          case measure => simp [intOf]; omega
        · rw [hyx] at hE
          have HKN : Hid (keeps d k = false) := keeps_neg (by omega) (by
            rw [HXY.out.1, HXY.out.2]
            simp only [Bool.and_eq_true, beq_iff_eq] at hyx
            rw [hyx.1, hyx.2])
          clear hyx HXY
          have hck : ¬ c = k := by omega
          have hkc : (k : Int) ≤ (c : Int) := by omega
          have hkn : (k : Int) ≤ (n : Int) := by omega
          go_wp2_with fail
          go_quiet (fail)
          have HI0 : Hid (∀ W, Below wr.heap.size wr W → OwnN W B (.slice (some ⟨g, 0, none⟩) n c) d.toList ∧ Below B w W ∧ CompInv d (k + 1) k d) := fun W hW => by
            rw [HV.out.2.1]
            exact ⟨owns_below HK.out.1 hW, HK.out.2.1.trans (hW.mono (Nat.le_trans HV.out.2.2.2 HK.out.2.1.size)), CompInv.start HK.out.2.2 HKN.out⟩
          have HWk : Hid (B ≤ wr.heap.size) := Nat.le_trans HV.out.2.2.2 HK.out.2.1.size
          clear HK p0 p1 q0 q1 hE hkx
          go_wp2_with fail
          go_loopw [3, 5] (fun s3 s5 W => ∃ (kk k2 : Nat) (dk : Array Nm), s3 = .int .i64 kk ∧ s5 = .int .i64 k2 ∧ 1 ≤ k2 ∧ k + k2 ≤ n ∧ kk < k + k2 ∧ Hid (OwnN W B (.slice (some ⟨g, 0, none⟩) n c) dk.toList ∧ Below B w W ∧ CompInv d (k + k2) kk dk)) (fun _ s5 _ => n - (k + (intOf s5).toNat))
          case atStart => exact ⟨k, 1, d, rfl, rfl, Nat.le_refl _, by omega, by omega, HI0.out _ (below_drewN (Below.refl _ _) _)⟩
          case round =>
            clear HI0 HWk
            obtain ⟨kk, k2, dk, rfl, rfl, h1, hle, hkk, HI⟩ := hrel
            have hds : Hid (dk.size = n) := HI.out.2.2.size.trans HV.out.2.2.1
            have hk20 : (0 : Int) ≤ (k2 : Int) := by omega
            by_cases hlt2 : k + k2 < n
            · have hnk : (k2 : Int) < (n : Int) - (k : Int) := by omega
              have hlt3 : (k2 : Int) < ((n - k : Nat) : Int) := by omega
              have hk2m : (0 : Int) ≤ (k2 : Int) - 1 := by omega
              have hk2n : (k2 : Int) - 1 < ((n - k : Nat) : Int) := by omega
              have hkkI : (0 : Int) ≤ (kk : Int) := by omega
              have hkkn : (kk : Int) < (n : Int) := by omega
              obtain ⟨y, hy, p0, p1, _, _⟩ := own_get HI.out.1 (k + k2) (by have := hds.out; simp; omega)
              obtain ⟨x, hx', q0, q1, _, _⟩ := own_get HI.out.1 (k + k2 - 1) (by have := hds.out; simp; omega)
              obtain ⟨z, _, s0, s1, z0, z1⟩ := own_get HI.out.1 kk (by have := hds.out; simp; omega)
              have HXY : Hid (d[k + k2]! = y ∧ d[k + k2 - 1]! = x) := ⟨by rw [← HI.out.2.2.high (k + k2) (by omega)]; exact arr_get hy, by rw [← HI.out.2.2.high (k + k2 - 1) (by omega)]; exact arr_get hx'⟩
              clear hy hx'
              obtain ⟨y1, y2⟩ := y
              obtain ⟨x1, x2⟩ := x
              obtain ⟨t1, t2⟩ := z
              simp only at p0 p1 q0 q1 s0 s1
              rw [show (k + k2) * 2 = k * 2 + k2 * 2 by omega] at p0 p1
              rw [show (k + k2 - 1) * 2 = k * 2 + (k2 - 1) * 2 by omega] at q0 q1
              have hE := neq23 y1 y2 x1 x2
              cases hyx : (y1 == x1 && y2 == x2)
              · rw [hyx] at hE
                have HKP : Hid (keeps d (k + k2) = true) := keeps_pos (by
                  rw [HXY.out.1, HXY.out.2]
                  intro e
                  simp only [Prod.mk.injEq] at e
                  simp [e.1, e.2] at hyx)
                have HPUT : Hid (∀ W, Below wr.heap.size wr W → OwnN ((W.setCell ⟨g, kk * 2, none⟩ (.int .i64 y1)).setCell ⟨g, kk * 2 + 1, none⟩ (.int .i64 y2)) B (.slice (some ⟨g, 0, none⟩) n c) (dk.setIfInBounds kk (y1, y2)).toList ∧ Below B w ((W.setCell ⟨g, kk * 2, none⟩ (.int .i64 y1)).setCell ⟨g, kk * 2 + 1, none⟩ (.int .i64 y2)) ∧ CompInv d (k + (k2 + 1)) (kk + 1) (dk.setIfInBounds kk (y1, y2))) := fun W hW => by
                  have h3 := hds.out
                  have h4 := HV.out.2.2.1
                  have h5 : Below B w W := HI.out.2.1.trans (hW.mono (Nat.le_trans HV.out.2.2.2 HI.out.2.1.size))
                  have h6 := own_put (owns_below HI.out.1 hW) h5 (Nat.le_trans HV.out.2.2.2 h5.size) kk (by simp; omega) (y1, y2)
                  rw [Array.toList_setIfInBounds]
                  refine ⟨h6.1, h6.2, ?_⟩
                  have h7 := HI.out.2.2.keep (by omega) HKP.out
                  rw [HXY.out.1] at h7
                  exact h7
                clear hyx HI
                go_wp2_with fail
                go_quiet (fail)
                go_wp2_with fail
                go_roundw
                case rel => exact ⟨kk + 1, k2 + 1, _, by go_num, by go_num, by omega, by omega, by omega, HPUT.out _ (below_drewN (Below.refl _ _) _)⟩
                case measure => simp [intOf]; omega
              · rw [hyx] at hE
                have HKN2 : Hid (keeps d (k + k2) = false) := keeps_neg (by omega) (by
                  rw [HXY.out.1, HXY.out.2]
                  simp only [Bool.and_eq_true, beq_iff_eq] at hyx
                  rw [hyx.1, hyx.2])
                clear hyx HXY
                go_wp2_with fail
                go_quiet (fail)
                go_wp2_with fail
                go_roundw
                case rel => exact ⟨kk, k2 + 1, dk, rfl, by go_num, by omega, by omega, by omega, owns_below HI.out.1 (below_drewN (Below.refl _ _) _), below_drewN HI.out.2.1 _, HI.out.2.2.skip HKN2.out⟩
                case measure => simp [intOf]; omega
            · have hend : k + k2 = n := by omega
              have hlt3 : ¬ (k2 : Int) < ((n - k : Nat) : Int) := by omega
              have hck2 : ¬ c = kk := by omega
              have hkkn : (kk : Int) ≤ (n : Int) := by omega
              have hkkc : (kk : Int) ≤ (c : Int) := by omega
              have hkk0 : (0 : Int) ≤ (kk : Int) := by omega
              have HF : Hid ((compactUpTo d n).length = kk ∧ OwnN (wr.setCells g (kk * 2) (List.replicate ((n - kk) * 2) (.int .i64 0))) B (.slice (some ⟨g, 0, none⟩) kk c) (compactUpTo d n) ∧ Below B w (wr.setCells g (kk * 2) (List.replicate ((n - kk) * 2) (.int .i64 0)))) := by
                have h3 := hds.out
                have hci := HI.out.2.2
                rw [hend] at hci
                have ho := HI.out.1
                unfold OwnN at ho
                rw [own_len HI.out.1] at ho
                obtain ⟨zs, e1, e2, e3⟩ := owns_setCells (List.replicate ((n - kk) * 2) (.int .i64 0)) (kk * 2) wr _ ho HI.out.2.1 (Nat.le_trans HV.out.2.2.2 HI.out.2.1.size)
                refine ⟨hci.len, ?_, e3⟩
                have e4 := owns_cut e1 (k := kk) (by omega)
                rw [e2] at e4
                have e5 : dk.toList.take kk = compactUpTo d n := by
                  apply List.ext_getElem?
                  intro j
                  by_cases hj : j < kk
                  · rw [hci.low j hj, List.getElem?_take, if_pos hj, getElem!_pos dk j (by omega)]
                    simp
                  · rw [List.getElem?_eq_none (by simp; omega), List.getElem?_eq_none (by rw [hci.len]; omega)]
                have e6 : (flatN dk.toList).take (kk * 2) = flatN (compactUpTo d n) := by
                  rw [← e5]
                  conv => lhs; rw [show dk.toList = dk.toList.take kk ++ dk.toList.drop kk by simp]
                  rw [flatN_append, List.take_append_of_le_length (by rw [flatN_length, List.length_take]; simp; omega), List.take_of_length_le (by rw [flatN_length, List.length_take]; omega)]
                rw [e6] at e4
                show World.ownsRow _ _ _ _ _ _ _
                rw [hci.len]
                exact e4
              have hcl : ∀ ty, (Builtin.clear_ #[23] ty #[.slice (some ⟨g, kk * 2, none⟩) (n - kk) (c - kk)]).run Tryz.prog wr = .ok (.tuple #[]) (wr.setCells g (kk * 2) (List.replicate ((n - kk) * 2) (.int .i64 0))) := fun ty => by
                have ho := HI.out.1
                unfold OwnN at ho
                rw [own_len HI.out.1] at ho
                refine run_clear_names wr ty g (kk * 2) (n - kk) (c - kk) (by omega) (fun j hj => ?_) (fun j hj => ho.frozenAt _)
                have h4 : kk * 2 + j < n * 2 := by omega
                rw [ho.cellAt (kk * 2 + j) h4, List.getElem?_eq_getElem (by rw [ho.1]; exact h4)]
                rfl
              clear HI hds
              generalize (wr.setCells g (kk * 2) (List.replicate ((n - kk) * 2) (.int .i64 0))) = WF at *
              go_wp2_with fail
              go_ret
              exact ⟨kk, rfl, HF.out⟩
      · have hkn : k = n := by omega
        have hltI : ¬ (k : Int) < (n : Int) := by omega
        go_wp2_with fail
        go_ret
        have h := same.out wr HK.out.1 (by rw [← hkn]; exact HK.out.2.2)
        exact ⟨n, rfl, h.1, h.2, HK.out.2.1⟩
set_option maxRecDepth 100000 in
theorem cmp48n (w : World) : Calls Tryz.prog 48 #[.slice none 0 0] w fun e w' => e = .returned (.slice none 0 0) ∧ w' = w := by
  go_enter Tryz.func48, Tryz.ntmps48
  go_wp2_with fail
  go_ret
  exact ⟨rfl, rfl⟩
def forF (node : Int) (l : List Nm) : List Nm := l.filter fun x => x.1 != node
theorem forF_snoc (node : Int) (l : List Nm) (k : Nat) (hk : k < l.length) : forF node (l.take (k + 1)) = if l[k].1 != node then forF node (l.take k) ++ [l[k]] else forF node (l.take k) := by
  unfold forF
  rw [List.take_succ_eq_append_getElem hk, List.filter_append]
  cases h : (l[k].1 != node) <;> simp [h]
theorem forF_len (node : Int) (l : List Nm) : (forF node l).length ≤ l.length := List.length_filter_le _ _
/-- What Foreign tells. -/
def FoR (node : Int) (l : List Nm) (e : Ending) (w w' : World) : Prop := ∃ a j c, e = .returned (.slice a j c) ∧ Hid (∃ xs, UpN (fun x => x ∈ l ∧ x.1 ≠ node) xs ∧ xs.length = j ∧ OwnN w' w.heap.size (.slice a j c) xs ∧ Below w.heap.size w w' ∧ xs.length ≤ l.length)
theorem for_up {node : Int} {l xs ys : List Nm} (h : UpN (· ∈ xs) ys) (hx : ∀ z, z ∈ xs ↔ z ∈ forF node l) : UpN (fun x => x ∈ l ∧ x.1 ≠ node) ys := by
  refine ⟨fun z => ?_, h.up⟩
  rw [h.all, hx]
  unfold forF
  simp
set_option maxRecDepth 100000 in
set_option maxHeartbeats 4000000 in
theorem f22 (node : Int) (l : List Nm) (la : Option Addr) (ln lc : Nat) (w : World) (h : NamesAt w (.slice la ln lc) l) (hl : ln ≤ 1000000000) :
    Calls Tryz.prog 22 #[.int .i64 node, .slice la ln lc] w fun e w' => FoR node l e w w' := by
  obtain ⟨i0, hi, hz, hs, hby⟩ := info23
  have HV : Hid (NamesAt w (.slice la ln lc) l ∧ l.length = ln) := ⟨h, names_len h rfl⟩
  clear h
  have HI0 : Hid ((forF node (l.take 0)).length = 0 ∧ OwnN w w.heap.size (.slice none 0 0) (forF node (l.take 0)) ∧ Below w.heap.size w w) := ⟨by simp [forF], World.ownsRow_nil _ _ _ _, Below.refl _ _⟩
  go_enter Tryz.func22, Tryz.ntmps22
  go_wp2_with fail
  go_loopw [5, 10] (fun u i wr => ∃ (k : Nat) (ua : Option Addr) (uk uc : Nat), k ≤ ln ∧ u = .slice ua uk uc ∧ i = .int .i64 k ∧ Hid ((forF node (l.take k)).length = uk ∧ OwnN wr w.heap.size (.slice ua uk uc) (forF node (l.take k)) ∧ Below w.heap.size w wr)) (fun _ i _ => ln - (intOf i).toNat)
  case atStart => exact ⟨0, none, 0, 0, Nat.zero_le _, rfl, rfl, HI0⟩
  case round =>
    clear HI0
    obtain ⟨k, ua, uk, uc, hk, rfl, rfl, HK⟩ := hrel
    by_cases hlt : k < ln
    · have hltI : (k : Int) < (ln : Int) := by omega
      have hk0 : (0 : Int) ≤ (k : Int) := by omega
      obtain ⟨b, o, hx, rfl, hbl, p0, p1⟩ := names_at (HV.out.1.below HK.out.2.2) hlt
      have HG : Hid (forF node (l.take (k + 1)) = if l[k].1 != node then forF node (l.take k) ++ [l[k]] else forF node (l.take k)) := forF_snoc node l k hx
      generalize l[k] = z at *
      obtain ⟨x1, x2⟩ := z
      simp only at p0 p1
      have huk : uk ≤ k := by
        have h1 := forF_len node (l.take k)
        have h2 := HK.out.1
        rw [List.length_take] at h1
        omega
      clear hx hbl
      obtain ⟨V, hV⟩ : ∃ V, wr.alloc (.cells #[.int .i64 x1, .int .i64 x2] 49) = V := ⟨_, rfl⟩
      obtain ⟨vb, hvb⟩ : ∃ vb, wr.heap.size = vb := ⟨_, rfl⟩
      have hb1 : Below wr.heap.size wr V := by rw [← hV]; exact below_alloc _ _
      have hb2 : V.heap[vb]? = some (.cells #[.int .i64 x1, .int .i64 x2] 49 (0, 0)) := by rw [← hV, ← hvb]; exact heap_alloc_new _ _
      have g0 : V.cell? ⟨vb, 0, none⟩ = some (.int .i64 x1) := by rw [cell_of_row _ vb 0 _ 49 (0, 0) hb2]; rfl
      have g1 : V.cell? ⟨vb, 1, none⟩ = some (.int .i64 x2) := by rw [cell_of_row _ vb 1 _ 49 (0, 0) hb2]; rfl
      have HB2 : Hid (Below w.heap.size w V ∧ V.ownsRow w.heap.size 49 2 (.slice ua uk uc) uk (flatN (forF node (l.take k))) ∧ w.heap.size ≤ V.heap.size) := by
        have h1 : Below w.heap.size w V := HK.out.2.2.trans (hb1.mono HK.out.2.2.size)
        have h2 : OwnN V w.heap.size (.slice ua uk uc) (forF node (l.take k)) := owns_below HK.out.2.1 hb1
        unfold OwnN at h2
        rw [HK.out.1] at h2
        exact ⟨h1, h2, h1.size⟩
      have HUK : Hid ((forF node (l.take k)).length = uk) := HK.out.1
      clear hb1 hb2 HK
      cases hne : (x1 != node)
      · have HG2 : Hid (forF node (l.take (k + 1)) = forF node (l.take k)) := by
          show _ = _
          rw [HG.out]
          simp only
          rw [hne]
          rfl
        have HF : Hid ((forF node (l.take (k + 1))).length = uk ∧ OwnN V w.heap.size (.slice ua uk uc) (forF node (l.take (k + 1))) ∧ Below w.heap.size w V) := by
          rw [HG2.out]
          refine ⟨HUK.out, ?_, HB2.out.1⟩
          show World.ownsRow _ _ _ _ _ _ _
          rw [HUK.out]
          exact HB2.out.2.1
        go_wp2_with fail
        go_roundw
        case rel => exact ⟨k + 1, ua, uk, uc, by omega, rfl, by go_num, HF⟩
        case measure => simp [intOf]; omega
      · have HG2 : Hid (forF node (l.take (k + 1)) = forF node (l.take k) ++ [(x1, x2)]) := by
          show _ = _
          rw [HG.out]
          simp only
          rw [hne]
          rfl
        have hsz := HB2.out.1.size
        have hnews := newsN_new V (x1, x2)
        have hnews : Hid (∀ j' u, (flatN [(x1, x2)])[j']? = some u → (V.alloc (.cells #[.int .i64 x1, .int .i64 x2] 49)).cell? ((⟨V.heap.size, 0, none⟩ : Addr).add j') = some u) := hnews
        have hlen : Hid ((flatN [(x1, x2)]).length = 1 * 2) := rfl
        go_wp2_with (at_builtin; refine wpList_append_own _ rfl _ _ 23 rfl w.heap.size 49 i0 (.agg #[.int .i64 0, .int .i64 0]) 2 16 Tryz.underlying23 hi hz hs hby rfl (by decide) _ _ _ rfl (HB2.out.2.1.alloc _) ⟨V.heap.size, 0, none⟩ 1 1 (flatN [(x1, x2)]) rfl hlen.out hnews.out (flatN_one _) (by unfold maxLen; omega) (by omega) (by simp; omega) ?_)
        intro v' w4 hown hgr hnil
        obtain ⟨va, vc, hvf⟩ := owns_form hown
        subst hvf
        have HF : Hid ((forF node (l.take (k + 1))).length = uk + 1 ∧ OwnN w4 w.heap.size (.slice va (uk + 1) vc) (forF node (l.take (k + 1))) ∧ Below w.heap.size w w4) := by
          have e2 : (forF node (l.take (k + 1))).length = uk + 1 := by rw [HG2.out, List.length_append, HUK.out]; rfl
          refine ⟨e2, ?_, (HB2.out.1.alloc hsz _).grown hgr (by simp; omega) (fun g hg => (HB2.out.2.1.lt g hg).1)⟩
          show w4.ownsRow w.heap.size 49 2 _ _ _
          rw [e2, HG2.out, flatN_append]
          exact hown
        clear hown hgr hnil HB2 hnews hlen
        go_wp2_with fail
        go_roundw
        case rel => exact ⟨k + 1, va, uk + 1, vc, by omega, rfl, by go_num, HF⟩
        case measure => simp [intOf]; omega
    · have hltI : ¬ (k : Int) < (ln : Int) := by omega
      have hkl : k = ln := by omega
      have HE : Hid ((forF node l).length = uk ∧ OwnN wr w.heap.size (.slice ua uk uc) (forF node l) ∧ Below w.heap.size w wr) := by
        have h := HK.out
        rw [List.take_of_length_le (by rw [HV.out.2]; omega)] at h
        exact h
      have hukl : uk ≤ ln := by
        have h1 := forF_len node l
        have h2 := HE.out.1
        have h3 := HV.out.2
        omega
      clear HK hk
      have H32 : Calls Tryz.prog 32 #[.slice ua uk uc, .func (.func 33) #[] #[]] wr fun e w' => e = .returned (.tuple #[]) ∧ Hid (SoW wr w' w.heap.size (.slice ua uk uc) (forF node l)) := f27w _ _ _ wr HE.out.2.1 (by have := HE.out.1; omega)
      go_wp2_with fail
      refine H32.mono ?_
      rintro e w5 ⟨rfl, HS⟩
      clear H32
      obtain ⟨ys, HY⟩ : ∃ ys, Hid ((∀ z, z ∈ ys ↔ z ∈ forF node l) ∧ ys.Pairwise (fun a b => ¬ ltN b a) ∧ ys.length = uk ∧ OwnN w5 w.heap.size (.slice ua uk uc) ys ∧ Below w.heap.size w w5) := by
        obtain ⟨ys, h1, h2, h3, h4, h5⟩ := HS.out
        exact ⟨ys, fun z => h1.mem_iff, h2, by rw [h3, HE.out.1], h4, HE.out.2.2.grown h5 HE.out.2.2.size (fun g hg => (HE.out.2.1.lt g hg).1)⟩
      clear HS
      have H48 : Calls Tryz.prog 48 #[.slice ua uk uc] w5 fun e w' => FoR node l e w w' := by
        have hc := comp_up ys HY.out.2.1
        have hlen : (compactUpTo ys.toArray ys.length).length ≤ l.length := by
          have h1 := HV.out.2
          have h2 : (compactUpTo ys.toArray ys.length).length ≤ ys.length := by
            unfold compactUpTo
            rw [List.length_map]
            exact Nat.le_trans (List.length_filter_le _ _) (by simp)
          have h3 := HY.out.2.2.1
          omega
        rcases HY.out.2.2.2.1.2 with ⟨e, h0⟩ | ⟨g, cap, cur, e, _⟩
        · simp only [Value.slice.injEq] at e
          obtain ⟨rfl, rfl, rfl⟩ := e
          have hy : ys = [] := List.eq_nil_of_length_eq_zero HY.out.2.2.1
          subst hy
          refine (cmp48n w5).mono ?_
          rintro e w' ⟨rfl, rfl⟩
          exact ⟨none, 0, 0, rfl, [], for_up hc HY.out.1, rfl, World.ownsRow_nil _ _ _ _, HY.out.2.2.2.2, by simp⟩
        · simp only [Value.slice.injEq] at e
          obtain ⟨rfl, _, rfl⟩ := e
          refine (cmp48 _ g _ uk ys w5 HY.out.2.2.2.1 HY.out.2.2.2.2.size (by omega)).mono ?_
          rintro e w' ⟨k', rfl, h1, h2, h3⟩
          exact ⟨_, k', _, rfl, _, for_up hc HY.out.1, h1, h2, HY.out.2.2.2.2.trans h3, hlen⟩
      clear HE HY
      go_wp2_with fail
      refine H48.mono ?_
      rintro e w6 ⟨a, j, c, rfl, HF⟩
      clear H48
      go_wp2_with fail
      go_ret
      exact ⟨a, j, c, rfl, HF⟩
set_option maxRecDepth 100000 in
set_option maxHeartbeats 4000000 in
theorem z25 (node : Int) (l : List Nm) (la : Option Addr) (ln lc : Nat) (w : World) (h : NamesAt w (.slice la ln lc) l) (hl : ln ≤ 1000000000) :
    Calls Tryz.prog 25 #[.int .i64 node, .slice la ln lc] w fun e w' => FoR node l e w w' := by
  obtain ⟨i0, hi, hz, hs, hby⟩ := info23
  have HV : Hid (NamesAt w (.slice la ln lc) l ∧ l.length = ln) := ⟨h, names_len h rfl⟩
  clear h
  have HI0 : Hid ((forF node (l.take 0)).length = 0 ∧ OwnN w w.heap.size (.slice none 0 0) (forF node (l.take 0)) ∧ Below w.heap.size w w) := ⟨by simp [forF], World.ownsRow_nil _ _ _ _, Below.refl _ _⟩
  go_enter Tryz.func25, Tryz.ntmps25
  go_wp2_with fail
  go_loopw [5, 6] (fun u i wr => ∃ (k : Nat) (ua : Option Addr) (uk uc : Nat), k ≤ ln ∧ u = .slice ua uk uc ∧ i = .int .i64 k ∧ Hid ((forF node (l.take k)).length = uk ∧ OwnN wr w.heap.size (.slice ua uk uc) (forF node (l.take k)) ∧ Below w.heap.size w wr)) (fun _ i _ => ln - (intOf i).toNat)
  case atStart => exact ⟨0, none, 0, 0, Nat.zero_le _, rfl, rfl, HI0⟩
  case round =>
    clear HI0
    obtain ⟨k, ua, uk, uc, hk, rfl, rfl, HK⟩ := hrel
    by_cases hlt : k < ln
    · have hltI : (k : Int) < (ln : Int) := by omega
      have hk0 : (0 : Int) ≤ (k : Int) := by omega
      obtain ⟨b, o, hx, rfl, hbl, p0, p1⟩ := names_at (HV.out.1.below HK.out.2.2) hlt
      have HG : Hid (forF node (l.take (k + 1)) = if l[k].1 != node then forF node (l.take k) ++ [l[k]] else forF node (l.take k)) := forF_snoc node l k hx
      generalize l[k] = z at *
      obtain ⟨x1, x2⟩ := z
      simp only at p0 p1
      have huk : uk ≤ k := by
        have h1 := forF_len node (l.take k)
        have h2 := HK.out.1
        rw [List.length_take] at h1
        omega
      have HB2 : Hid (Below w.heap.size w wr ∧ wr.ownsRow w.heap.size 49 2 (.slice ua uk uc) uk (flatN (forF node (l.take k))) ∧ w.heap.size ≤ wr.heap.size) := by
        have h2 := HK.out.2.1
        unfold OwnN at h2
        rw [HK.out.1] at h2
        exact ⟨HK.out.2.2, h2, HK.out.2.2.size⟩
      have HUK : Hid ((forF node (l.take k)).length = uk) := HK.out.1
      clear hx hbl HK
      cases hne : (x1 != node)
      · have HG2 : Hid (forF node (l.take (k + 1)) = forF node (l.take k)) := by
          show _ = _
          rw [HG.out]
          simp only
          rw [hne]
          rfl
        have HF : Hid ((forF node (l.take (k + 1))).length = uk ∧ OwnN wr w.heap.size (.slice ua uk uc) (forF node (l.take (k + 1))) ∧ Below w.heap.size w wr) := by
          rw [HG2.out]
          refine ⟨HUK.out, ?_, HB2.out.1⟩
          show World.ownsRow _ _ _ _ _ _ _
          rw [HUK.out]
          exact HB2.out.2.1
        go_wp2_with fail
        go_roundw
        case rel => exact ⟨k + 1, ua, uk, uc, by omega, rfl, by go_num, HF⟩
        case measure => simp [intOf]; omega
      · have HG2 : Hid (forF node (l.take (k + 1)) = forF node (l.take k) ++ [(x1, x2)]) := by
          show _ = _
          rw [HG.out]
          simp only
          rw [hne]
          rfl
        have hsz := HB2.out.1.size
        have hnews := newsN_new wr (x1, x2)
        have hnews : Hid (∀ j' u, (flatN [(x1, x2)])[j']? = some u → (wr.alloc (.cells #[.int .i64 x1, .int .i64 x2] 49)).cell? ((⟨wr.heap.size, 0, none⟩ : Addr).add j') = some u) := hnews
        have hlen : Hid ((flatN [(x1, x2)]).length = 1 * 2) := rfl
        go_wp2_with (at_builtin; refine wpList_append_own _ rfl _ _ 23 rfl w.heap.size 49 i0 (.agg #[.int .i64 0, .int .i64 0]) 2 16 Tryz.underlying23 hi hz hs hby rfl (by decide) _ _ _ rfl (HB2.out.2.1.alloc _) ⟨wr.heap.size, 0, none⟩ 1 1 (flatN [(x1, x2)]) rfl hlen.out hnews.out (flatN_one _) (by unfold maxLen; omega) (by omega) (by simp; omega) ?_)
        intro v' w4 hown hgr hnil
        obtain ⟨va, vc, hvf⟩ := owns_form hown
        subst hvf
        have HF : Hid ((forF node (l.take (k + 1))).length = uk + 1 ∧ OwnN w4 w.heap.size (.slice va (uk + 1) vc) (forF node (l.take (k + 1))) ∧ Below w.heap.size w w4) := by
          have e2 : (forF node (l.take (k + 1))).length = uk + 1 := by rw [HG2.out, List.length_append, HUK.out]; rfl
          refine ⟨e2, ?_, (HB2.out.1.alloc hsz _).grown hgr (by simp; omega) (fun g hg => (HB2.out.2.1.lt g hg).1)⟩
          show w4.ownsRow w.heap.size 49 2 _ _ _
          rw [e2, HG2.out, flatN_append]
          exact hown
        clear hown hgr hnil HB2 hnews hlen
        go_wp2_with fail
        go_roundw
        case rel => exact ⟨k + 1, va, uk + 1, vc, by omega, rfl, by go_num, HF⟩
        case measure => simp [intOf]; omega
    · have hltI : ¬ (k : Int) < (ln : Int) := by omega
      have hkl : k = ln := by omega
      have HE : Hid ((forF node l).length = uk ∧ OwnN wr w.heap.size (.slice ua uk uc) (forF node l) ∧ Below w.heap.size w wr) := by
        have h := HK.out
        rw [List.take_of_length_le (by rw [HV.out.2]; omega)] at h
        exact h
      have hukl : uk ≤ ln := by
        have h1 := forF_len node l
        have h2 := HE.out.1
        have h3 := HV.out.2
        omega
      clear HK hk
      have H39 : Calls Tryz.prog 39 #[.slice none 0 0, .slice ua uk uc] wr fun e w' => FoR node l e w w' := by
        refine (z39 (forF node l) ua uk uc wr (namesAt_of_owns HE.out.2.1 (by have := HE.out.1; unfold maxLen; omega)) (by omega)).mono ?_
        rintro e w' ⟨a, j, c, rfl, h1, h2, h3⟩
        have h4 := risR_len (forF node l)
        have h5 := forF_len node l
        exact ⟨a, j, c, rfl, _, for_up (risR_upn (forF node l)) fun z => Iff.rfl, h1, row_low h2 HE.out.2.2.size, HE.out.2.2.trans (h3.mono HE.out.2.2.size), by omega⟩
      clear HE
      go_wp2_with fail
      refine H39.mono ?_
      rintro e w6 ⟨a, j, c, rfl, HF⟩
      clear H39
      go_wp2_with fail
      go_ret
      exact ⟨a, j, c, rfl, HF⟩
end Go.Proofs.YtojobiefambkoaaGreatDoor
