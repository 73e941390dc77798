/- The contract of LexBlanks. -/
import Derived.Test.YtampjlafhglceaaDoorX3
namespace Go.Proofs.YtampjlafhglceaaDoor
open Go.RowKit
theorem allE_of (s : ByteArray) (h : ∀ y ∈ walkL s, okB y = true) : allE s = (0, 0) ∧ allL s = toks (walkL s) := allE_ok rfl h
theorem blanks_place (s : ByteArray) (hE : (allE s).1 = 0) (i : Nat) (hi : i < (allL s).length) : 0 ≤ (allL s)[i].at_ ∧ (allL s)[i].at_ ≤ s.size := by
  obtain ⟨hok, hL⟩ := all_ok s hE
  have hm : (allL s)[i] ∈ toks (walkL s) := by rw [← hL]; exact List.getElem_mem hi
  unfold toks at hm
  obtain ⟨y, hy, hy2⟩ := List.mem_map.1 hm
  have := walk_ge s (s.size + 1) 0 (Nat.zero_le _) hok y hy
  rw [← hy2]; exact ⟨by simpa using this.1, this.2⟩
theorem blanks_all (s s' : ByteArray) (hE : (allE s).1 = 0) (i a : Nat) (r : List UInt8) (hr10 : ∀ c ∈ r, c ≠ 10) (hi : i < (allL s).length) (hat : (allL s)[i].at_ = (a : Int)) (hs' : s'.data.toList = s.data.toList.take a ++ (insL r ++ s.data.toList.drop a)) :
    allE s' = (0, 0) ∧ (allL s').length = (allL s).length ∧ ∀ k x y, (allL s)[k]? = some x → (allL s')[k]? = some y → y.k = x.k ∧ y.t = x.t ∧ (k < i → y.at_ = x.at_) := by
  obtain ⟨hok, hL⟩ := all_ok s hE
  have ha : a ≤ s.size := by have := (blanks_place s hE i hi).2; rw [hat] at this; omega
  have hi2 : i < (walkL s).length := by rw [hL] at hi; simpa [toks] using hi
  have hat2 : (walkL s)[i].1.at_ = (a : Int) := by
    rw [← hat]
    have : (allL s)[i]? = some (walkL s)[i].1 := by rw [hL]; simp [toks, hi2]
    rw [List.getElem?_eq_getElem hi] at this
    rw [Option.some.inj this]
  have hsz : s'.size = s.size + (r.length + 4) := by
    have := congrArg List.length hs'
    rw [len_list, List.length_append, List.length_append, insL_len, List.length_take, List.length_drop, len_list] at this
    omega
  have hw : walkF s (s'.size + 1) 0 = walkL s := walk_fuel s _ _ 0 (Nat.zero_le _) (by omega) (by omega)
  have h1 := walk_ins s s' a (r.length + 4) r hr10 ha rfl hs' i (s'.size + 1) 0 (Nat.zero_le _) (by omega)
  rw [hw] at h1
  have h1 : walkL s' = (walkL s).take i ++ ((walkL s).drop i).map (shiftF (r.length + 4)) := h1 hok hi2 hat2
  have hok' : ∀ y ∈ walkL s', okB y = true := by
    intro y hy
    rw [h1] at hy
    rcases List.mem_append.1 hy with h | h
    · exact hok y (List.mem_of_mem_take h)
    · obtain ⟨z, hz, rfl⟩ := List.mem_map.1 h
      exact hok z (List.mem_of_mem_drop hz)
  obtain ⟨e1, e2⟩ := allE_of s' hok'
  refine ⟨e1, ?_, ?_⟩
  · rw [e2, hL, h1]; simp [toks]; omega
  · intro k x y hx hy
    rw [e2, h1] at hy
    rw [hL] at hx
    simp only [toks, List.getElem?_map] at hx hy
    rcases Nat.lt_or_ge k i with hk | hk
    · rw [List.getElem?_append_left (by rw [List.length_take]; omega), List.getElem?_take_of_lt hk] at hy
      rw [hx] at hy
      obtain rfl := Option.some.inj hy
      exact ⟨rfl, rfl, fun _ => rfl⟩
    · rw [List.getElem?_append_right (by rw [List.length_take]; omega), List.length_take, Nat.min_eq_left (by omega), List.getElem?_map, List.getElem?_drop, Nat.add_sub_cancel' hk] at hy
      cases hz : (walkL s)[k]? with
      | none => rw [hz] at hx; simp at hx
      | some z =>
        rw [hz] at hx hy
        simp at hx hy
        subst hx hy
        exact ⟨rfl, rfl, fun h => by omega⟩
def noTen (l : List UInt8) : List UInt8 := l.filter (fun c => c != 10)
theorem noTen_no (l : List UInt8) : ∀ c ∈ noTen l, c ≠ 10 := by
  intro c hc
  have := (List.mem_filter.1 hc).2
  simpa using this
theorem index_of (n : Int) (m : Nat) (hm : m + 1 ≤ 200000000) : ∃ i : Nat, i < m + 1 ∧ wrap64 ((IntKind.u64.wrap n).tmod ((m : Int) + 1)) = (i : Int) := by
  have h0 : 0 ≤ IntKind.u64.wrap n := by rw [IntKind.wrap_u64]; omega
  have h1 := Int.tmod_lt_of_pos (IntKind.u64.wrap n) (show (0 : Int) < (m : Int) + 1 by omega)
  have h2 := Int.tmod_nonneg ((m : Int) + 1) h0
  generalize (IntKind.u64.wrap n).tmod ((m : Int) + 1) = q at *
  refine ⟨q.toNat, by omega, ?_⟩
  rw [show ((q.toNat : Nat) : Int) = q by omega]
  unfold wrap64
  omega
theorem noTen_skip (rem : ByteArray) (k : Nat) (h : k < rem.size) {l : List UInt8} (hl : l = noTen (rem.data.toList.take k)) (h10 : ((rem[k].toNat : Int) != 10) = false) : l = noTen (rem.data.toList.take (k + 1)) := by
  have e : rem[k] = 10 := by
    simp at h10
    have h10' : (10 : UInt8).toNat = 10 := rfl
    exact UInt8.toNat_inj.1 (by omega)
  rw [List.take_succ_eq_append_getElem (by rw [len_list]; exact h)]
  unfold noTen at *
  rw [List.filter_append, ← hl]
  have e2 : rem.data.toList[k]'(by rw [len_list]; exact h) = 10 := e
  rw [e2]; simp
theorem noTen_take (rem : ByteArray) (k : Nat) (h : k < rem.size) {rb : ByteArray} (hl : rb.data.toList = noTen (rem.data.toList.take k)) (h10 : ((rem[k].toNat : Int) != 10) = true) : (rb ++ rem.extract k (k + 1)).data.toList = noTen (rem.data.toList.take (k + 1)) := by
  have e : rem[k] ≠ 10 := by
    intro h2; rw [h2] at h10; exact absurd h10 (by decide)
  have e2 : rem.data.toList[k]'(by rw [len_list]; exact h) ≠ 10 := e
  rw [List.take_succ_eq_append_getElem (by rw [len_list]; exact h)]
  unfold noTen at *
  rw [List.filter_append, ← hl]
  have e3 : (rem.extract k (k + 1)).data.toList = [rem.data.toList[k]'(by rw [len_list]; exact h)] := by
    rw [drop_take_ext, List.drop_eq_getElem_cons (by rw [len_list]; exact h)]; rfl
  have e4 : (rb ++ rem.extract k (k + 1)).data.toList = rb.data.toList ++ (rem.extract k (k + 1)).data.toList := by simp
  rw [e4, e3, List.filter_cons, if_pos (by simpa using e2)]
  rfl
set_option maxRecDepth 100000 in
set_option maxHeartbeats 4000000 in
theorem c8 (s : ByteArray) (n : Int) (rem : ByteArray) (w : World) (hS : Signs w) (hs : s.size ≤ 100000000) (hr : rem.size ≤ 100000000) :
    Calls Tryd.prog 8 #[.string s, .int .i64 n, .string rem] w fun e w' => e = .returned (.bool true) ∧ Below w.heap.size w w' := by
  have H13 := c13 s w hS (by omega)
  have HS : Hid (Signs w) := hS
  have hlen := all_len s
  obtain ⟨L, hL⟩ : ∃ L, allL s = L := ⟨_, rfl⟩
  rw [hL] at H13 hlen
  obtain ⟨⟨ae, ap⟩, hA⟩ : ∃ x, allE s = x := ⟨_, rfl⟩
  rw [hA] at H13
  have HLs : Hid (allL s = L) := hL
  have HE : Hid (allE s = (ae, ap)) := hA
  clear hS hL hA
  go_enter Tryd.func8, Tryd.ntmps8
  go_wp2_with fail
  refine H13.mono ?_
  clear H13
  rintro e w1 ⟨v, rfl, hO1, hb1⟩
  have HO1 : Hid (w1.ownsRow w.heap.size 24 5 v L.length (flatT L)) := hO1
  clear hO1
  go_wp2_with fail
  refine (c11 w1 (HS.out.below hb1)).mono ?_
  rintro e w2 ⟨rfl, hb2⟩
  have HO1 : Hid (w2.ownsRow w.heap.size 24 5 v L.length (flatT L)) := owns_below5 HO1.out hb2
  have hw2 : Hid (Below w.heap.size w w2) := hb1.trans (hb2.mono hb1.size)
  clear hb1 hb2
  by_cases he : ae = 0
  · subst he
    have HOK : Hid ((∀ y ∈ walkL s, okB y = true) ∧ L = toks (walkL s)) := by
      have h := all_ok s (by rw [HE.out])
      rw [HLs.out] at h
      exact h
    obtain ⟨m, hm⟩ : ∃ m, L.length = m + 1 := by
      obtain ⟨pre, x, h1, h2⟩ := walk_end s (s.size + 1) 0 (Nat.zero_le _) (by omega) HOK.out.1
      have h3 : L = toks pre ++ [x.1] := by rw [HOK.out.2]; show toks (walkF s (s.size + 1) 0) = _; rw [h1]; simp [toks]
      exact ⟨(toks pre).length, by rw [h3]; simp⟩
    obtain ⟨g1, cp1, hv, hr1⟩ := owns_range HO1.out (by omega)
    have hg1 : g1 < w2.heap.size := (HO1.out.lt g1 (by rw [hv]; rfl)).2
    subst hv
    have HR1 : Hid (w2.rangeAt g1 0 (L.flatMap T.vals)) := hr1
    clear hr1 HO1
    have hne : ((L.length : Int) == 0) = false := beq_eq_false_iff_ne.2 (by omega)
    obtain ⟨i, hi, hiw⟩ := index_of n m (by omega)
    go_wp2_with fail
    rw [hiw]
    go_loop [11, 12] (fun rv kv => ∃ k : Nat, k ≤ rem.size ∧ kv = .int .i64 k ∧ ∃ rb : ByteArray, rv = .string rb ∧ rb.size ≤ k ∧ Hid (rb.data.toList = noTen (rem.data.toList.take k))) (fun _ kv => rem.size - (intOf kv).toNat)
    case atStart => exact ⟨0, Nat.zero_le _, rfl, ⟨#[]⟩, rfl, Nat.zero_le _, rfl⟩
    case round =>
      obtain ⟨k, hk, rfl, rb, rfl, hrb, HB⟩ := hrel
      by_cases hlt : k < rem.size
      · have hlt' : (k : Int) < (rem.size : Int) := by omega
        cases h10 : (((rem[k].toNat : Int)) != 10)
        · go_wp2_with fail
          go_round
          case rel => exact ⟨k + 1, by omega, by go_num, rb, rfl, by omega, noTen_skip rem k hlt HB.out h10⟩
          case measure => simp [intOf]; omega
        · have hsz : (rem.extract k (k + 1)).size = 1 := by rw [ByteArray.size_extract]; omega
          go_wp2_with fail
          go_round
          case rel => exact ⟨k + 1, by omega, by go_num, _, rfl, by rw [ByteArray.size_append, hsz]; omega, noTen_take rem k hlt HB.out h10⟩
          case measure => simp [intOf]; omega
      · obtain rfl : k = rem.size := by omega
        have hkk : ¬ ((rem.size : Int) < (rem.size : Int)) := by omega
        have hiL : i < L.length := by omega
        have hpl := blanks_place s (by rw [HE.out]) i (by rw [HLs.out]; exact hiL)
        have hpl2 : 0 ≤ L[i].at_ ∧ L[i].at_ ≤ s.size := by
          have h1 := HLs.out
          subst h1
          exact hpl
        clear hpl
        obtain ⟨a, ha⟩ : ∃ a : Nat, L[i].at_ = (a : Int) := ⟨L[i].at_.toNat, by omega⟩
        rw [ha] at hpl2
        have has : a ≤ s.size := by omega
        have hc4 : w2.cell? ⟨g1, i * 5 + 4, none⟩ = some (.int .i64 (a : Int)) := by
          have := tok_cells T.vals (fun _ => rfl) HR1.out i hiL 4 (.int .i64 L[i].at_) (by omega) rfl
          rw [ha] at this; exact this
        obtain ⟨s', hs'⟩ : ∃ s' : ByteArray, s.extract 0 a ++ ⟨#[32, 37]⟩ ++ rb ++ ⟨#[10, 9]⟩ ++ s.extract a s.size = s' := ⟨_, rfl⟩
        have hsl : s'.data.toList = s.data.toList.take a ++ (insL (noTen rem.data.toList) ++ s.data.toList.drop a) := by
          have h1 := HB.out
          rw [take_all] at h1
          rw [← hs']
          simp only [ByteArray.data_append, Array.toList_append]
          rw [h1, ext_list, ext_end, List.drop_zero]
          simp [insL]
        have hsz : s'.size ≤ 1000000000 := by
          rw [← hs']
          simp only [ByteArray.size_append, ByteArray.size_extract]
          have e1 : (⟨#[32, 37]⟩ : ByteArray).size = 2 := rfl
          have e2 : (⟨#[10, 9]⟩ : ByteArray).size = 2 := rfl
          rw [e1, e2]; omega
        have HBA : Hid (allE s' = (0, 0) ∧ (allL s').length = (allL s).length ∧ ∀ k x y, (allL s)[k]? = some x → (allL s')[k]? = some y → y.k = x.k ∧ y.t = x.t ∧ (k < i → y.at_ = x.at_)) :=
          blanks_all s s' (by rw [HE.out]) i a (noTen rem.data.toList) (noTen_no _) (by rw [HLs.out]; exact hiL) (by have h1 := HLs.out; subst h1; exact ha) hsl
        have H13 := fun (W : World) (hW : Below w2.heap.size w2 W) => c13 s' W ((HS.out.below hw2.out).below hW) hsz
        obtain ⟨L2, hL2⟩ : ∃ L2, allL s' = L2 := ⟨_, rfl⟩
        rw [HLs.out, hL2] at HBA
        have H13 := fun (W : World) (hW : Below w2.heap.size w2 W) => by
          have h := H13 W hW
          rw [hL2, HBA.out.1, ← hs'] at h
          exact h
        clear hL2 hsl hsz hs'
        have f1 : ¬ ((a : Int) < 0) := by omega
        have f2 : ¬ ((s.size : Int) < (a : Int)) := by omega
        have f3 : (0 : Int) ≤ (a : Int) := by omega
        have f4 : (a : Int) ≤ (s.size : Int) := by omega
        have f5 : (0 : Int) ≤ (i : Int) := by omega
        have f6 : (i : Int) < (m : Int) + 1 := by omega
        go_wp2_with fail
        go_region_with (go_at_call 13; refine (H13 _ (Below.drew (Below.refl _ _))).mono ?_; rintro e w3 ⟨v2, rfl, hO2, hb3'⟩)
        have hb3 : Below w2.heap.size w2 w3 := (Below.drew (Below.refl _ _)).trans hb3'
        clear hb3' H13
        have hl2 : L2.length = m + 1 := by rw [HBA.out.2.1]; exact hm
        obtain ⟨g2, cp2, hv2, hr2⟩ := owns_range hO2 (by omega)
        have hg2 : g2 < w3.heap.size := (hO2.lt g2 (by rw [hv2]; rfl)).2
        subst hv2
        have HR2 : Hid (w3.rangeAt g2 0 (L2.flatMap T.vals)) := hr2
        clear hr2 hO2
        have d1 : ((L2.length : Int) != (L.length : Int)) = false := by simp [hl2, hm]
        have d2 : (((m : Int) + 1) != ((m : Int) + 1)) = false := by simp
        go_wp2_with fail
        go_loopw [17] (fun kv wr => ∃ k : Nat, k ≤ m + 1 ∧ kv = .int .i64 k ∧ Below w3.heap.size w3 wr) (fun kv _ => m + 1 - (intOf kv).toNat)
        case atStart => exact ⟨0, Nat.zero_le _, rfl, Below.refl _ _⟩
        case round =>
          obtain ⟨k, hk, rfl, hbr⟩ := hrel
          have HBR : Hid (Below w3.heap.size w3 wr) := hbr
          by_cases hlt : k < m + 1
          · have hlt' : (k : Int) < (m : Int) + 1 := by omega
            have hk0 : (0 : Int) ≤ (k : Int) := by omega
            obtain ⟨⟨xk, xt, xn, xd, xa⟩, hx⟩ : ∃ x, L[k]'(by omega) = x := ⟨_, rfl⟩
            obtain ⟨⟨yk, yt, yn, yd, ya⟩, hy⟩ : ∃ y, L2[k]'(by omega) = y := ⟨_, rfl⟩
            have hxy := HBA.out.2.2 k _ _ (List.getElem?_eq_getElem (by omega)) (List.getElem?_eq_getElem (by omega))
            rw [hx, hy] at hxy
            simp only at hxy
            obtain ⟨rfl, rfl, hxa⟩ := hxy
            have hcl : ∀ j v, j < 5 → (T.vals ⟨yk, yt, xn, xd, xa⟩)[j]? = some v → wr.cell? ⟨g1, k * 5 + j, none⟩ = some v := fun j v hj hv => (hbr.cell (p := ⟨g1, k * 5 + j, none⟩) (Nat.lt_of_lt_of_le hg1 hb3.size)).trans <| (hb3.cell (p := ⟨g1, k * 5 + j, none⟩) hg1).trans (tok_cells T.vals (fun _ => rfl) HR1.out k (by omega) j v hj (by rw [hx]; exact hv))
            have hcm : ∀ j v, j < 5 → (T.vals ⟨yk, yt, yn, yd, ya⟩)[j]? = some v → wr.cell? ⟨g2, k * 5 + j, none⟩ = some v := fun j v hj hv => (hbr.cell (p := ⟨g2, k * 5 + j, none⟩) hg2).trans <| tok_cells T.vals (fun _ => rfl) HR2.out k (by omega) j v hj (by rw [hy]; exact hv)
            have b0 := hcl 0 _ (by omega) rfl
            have b1 := hcl 1 _ (by omega) rfl
            have b4 := hcl 4 _ (by omega) rfl
            have e0 := hcm 0 _ (by omega) rfl
            have e1 := hcm 1 _ (by omega) rfl
            have e4 := hcm 4 _ (by omega) rfl
            rw [Nat.add_zero] at b0 e0
            have n1 : (yk != yk) = false := by simp
            have n2 : (yt.toList != yt.toList) = false := by simp
            clear hcl hcm hx hy hbr
            by_cases hki : k < i
            · have hki' : (k : Int) < (i : Int) := by omega
              obtain rfl := hxa hki
              have n3 : (ya != ya) = false := by simp
              go_wp2_with fail
              go_quiet (fail)
              have hbq : Hid (Below w3.heap.size w3 (wr.drewN nq)) := below_dN HBR.out nq
              go_wp2_with fail
              go_roundw
              case rel => exact ⟨k + 1, by omega, by go_num, hbq.out⟩
              case measure => simp [intOf]; omega
            · have hki' : ¬ ((k : Int) < (i : Int)) := by omega
              go_wp2_with fail
              go_quiet (fail)
              have hbq : Hid (Below w3.heap.size w3 (wr.drewN nq)) := below_dN HBR.out nq
              go_wp2_with fail
              go_roundw
              case rel => exact ⟨k + 1, by omega, by go_num, hbq.out⟩
              case measure => simp [intOf]; omega
          · obtain rfl : k = m + 1 := by omega
            go_wp2_with fail
            go_ret
            exact ⟨rfl, hw2.out.trans ((hb3.trans (hbr.mono hb3.size)).mono hw2.out.size)⟩
  · have he' : (ae != 0) = true := by simp [he]
    go_wp2_with fail
    refine (c11 w2 (HS.out.below hw2.out)).mono ?_
    rintro e w3 ⟨rfl, hb3⟩
    go_wp2_with fail
    go_ret
    exact ⟨rfl, hw2.out.trans (hb3.mono hw2.out.size)⟩
end Go.Proofs.YtampjlafhglceaaDoor
