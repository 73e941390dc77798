/- Contract of the library function Concat of rows of terms that are not empty: the cells of all of them, one behind the other. -/
import Derived.Test.YtpepogmkbcbmpabDoorW15
namespace Go.Proofs.YtpepogmkbcbmpabDoor
open Go.RowKit
def tot (ls : List (List C)) : Nat := (ls.map List.length).sum
theorem tot_snoc (ls : List (List C)) (k : Nat) (hk : k < ls.length) : tot (ls.take (k + 1)) = tot (ls.take k) + ls[k].length := by
  unfold tot
  rw [List.take_succ_eq_append_getElem hk, List.map_append, List.sum_append]; simp
theorem tot_le (ls : List (List C)) (k : Nat) : tot (ls.take k) ≤ tot ls := by
  unfold tot
  have h : (ls.map List.length).sum = ((ls.take k).map List.length).sum + ((ls.drop k).map List.length).sum := by
    rw [← List.sum_append, ← List.map_append, List.take_append_drop]
  omega
theorem tot_flatten (ls : List (List C)) : ls.flatten.length = tot ls := by unfold tot; rw [List.length_flatten]
theorem flat_append (a b : List C) : flat (a ++ b) = flat a ++ flat b := by simp [flat]
theorem flat_one (l : List C) : ∀ u ∈ flat l, u.oneCell' = true := by
  intro u hu
  simp only [flat, List.mem_flatMap] at hu
  obtain ⟨c, _, hc⟩ := hu
  simp only [C.vals, List.mem_cons, List.not_mem_nil, or_false] at hc
  rcases hc with rfl | rfl | rfl | rfl | rfl <;> rfl
theorem termAt_of_owns {w : World} {base : Nat} {v : Value} {l : List C} (h : w.ownsRow base 34 5 v l.length (flat l)) (hl : l.length ≤ maxLen) (ht : ∀ c ∈ l, c.t.size ≤ maxLen) : TermAt w v l := by
  refine ⟨⟨hl, ht⟩, ?_⟩
  rcases h.2 with ⟨h1, h2⟩ | ⟨g, cap, cur, h1, h2, h3, h4, h5, h6, h7⟩
  · exact Or.inl ⟨List.eq_nil_of_length_eq_zero h2, none, h1⟩
  · refine Or.inr ⟨g, 0, cap, h1, h4, h5, ?_, (Array.getElem?_eq_some_iff.1 h3).1⟩
    intro j u hu
    rw [cell_of_row _ _ _ _ _ _ h3]
    rw [← h7] at hu
    rw [List.getElem?_take] at hu
    split at hu
    · simpa using hu
    · cases hu
set_option maxHeartbeats 2000000 in
theorem c46 (ls : List (List C)) (v : Value) (w : World) (h : RowAt w v ls) (hne : ∀ l ∈ ls, 0 < l.length) (hT : tot ls ≤ 1000000000) (hT0 : 0 < tot ls) :
    Calls Tryd.prog 29 #[v] w fun e w' => ∃ u, e = .returned u ∧ TermAt w' u ls.flatten ∧ Below w.heap.size w w' := by
  obtain ⟨hc, h⟩ := h
  rcases h with ⟨rfl, ad, rfl⟩ | ⟨b, o, cap, vs, rfl, h2, h3, hb, h5, h6, h7⟩
  · simp [tot] at hT0
  unfold maxLen at hc
  have HR : Hid (w.rangeAt b o vs) := h6
  have HT : Hid (∀ (i : Nat) (u : Value) (l : List C), vs[i]? = some u → ls[i]? = some l → TermAt w u l) := h7
  have HV : Hid (vs.length = ls.length) := h5
  have HN : Hid (∀ l ∈ ls, 0 < l.length) := hne
  obtain ⟨i0, hi, hz, hs, hby⟩ := info60
  clear h5 h6 h7 hne h2 h3
  go_enter Tryd.func29, Tryd.ntmps29
  go_wp2_with fail
  go_loop [3, 11] (fun sz i => ∃ k : Nat, k ≤ ls.length ∧ i = .int .i64 k ∧ sz = .int .i64 (tot (ls.take k) : Nat)) (fun _ i => ls.length - (intOf i).toNat)
  case atStart => exact ⟨0, by omega, rfl, rfl⟩
  case round =>
    obtain ⟨k, hk, rfl, rfl⟩ := hrel
    by_cases hlt : k < ls.length
    · have hlt' : (k : Int) < (ls.length : Int) := by omega
      have hkv : k < vs.length := by rw [HV.out]; exact hlt
      have p0 := row_cell HR.out k hkv
      obtain ⟨ad, cp, hf⟩ := (HT.out k _ _ (List.getElem?_eq_getElem hkv) (List.getElem?_eq_getElem hlt)).form
      have hs1 : Hid (tot (ls.take (k + 1)) = tot (ls.take k) + ls[k].length) := tot_snoc ls k hlt
      have hs2 := tot_le ls (k + 1)
      rw [hs1.out] at hs2
      rw [hf] at p0
      clear hf
      generalize tot (ls.take k) = tk at *
      generalize hlk : ls[k].length = lk at *
      have hlk : Hid (ls[k].length = lk) := hlk
      have hn1 : ¬ ((tk : Int) + (lk : Int) < 0) := by omega
      go_wp2_with fail
      go_round
      case rel => exact ⟨k + 1, by omega, by go_num, by rw [hs1.out]; go_num⟩
      case measure => simp [intOf]; omega
    · have hlt' : ¬ ((k : Int) < (ls.length : Int)) := by omega
      have hk2 : tot (ls.take k) = tot ls := by rw [List.take_of_length_le (by omega)]
      rw [hk2]
      clear hk2
      go_wp2_with fail
      refine (c63 (tot ls) _ hT0 hT).mono ?_
      rintro e w1 ⟨u, rfl, hown, hb1⟩
      have HO : Hid (w1.ownsRow w.heap.size 34 5 u 0 []) := hown
      clear hown
      go_wp2_with fail
      have hz1 := hb1.size
      clear hlt hlt' hk
      go_loopw [6, 27] (fun nv i wr => ∃ k : Nat, k ≤ ls.length ∧ i = .int .i64 k ∧ Hid (wr.ownsRow w.heap.size 34 5 nv (tot (ls.take k)) (flat (ls.take k).flatten)) ∧ Below w.heap.size w wr) (fun _ i _ => ls.length - (intOf i).toNat)
      case atStart => exact ⟨0, by omega, rfl, HO, hb1⟩
      case round =>
        obtain ⟨k, hk, rfl, hown, hbr⟩ := hrel
        by_cases hlt : k < ls.length
        · have hlt' : (k : Int) < (ls.length : Int) := by omega
          have hkv : k < vs.length := by rw [HV.out]; exact hlt
          have hbz : b < wr.heap.size := Nat.lt_of_lt_of_le hb hbr.size
          have p0 := row_cell (range_below HR.out hb hbr) k hkv
          have hta := (HT.out k _ _ (List.getElem?_eq_getElem hkv) (List.getElem?_eq_getElem hlt)).below hbr
          have hpos := HN.out _ (List.getElem_mem hlt)
          obtain ⟨_, hta⟩ := hta
          rcases hta with ⟨hnil, _⟩ | ⟨bk, ok, ck, hf, hck, hck2, hrk, hbk⟩
          · rw [hnil] at hpos; simp at hpos
          rw [hf] at p0
          have hs1 : Hid (tot (ls.take (k + 1)) = tot (ls.take k) + ls[k].length) := tot_snoc ls k hlt
          have hs2 := tot_le ls (k + 1)
          rw [hs1.out] at hs2
          have hfl : Hid (flat (ls.take (k + 1)).flatten = flat (ls.take k).flatten ++ flat ls[k]) := by
            show flat (ls.take (k + 1)).flatten = flat (ls.take k).flatten ++ flat ls[k]
            rw [List.take_succ_eq_append_getElem hlt, List.flatten_append, flat_append]; simp
          have hnews : ∀ j u, (flat ls[k])[j]? = some u → wr.cell? ((⟨bk, ok, none⟩ : Addr).add j) = some u := fun j u hu => by rw [Addr.add_mid]; exact hrk j u hu
          have hHN : Hid (∀ j u, (flat ls[k])[j]? = some u → wr.cell? ((⟨bk, ok, none⟩ : Addr).add j) = some u) := hnews
          have hsz : w.heap.size ≤ wr.heap.size := hbr.size
          have hlen : Hid ((flat ls[k]).length = ls[k].length * 5) := by
            show (flat ls[k]).length = ls[k].length * 5
            rw [flat_length]; omega
          clear hrk hnews hf
          go_wp2_with (at_builtin; refine wpList_append_own _ rfl _ _ 23 rfl w.heap.size 34 i0 zero60 5 48 Tryd.underlying23 hi hz hs hby rfl (by decide) _ _ _ rfl hown.out ⟨bk, ok, none⟩ ls[k].length ck (flat ls[k]) rfl hlen.out hHN.out (flat_one _) (by unfold maxLen; omega) (by omega) hsz ?_)
          intro v' w' hown' hgrow hnil
          have hown' : Hid (w'.ownsRow w.heap.size 34 5 v' (tot (ls.take (k + 1))) (flat (ls.take (k + 1)).flatten)) := by
            show w'.ownsRow w.heap.size 34 5 v' (tot (ls.take (k + 1))) (flat (ls.take (k + 1)).flatten)
            rw [hs1.out, hfl.out]; exact hown'
          have hbr' : Below w.heap.size w w' := hbr.grown hgrow hsz (fun g hg => (hown.out.lt g hg).1)
          clear hgrow hnil
          go_wp2_with fail
          go_roundw
          case rel => exact ⟨k + 1, by omega, by go_num, hown', hbr'⟩
          case measure => simp [intOf]; omega
        · have hlt' : ¬ ((k : Int) < (ls.length : Int)) := by omega
          rw [List.take_of_length_le (by omega), ← tot_flatten] at hown
          have hmx : Hid (ls.flatten.length ≤ maxLen) := by
            show ls.flatten.length ≤ maxLen
            rw [tot_flatten]; unfold maxLen; omega
          have htx : Hid (∀ c ∈ ls.flatten, c.t.size ≤ maxLen) := by
            show ∀ c ∈ ls.flatten, c.t.size ≤ maxLen
            intro c hcm
            rw [List.mem_flatten] at hcm
            obtain ⟨l, hl, hcl⟩ := hcm
            obtain ⟨j, hj, rfl⟩ := List.getElem_of_mem hl
            exact (HT.out j _ _ (List.getElem?_eq_getElem (by rw [HV.out]; exact hj)) (List.getElem?_eq_getElem hj)).1.2 c hcl
          go_wp2_with fail
          go_ret
          exact ⟨_, rfl, termAt_of_owns hown.out hmx.out htx.out, hbr⟩
end Go.Proofs.YtpepogmkbcbmpabDoor
