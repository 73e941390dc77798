/- The contracts of the reference's Count and of LexCounts. -/
import Derived.Test.YtampjlafhglceaaDoorZ3
import Derived.Test.YtampjlafhglceaaDoorZ1
import Derived.Test.YtampjlafhglceaaDoorQ7
namespace Go.Proofs.YtampjlafhglceaaDoor
open Go.RowKit
/-- Numbers in memory. -/
def NumsAt (w : World) (ad : Option Addr) (ks : List Int) : Prop := ∀ j k, ks[j]? = some k → ∃ g, ad = some ⟨g, 0, none⟩ ∧ w.cell? ⟨g, j, none⟩ = some (.int .i64 k)
theorem cntK_take (ks : List Int) (l : List T) (i : Nat) (h : i < l.length) : cntK ks (l.take (i + 1)) = cntK ks (l.take i) + if ks.contains l[i].k then 1 else 0 := by
  unfold cntK
  rw [List.take_succ_eq_append_getElem h, List.countP_append]
  simp [List.countP_cons]
theorem cntK_take_le (ks : List Int) (l : List T) (i : Nat) : cntK ks (l.take i) ≤ l.length := by
  unfold cntK
  have := List.countP_le_length (p := fun t : T => ks.contains t.k) (l := l.take i)
  rw [List.length_take] at this
  omega
theorem contains_of (ks : List Int) (x : Int) (k : Nat) (hk : k < ks.length) (h : ks[k] = x) : ks.contains x = true := by
  rw [List.contains_iff_mem]; exact h ▸ List.getElem_mem hk
theorem contains_no (ks : List Int) (x : Int) (h : ∀ j (hj : j < ks.length), ks[j] ≠ x) : ks.contains x = false := by
  cases hc : ks.contains x with
  | false => rfl
  | true =>
    obtain ⟨j, hj, e⟩ := List.getElem_of_mem (List.contains_iff_mem.1 hc)
    exact absurd e (h j hj)
set_option maxRecDepth 100000 in
set_option maxHeartbeats 2000000 in
theorem c18 (s : ByteArray) (ad : Option Addr) (cap : Nat) (ks : List Int) (w : World) (hs : s.size ≤ 1000000000) (hR : NumsAt w ad ks) (hlen : ks.length ≤ 1000000000) (had : ∀ g, ad = some ⟨g, 0, none⟩ → g < w.heap.size) :
    Calls Tryd.prog 18 #[.string s, .slice ad ks.length cap] w fun e w' => e = .returned (.int .i64 (cntK ks (allL s))) ∧ Below w.heap.size w w' := by
  have H14 := c14 s w hs
  have hal := all_len s
  obtain ⟨L, hL⟩ : ∃ L, allL s = L := ⟨_, rfl⟩
  rw [hL] at H14 hal ⊢
  obtain ⟨⟨ae, ap⟩, hA⟩ : ∃ x, allE s = x := ⟨_, rfl⟩
  rw [hA] at H14
  have HR : Hid (NumsAt w ad ks) := hR
  clear hL hA hR
  go_enter Tryd.func18, Tryd.ntmps18
  go_wp2_with fail
  refine H14.mono ?_
  clear H14
  rintro e w1 ⟨v, rfl, hO1, hb1⟩
  have HB : Hid (Below w.heap.size w w1) := hb1
  have HR1 : Hid (∀ j k, ks[j]? = some k → ∃ g, ad = some ⟨g, 0, none⟩ ∧ g < w1.heap.size ∧ w1.cell? ⟨g, j, none⟩ = some (.int .i64 k)) := fun j k hj => by
    obtain ⟨g, hg, hc⟩ := HR.out j k hj
    exact ⟨g, hg, Nat.lt_of_lt_of_le (had g hg) hb1.size, (hb1.cell (p := ⟨g, j, none⟩) (had g hg)).trans hc⟩
  have hv : ∃ al cl, v = .slice al L.length cl ∧ ∀ i x, L[i]? = some x → ∃ g, al = some ⟨g, 0, none⟩ ∧ g < w1.heap.size ∧ w1.cell? ⟨g, i * 5, none⟩ = some (.int .i64 x.k) := by
    by_cases hn : 0 < L.length
    · obtain ⟨g, c, e, hr⟩ := owns_range hO1 hn
      refine ⟨_, _, e, fun i x hx => ⟨g, rfl, (hO1.lt g (by rw [e]; rfl)).2, ?_⟩⟩
      obtain ⟨hi, hxe⟩ := List.getElem?_eq_some_iff.1 hx
      have := tok_cells T.vals29 (fun _ => rfl) hr i hi 0 (.int .i64 x.k) (by omega) (by rw [hxe]; rfl)
      exact this
    · have h0 : L = [] := List.eq_nil_of_length_eq_zero (by omega)
      subst h0
      rcases hO1.2 with h | ⟨g2, cp2, _, h1, _⟩
      · exact ⟨none, 0, h.1, fun i x hx => by simp at hx⟩
      · exact ⟨_, cp2, h1, fun i x hx => by simp at hx⟩
  obtain ⟨al, cl, rfl, hcells⟩ := hv
  have HC : Hid (∀ i x, L[i]? = some x → ∃ g, al = some ⟨g, 0, none⟩ ∧ g < w1.heap.size ∧ w1.cell? ⟨g, i * 5, none⟩ = some (.int .i64 x.k)) := hcells
  clear hcells hO1 HR hb1
  go_wp2_with fail
  go_loopw [8, 9] (fun nv iv wr => ∃ i : Nat, i ≤ L.length ∧ iv = .int .i64 i ∧ ∃ c : Nat, nv = .int .i64 c ∧ c ≤ L.length ∧ Hid (cntK ks (L.take i) = c) ∧ Below w1.heap.size w1 wr) (fun _ iv _ => L.length - (intOf iv).toNat)
  case atStart => exact ⟨0, Nat.zero_le _, rfl, 0, rfl, Nat.zero_le _, rfl, Below.refl _ _⟩
  case round =>
    obtain ⟨i, hi, rfl, c, rfl, hc, HN, hbr⟩ := hrel
    by_cases hlt : i < L.length
    · have hlt' : (i : Int) < (L.length : Int) := by omega
      have hi0 : (0 : Int) ≤ (i : Int) := by omega
      obtain ⟨g1, hg1, hgl, hcx⟩ := HC.out i L[i] (List.getElem?_eq_getElem hlt)
      subst hg1
      have HT : Hid (cntK ks (L.take (i + 1)) = c + if ks.contains L[i].k then 1 else 0) := by
        show cntK ks (L.take (i + 1)) = _
        rw [cntK_take ks L i hlt, HN.out]
      have hle := cntK_take_le ks L (i + 1)
      have hyes : ks.contains L[i].k = true → cntK ks (L.take (i + 1)) = c + 1 := fun h => by rw [HT.out, h]; rfl
      have hno : ks.contains L[i].k = false → cntK ks (L.take (i + 1)) = c := fun h => by rw [HT.out, h]; rfl
      generalize L[i].k = x at *
      have HY : Hid (ks.contains x = true → cntK ks (L.take (i + 1)) = c + 1) := hyes
      have HO : Hid (ks.contains x = false → cntK ks (L.take (i + 1)) = c) := hno
      have HLE : Hid (cntK ks (L.take (i + 1)) ≤ L.length) := hle
      clear HT HN hyes hno hle
      go_wp2_with fail
      go_loopw [8, 10] (fun nv kv wq => nv = .int .i64 (c : Int) ∧ ∃ k : Nat, k ≤ ks.length ∧ kv = .int .i64 k ∧ Hid (∀ j (hj : j < k) (hk : k ≤ ks.length), ks[j]'(by omega) ≠ x) ∧ Below w1.heap.size w1 wq) (fun _ kv _ => ks.length - (intOf kv).toNat)
      case atStart => exact ⟨rfl, 0, Nat.zero_le _, rfl, fun j hj => by omega, hbr⟩
      case round =>
        obtain ⟨rfl, k, hk, rfl, HN, hbq⟩ := hrel
        have HBQ : Hid (Below w1.heap.size w1 wr) := hbq
        by_cases hlt2 : k < ks.length
        · have hlt2' : (k : Int) < (ks.length : Int) := by omega
          have hk0 : (0 : Int) ≤ (k : Int) := by omega
          obtain ⟨g, hg, hgl2, hck⟩ := HR1.out k ks[k] (List.getElem?_eq_getElem hlt2)
          subst hg
          have hcx2 := (hbq.cell (p := ⟨g1, i * 5, none⟩) hgl).trans hcx
          have hck2 := (hbq.cell (p := ⟨g, k, none⟩) hgl2).trans hck
          clear hbq
          cases hq : (ks[k] == x)
          · have hN : Hid (∀ j (hj : j < k + 1) (hk : k + 1 ≤ ks.length), ks[j]'(by omega) ≠ x) := fun j hj _ => by
              by_cases e : j = k
              · subst e; intro h; rw [h] at hq; simp at hq
              · exact HN.out j (by omega) hk
            clear HN
            go_wp2_with fail
            go_quiet (fail)
            have hbn : Hid (Below w1.heap.size w1 (wr.drewN nq)) := below_dN HBQ.out nq
            go_wp2_with fail
            go_roundw
            case rel => exact ⟨rfl, k + 1, by omega, by go_num, hN, hbn.out⟩
            case measure => simp [intOf]; omega
          · have hx : ks[k] = x := by simpa using hq
            have hT : Hid (cntK ks (L.take (i + 1)) = (c + 1 : Nat)) := HY.out (contains_of ks x k hlt2 hx)
            have hle : c + 1 ≤ L.length := by have := HLE.out; rw [hT.out] at this; exact this
            clear HN hx
            go_wp2_with fail
            go_quiet (fail)
            have hbn : Hid (Below w1.heap.size w1 (wr.drewN nq)) := below_dN HBQ.out nq
            go_wp2_with fail
            go_roundw
            case rel => exact ⟨i + 1, by omega, by go_num, c + 1, by go_num, hle, hT, hbn.out⟩
            case measure => simp [intOf]; omega
        · obtain rfl : k = ks.length := by omega
          have hlt2' : ¬ ((ks.length : Int) < (ks.length : Int)) := by omega
          have hT : Hid (cntK ks (L.take (i + 1)) = c) := HO.out (contains_no ks x (fun j hj => HN.out j hj (Nat.le_refl _)))
          clear HN
          go_wp2_with fail
          go_roundw
          case rel => exact ⟨i + 1, by omega, by go_num, c, rfl, hc, hT, HBQ.out⟩
          case measure => simp [intOf]; omega
    · obtain rfl : i = L.length := by omega
      have hlt' : ¬ ((L.length : Int) < (L.length : Int)) := by omega
      have hT : Hid (cntK ks L = c) := by
        have := HN.out
        rw [List.take_length] at this; exact this
      go_wp2_with fail
      go_ret
      exact ⟨by rw [hT.out]; rfl, HB.out.trans (hbr.mono HB.out.size)⟩
end Go.Proofs.YtampjlafhglceaaDoor
