/- The contract of Join. -/
import Derived.Test.YtiemngihndbobaaDoorLxJ1
import Derived.Test.YtiemngihndbobaaDoorSh1
namespace Go.Proofs.YtiemngihndbobaaDoor.Lx
open Go.RowKit
theorem info9 : ∃ i, Tryd.prog.info? 9 = some i ∧ i.zero = some (.string ⟨#[]⟩) ∧ i.size = 1 ∧ i.bytes = 16 := by
  have h : (Tryd.prog.info? 9).map (fun i => (i.zero, i.size, i.bytes)) = some (some (.string ⟨#[]⟩), 1, 16) := by kernel_rfl
  cases hq : Tryd.prog.info? 9 with
  | none => rw [hq] at h; cases h
  | some i =>
    rw [hq] at h
    simp only [Option.map_some, Option.some.injEq, Prod.mk.injEq] at h
    exact ⟨i, rfl, h.1, h.2.1, h.2.2⟩
def strsV (l : List ByteArray) : List Value := l.map .string
theorem strs_one (l : List ByteArray) : ∀ u ∈ strsV l, u.oneCell' = true := by
  intro u hu
  obtain ⟨x, _, rfl⟩ := List.mem_map.1 hu
  rfl
theorem join_lib (l : List (List UInt8)) : Lib.join l [32] = joinL l := by
  have ht : ∀ r, Lib.joinTail [32] r = tailL r := by
    intro r
    induction r with
    | nil => rfl
    | cons t r ih =>
      simp only [Lib.joinTail, tailL, List.map_cons, List.flatten_cons] at ih ⊢
      rw [ih]; rfl
  cases l with
  | nil => rfl
  | cons t r => rw [Lib.join_cons, ht]; rfl
theorem texts_take0 (l : List T) (k : Nat) (h : k < l.length) (h0 : l[k].t.size = 0) : textsOf (l.take (k + 1)) = textsOf (l.take k) := by
  rw [List.take_succ_eq_append_getElem h]
  unfold textsOf
  rw [List.filter_append, List.map_append, List.filter_cons, if_neg (by simpa using h0)]
  simp
theorem texts_take1 (l : List T) (k : Nat) (h : k < l.length) (h0 : l[k].t.size ≠ 0) : textsOf (l.take (k + 1)) = textsOf (l.take k) ++ [l[k].t] := by
  rw [List.take_succ_eq_append_getElem h]
  unfold textsOf
  rw [List.filter_append, List.map_append, List.filter_cons, if_pos (decide_eq_true h0)]
  simp
theorem texts_len (l : List T) (k : Nat) : (textsOf (l.take k)).length ≤ l.length := by
  have := (texts_sum (l.take k)).2
  rw [List.length_take] at this
  omega
set_option maxRecDepth 100000 in
set_option maxHeartbeats 2000000 in
theorem c19 (L : List T) (g cap : Nat) (w : World) (hR : w.rangeAt g 0 (L.flatMap T.vals)) (hg : g < w.heap.size) (hlen : L.length ≤ 1000000000) (hsum : (L.map (·.t.size)).sum ≤ 1000000000) :
    Calls Tryd.prog 6 #[.slice (some ⟨g, 0, none⟩) L.length cap] w fun e w' => e = .returned (.string ⟨(joinL ((textsOf L).map (·.data.toList))).toArray⟩) ∧ Below w.heap.size w w' := by
  obtain ⟨i0, hi, hz, hsz1, hby⟩ := info9
  have HR : Hid (w.rangeAt g 0 (L.flatMap T.vals)) := hR
  clear hR
  go_enter Tryd.func6, Tryd.ntmps6
  go_wp2_with fail
  go_loopw [3, 8] (fun tv kv wr => ∃ (k : Nat) (v0 : Value), v0 = tv ∧ k ≤ L.length ∧ kv = .int .i64 k ∧ Hid (wr.ownsRow w.heap.size 9 1 v0 (textsOf (L.take k)).length (strsV (textsOf (L.take k)))) ∧ Below w.heap.size w wr) (fun _ kv _ => L.length - (intOf kv).toNat)
  case atStart => exact ⟨0, _, rfl, Nat.zero_le _, rfl, World.ownsRow_nil _ _ _ _, Below.refl _ _⟩
  case round =>
    obtain ⟨k, v0, hv0, hk, rfl, HO, hbr⟩ := hrel
    subst hv0
    have hsz := hbr.size
    by_cases hlt : k < L.length
    · have hlt' : (k : Int) < (L.length : Int) := by omega
      have hk0 : (0 : Int) ≤ (k : Int) := by omega
      have htl := texts_len L k
      have hT0 := texts_take0 L k hlt
      have hT1 := texts_take1 L k hlt
      have hc1 : ∀ j v, j < 5 → (T.vals L[k])[j]? = some v → wr.cell? ⟨g, k * 5 + j, none⟩ = some v := fun j v hj hv => (hbr.cell (p := ⟨g, k * 5 + j, none⟩) hg).trans (tok_cells T.vals (fun _ => rfl) HR.out k hlt j v hj hv)
      have a0 := hc1 0 _ (by omega) rfl
      have a1 := hc1 1 _ (by omega) rfl
      have a2 := hc1 2 _ (by omega) rfl
      have a3 := hc1 3 _ (by omega) rfl
      have a4 := hc1 4 _ (by omega) rfl
      rw [Nat.add_zero] at a0
      generalize L[k] = x at *
      obtain ⟨xk, xt, xn, xd, xa⟩ := x
      simp only at a0 a1 a2 a3 a4 hT0 hT1
      clear hc1
      have HB1 : ∀ o1 : Obj, Hid (Below w.heap.size w (wr.alloc o1)) := fun o1 => hbr.alloc hsz o1
      by_cases h0 : xt.size = 0
      · have hT00 := hT0 h0
        clear hT0 hT1
        have hxe : xt = ⟨#[]⟩ := byte_ext (List.eq_nil_of_length_eq_zero (by rw [len_list, h0]))
        subst hxe
        have HO2 : ∀ o1 : Obj, Hid ((wr.alloc o1).ownsRow w.heap.size 9 1 v0 (textsOf (L.take (k + 1))).length (strsV (textsOf (L.take (k + 1))))) := fun o1 => by
          show (wr.alloc o1).ownsRow _ _ _ _ _ _
          rw [hT00]; exact HO.out.alloc _
        clear hT00 h0
        go_wp2_with fail
        go_roundw
        case rel => exact ⟨k + 1, _, rfl, by omega, by go_num, HO2 _, (HB1 _).out⟩
        case measure => simp [intOf]; omega
      · have hT1 := hT1 h0
        have hne : xt.toList.isEmpty = false := by
          rw [ByteArray.toList_eq, List.isEmpty_eq_false_iff]
          intro h2
          have h3 : xt.data.toList.length = 0 := by rw [h2]; rfl
          rw [len_list] at h3; omega
        have hnews : Hid (∀ j u, (strsV [xt])[j]? = some u → ((wr.alloc (.cells #[.int .u8 xk, .string xt, .int .i64 xn, .int .i64 xd, .int .i64 xa] 27)).alloc (.cells #[.string xt] 9)).cell? ((⟨wr.heap.size + 1, 0, none⟩ : Addr).add j) = some u) := by
          intro j u hu
          have hnew := World.alloc_heap_new (wr.alloc (.cells #[.int .u8 xk, .string xt, .int .i64 xn, .int .i64 xd, .int .i64 xa] 27)) (.cells #[.string xt] 9)
          rw [World.size_alloc] at hnew
          rw [Addr.add_mid, cell_of_row _ _ _ _ _ _ hnew]
          have h : strsV [xt] = #[Value.string xt].toList := rfl
          rw [h] at hu
          simpa using hu
        have HB2 : ∀ o1 o2 : Obj, Hid (Below w.heap.size w ((wr.alloc o1).alloc o2)) := fun o1 o2 => (HB1 o1).out.alloc (by simp; omega) o2
        have hst : (strsV (textsOf (L.take k))).length = (textsOf (L.take k)).length := by simp [strsV]
        clear hT0 h0
        go_wp2_with (at_builtin; refine wpList_append_own _ rfl _ _ 22 rfl w.heap.size 9 i0 (.string ⟨#[]⟩) 1 16 Tryd.underlying22 hi hz hsz1 hby rfl (by decide) _ _ _ rfl ((HO.out.alloc _).alloc _) ⟨wr.heap.size + 1, 0, none⟩ 1 1 (strsV [xt]) rfl rfl hnews.out (strs_one _) (by unfold maxLen; omega) (by omega) (by simp; omega) ?_)
        intro v' w3 hown' hgrow hnil
        have hown4 : Hid (w3.ownsRow w.heap.size 9 1 v' (textsOf (L.take (k + 1))).length (strsV (textsOf (L.take (k + 1))))) := by
          show w3.ownsRow _ _ _ _ _ _
          rw [hT1, show strsV (textsOf (L.take k) ++ [xt]) = strsV (textsOf (L.take k)) ++ strsV [xt] by simp [strsV], List.length_append]; exact hown'
        have hbr3 : Hid (Below w.heap.size w w3) := (HB2 _ _).out.grown hgrow (by simp; omega) (fun g hg => (HO.out.lt g hg).1)
        clear hgrow hnil hown'
        go_wp2_with fail
        go_roundw
        case rel => exact ⟨k + 1, _, rfl, by omega, by go_num, hown4, hbr3.out⟩
        case measure => simp [intOf]; omega
    · obtain rfl : k = L.length := by omega
      have hlt' : ¬ ((L.length : Int) < (L.length : Int)) := by omega
      have htl := texts_len L L.length
      have hjl := texts_join L
      have HO : Hid (wr.ownsRow w.heap.size 9 1 v0 (textsOf L).length (strsV (textsOf L))) := by
        have h := HO.out
        rw [List.take_length] at h; exact h
      rw [List.take_length] at htl
      have HJ : ∀ W : World, W.ownsRow w.heap.size 9 1 v0 (textsOf L).length (strsV (textsOf L)) → Calls Tryd.prog 12 #[v0, .string ⟨#[32]⟩] W fun e w' => e = .returned (.string ⟨(joinL ((textsOf L).map (·.data.toList))).toArray⟩) ∧ Below W.heap.size W w' := by
        intro W hW
        by_cases hn : 0 < (textsOf L).length
        · obtain ⟨g2, cp2, hv, hr⟩ := owns_range hW hn
          have hg2 : g2 < W.heap.size := (hW.lt g2 (by rw [hv]; rfl)).2
          subst hv
          have hcp : (textsOf L).length ≤ cp2 := by
            rcases hW.2 with h | ⟨_, _, _, h1, _, _, h4, h5⟩
            · exact absurd h.2 (by omega)
            · cases h1; omega
          have h := Tryd.strings_Join g2 0 cp2 (textsOf L) ⟨#[32]⟩ W (fun j x hx => by
            have := hr j (.string x) (by simp [strsV, hx])
            rw [Nat.zero_add] at this ⊢
            exact this) hg2 (by omega) hcp (by rw [join_lib]; omega)
          rw [join_lib] at h
          exact h
        · obtain ⟨a, c, hv⟩ : ∃ a c, v0 = .slice a 0 c := by
            rcases hW.2 with h | ⟨g2, cp2, _, h1, _⟩
            · exact ⟨none, 0, h.1⟩
            · exact ⟨_, cp2, by rw [h1, show (textsOf L).length = 0 by omega]⟩
          subst hv
          refine (Tryd.strings_Join_none a c ⟨#[32]⟩ W).mono fun e w' h => ?_
          have h0 : textsOf L = [] := List.eq_nil_of_length_eq_zero (by omega)
          rw [h0]
          exact ⟨h.1, h.2 ▸ Below.refl _ _⟩
      have hbr' : Hid (Below w.heap.size w wr) := hbr
      go_wp2_with fail
      refine (HJ _ HO.out).mono ?_
      rintro e w' ⟨rfl, hb⟩
      go_wp2_with fail
      go_ret
      exact ⟨rfl, hbr'.out.trans (hb.mono hsz)⟩
end Go.Proofs.YtiemngihndbobaaDoor.Lx
