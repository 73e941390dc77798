/- The contract of LexCounts. -/
import Derived.Test.YtampjlafhglceaaDoorZ4
namespace Go.Proofs.YtampjlafhglceaaDoor
open Go.RowKit
theorem info22 : ∃ i, Tryd.prog.info? 22 = some i ∧ i.zero = some (.int .u8 0) ∧ i.size = 1 ∧ i.bytes = 1 := by
  have h : (Tryd.prog.info? 22).map (fun i => (i.zero, i.size, i.bytes)) = some (some (.int .u8 0), 1, 1) := by kernel_rfl
  cases hq : Tryd.prog.info? 22 with
  | none => rw [hq] at h; cases h
  | some i =>
    rw [hq] at h
    simp only [Option.map_some, Option.some.injEq, Prod.mk.injEq] at h
    exact ⟨i, rfl, h.1, h.2.1, h.2.2⟩
theorem info3 : ∃ i, Tryd.prog.info? 3 = some i ∧ i.zero = some (.int .i64 0) ∧ i.size = 1 ∧ i.bytes = 8 := by
  have h : (Tryd.prog.info? 3).map (fun i => (i.zero, i.size, i.bytes)) = some (some (.int .i64 0), 1, 8) := by kernel_rfl
  cases hq : Tryd.prog.info? 3 with
  | none => rw [hq] at h; cases h
  | some i =>
    rw [hq] at h
    simp only [Option.map_some, Option.some.injEq, Prod.mk.injEq] at h
    exact ⟨i, rfl, h.1, h.2.1, h.2.2⟩
def intsV (k : IntKind) (l : List Int) : List Value := l.map (.int k)
theorem ints_one (k : IntKind) (l : List Int) : ∀ u ∈ intsV k l, u.oneCell' = true := by
  intro u hu
  obtain ⟨x, _, rfl⟩ := List.mem_map.1 hu
  rfl
theorem owns_ints {w : World} {base : Nat} {e : TypeId} {k : IntKind} {v : Value} {ks : List Int} (h : w.ownsRow base e 1 v ks.length (intsV k ks)) :
    ∃ ad cap, v = .slice ad ks.length cap ∧ (∀ j x, ks[j]? = some x → ∃ g, ad = some ⟨g, 0, none⟩ ∧ w.cell? ⟨g, j, none⟩ = some (.int k x)) ∧ ∀ g, ad = some ⟨g, 0, none⟩ → g < w.heap.size := by
  by_cases hn : 0 < ks.length
  · obtain ⟨g, c, e1, hr⟩ := owns_range h hn
    refine ⟨_, c, e1, fun j x hx => ⟨g, rfl, ?_⟩, fun g2 hg2 => ?_⟩
    · have := hr j (.int k x) (by simp [intsV, hx])
      rw [Nat.zero_add] at this; exact this
    · cases hg2
      exact (h.lt g (by rw [e1]; rfl)).2
  · have h0 : ks = [] := List.eq_nil_of_length_eq_zero (by omega)
    subst h0
    rcases h.2 with h1 | ⟨g, c, cur, h1, h2, h3, _⟩
    · exact ⟨none, 0, h1.1, fun j x hx => by simp at hx, fun g hg => by cases hg⟩
    · exact ⟨_, c, h1, fun j x hx => by simp at hx, fun g2 hg2 => by cases hg2; exact (Array.getElem?_eq_some_iff.1 h3).1⟩
theorem owns_apart {w : World} {base : Nat} {e e' : TypeId} {v v' : Value} {n n' sz sz' : Nat} {xs xs' : List Value} (h : w.ownsRow base e sz v n xs) (h' : w.ownsRow base e' sz' v' n' xs') (he : e ≠ e') (g : Nat) (h1 : v.ownBlock = some g) : v'.ownBlock ≠ some g := by
  intro h2
  rcases h.2 with ⟨a1, _⟩ | ⟨g1, _, _, a1, _, a3, _⟩
  · rw [a1] at h1; cases h1
  · rcases h'.2 with ⟨b1, _⟩ | ⟨g2, _, _, b1, _, b3, _⟩
    · rw [b1] at h2; cases h2
    · rw [a1] at h1; rw [b1] at h2
      cases h1; cases h2
      rw [a3] at b3
      cases b3
      exact he rfl
theorem owns_grown {w w' : World} {base : Nat} {e : TypeId} {v : Value} {n sz : Nat} {xs : List Value} {row : Option Nat} (h : w.ownsRow base e sz v n xs) (hg : w.grownBy w' row) (hne : ∀ g, v.ownBlock = some g → row ≠ some g) : w'.ownsRow base e sz v n xs := by
  refine ⟨h.1, ?_⟩
  rcases h.2 with hn | ⟨g, cap, cur, h1, h2, h3, h4⟩
  · exact Or.inl hn
  · exact Or.inr ⟨g, cap, cur, h1, h2, (hg.block g (Array.getElem?_eq_some_iff.1 h3).1 (fun e => hne g (by rw [h1]; rfl) e.symm)).trans h3, h4⟩
theorem new_one (W : World) (u : Value) (t : TypeId) : ∀ j x, [u][j]? = some x → (W.alloc (.cells #[u] t)).cell? ((⟨W.heap.size, 0, none⟩ : Addr).add j) = some x := by
  intro j x hx
  rw [Addr.add_mid, cell_of_row _ _ _ _ _ _ (World.alloc_heap_new W (.cells #[u] t))]
  have h : [u] = #[u].toList := rfl
  rw [h] at hx
  simpa using hx
set_option maxRecDepth 100000 in
set_option maxHeartbeats 4000000 in
theorem c5 (s : ByteArray) (a : Int) (ad : Option Addr) (cap : Nat) (ks : List Int) (w : World) (hS : Signs w) (hs : s.size ≤ 100000000) (hlen : ks.length ≤ 100000000)
    (hK : ∀ j k, ks[j]? = some k → 0 ≤ k ∧ k ≤ 255 ∧ ∃ b o, ad = some ⟨b, o, none⟩ ∧ b < w.heap.size ∧ w.cell? ⟨b, o + j, none⟩ = some (.int .u8 k)) :
    Calls Tryd.prog 5 #[.string s, .int .i64 a, .slice ad ks.length cap] w fun e w' => e = .returned (.bool true) ∧ Below w.heap.size w w' := by
  obtain ⟨i22, hi22, hz22, hs22, hb22⟩ := info22
  obtain ⟨i3, hi3, hz3, hs3, hb3⟩ := info3
  have HS : Hid (Signs w) := hS
  have HK : Hid (∀ j k, ks[j]? = some k → 0 ≤ k ∧ k ≤ 255 ∧ ∃ b o, ad = some ⟨b, o, none⟩ ∧ b < w.heap.size ∧ w.cell? ⟨b, o + j, none⟩ = some (.int .u8 k)) := hK
  have H15 := fun w => c15 s a w hs
  have H16 := fun w => c16 s a w hs
  generalize lineOf s a = ln at *
  generalize colOf s a = cn at *
  clear hS hK
  go_enter Tryd.func5, Tryd.ntmps5
  go_wp2_with fail
  refine (H15 _).mono ?_
  rintro e w' ⟨rfl, hw'⟩
  obtain rfl := hw'.symm
  go_wp2_with fail
  refine (H16 _).mono ?_
  rintro e w' ⟨rfl, hw'⟩
  obtain rfl := hw'.symm
  clear H15 H16
  go_wp2_with fail
  go_loopw [11, 12, 13] (fun lv mv kv wr => ∃ (k : Nat) (l0 m0 : Value), l0 = lv ∧ m0 = mv ∧ k ≤ ks.length ∧ kv = .int .i64 k ∧ Hid (wr.ownsRow w.heap.size 22 1 l0 (ks.take k).length (intsV .u8 (ks.take k))) ∧ Hid (wr.ownsRow w.heap.size 3 1 m0 (ks.take k).length (intsV .i64 (ks.take k))) ∧ Below w.heap.size w wr) (fun _ _ kv _ => ks.length - (intOf kv).toNat)
  case atStart => exact ⟨0, _, _, rfl, rfl, Nat.zero_le _, rfl, World.ownsRow_nil _ _ _ _, World.ownsRow_nil _ _ _ _, Below.refl _ _⟩
  case round =>
    obtain ⟨k, l0, m0, hl0, hm0, hk, rfl, HO1, HO2, hbr⟩ := hrel
    subst hl0 hm0
    have hsz := hbr.size
    by_cases hlt : k < ks.length
    · have hlt' : (k : Int) < (ks.length : Int) := by omega
      have hk0 : (0 : Int) ≤ (k : Int) := by omega
      obtain ⟨x0, x1, b, o, had, hb, hc⟩ := HK.out k ks[k] (List.getElem?_eq_getElem hlt)
      have htk : ks.take (k + 1) = ks.take k ++ [ks[k]] := List.take_succ_eq_append_getElem hlt
      have hcr := (hbr.cell (p := ⟨b, o + k, none⟩) hb).trans hc
      have htl : (ks.take k).length = k := by rw [List.length_take]; omega
      generalize ks[k] = x at *
      subst had
      have hwr : IntKind.u8.wrap x = x := by rw [IntKind.wrap_u8]; omega
      have HB1 : ∀ o1 : Obj, Hid (Below w.heap.size w (wr.alloc o1)) := fun o1 => hbr.alloc hsz o1
      have HTK : Hid (ks.take (k + 1) = ks.take k ++ [x]) := htk
      have hap : ∀ g, m0.ownBlock = some g → l0.ownBlock ≠ some g := owns_apart HO2.out HO1.out (by decide)
      have HAP : Hid (∀ g, m0.ownBlock = some g → l0.ownBlock ≠ some g) := hap
      have HCR : Hid (wr.cell? ⟨b, o + k, none⟩ = some (.int .u8 x)) := hcr
      have hbw : b < wr.heap.size := Nat.lt_of_lt_of_le hb hsz
      have hl0g : ∀ g, l0.ownBlock = some g → w.heap.size ≤ g := fun g hg => (HO1.out.lt g hg).1
      have HL0 : Hid (∀ g, l0.ownBlock = some g → w.heap.size ≤ g) := hl0g
      clear htk hap hc hl0g
      go_wp2_with (at_builtin; refine wpList_append_own _ rfl _ _ 45 rfl w.heap.size 22 i22 (.int .u8 0) 1 1 Tryd.underlying45 hi22 hz22 hs22 hb22 rfl (by decide) _ _ _ rfl (HO1.out.alloc _) ⟨wr.heap.size, 0, none⟩ 1 1 (intsV .u8 [x]) rfl rfl (new_one wr (.int .u8 x) 22) (ints_one _ _) (by unfold maxLen; omega) (by omega) (by simp; omega) ?_)
      intro v' w3 hown' hgrow hnil
      have HO1' : Hid (w3.ownsRow w.heap.size 22 1 v' (ks.take (k + 1)).length (intsV .u8 (ks.take (k + 1)))) := by
        show w3.ownsRow _ _ _ _ _ _
        rw [HTK.out, List.length_append, htl, show intsV .u8 (ks.take k ++ [x]) = intsV .u8 (ks.take k) ++ intsV .u8 [x] by simp [intsV]]
        exact hown'
      have HO2' : Hid (w3.ownsRow w.heap.size 3 1 m0 (ks.take k).length (intsV .i64 (ks.take k))) := owns_grown (HO2.out.alloc _) hgrow HAP.out
      have HB3 : Hid (Below w.heap.size w w3) := (HB1 _).out.grown hgrow (by simp; omega) HL0.out
      have hcr3 : w3.cell? ⟨b, o + k, none⟩ = some (.int .u8 x) := (HB3.out.cell (p := ⟨b, o + k, none⟩) hb).trans (by rw [← HCR.out]; exact (hbr.cell (p := ⟨b, o + k, none⟩) hb).symm)
      have hsz3 := HB3.out.size
      have HAP3 : Hid (∀ g, v'.ownBlock = some g → m0.ownBlock ≠ some g) := owns_apart HO1'.out HO2'.out (by decide)
      have HM0 : Hid (∀ g, m0.ownBlock = some g → w.heap.size ≤ g) := fun g hg => (HO2'.out.lt g hg).1
      clear hown' hgrow hnil hcr HCR HO1 HO2 hbr
      go_wp2_with (at_builtin; refine wpList_append_own _ rfl _ _ 46 rfl w.heap.size 3 i3 (.int .i64 0) 1 8 Tryd.underlying46 hi3 hz3 hs3 hb3 rfl (by decide) _ _ _ rfl (HO2'.out.alloc _) ⟨w3.heap.size, 0, none⟩ 1 1 (intsV .i64 [x]) rfl rfl (new_one w3 (.int .i64 x) 3) (ints_one _ _) (by unfold maxLen; omega) (by omega) (by simp; omega) ?_)
      intro v4 w4 hown4 hgrow4 hnil4
      have HO2'' : Hid (w4.ownsRow w.heap.size 3 1 v4 (ks.take (k + 1)).length (intsV .i64 (ks.take (k + 1)))) := by
        show w4.ownsRow _ _ _ _ _ _
        rw [HTK.out, List.length_append, htl, show intsV .i64 (ks.take k ++ [x]) = intsV .i64 (ks.take k) ++ intsV .i64 [x] by simp [intsV]]
        exact hown4
      have HO1'' : Hid (w4.ownsRow w.heap.size 22 1 v' (ks.take (k + 1)).length (intsV .u8 (ks.take (k + 1)))) := owns_grown (HO1'.out.alloc _) hgrow4 HAP3.out
      have HB4 : Hid (Below w.heap.size w w4) := (HB3.out.alloc hsz3 _).grown hgrow4 (by simp; omega) HM0.out
      clear hown4 hgrow4 hnil4 hcr3
      go_wp2_with fail
      go_roundw
      case rel => exact ⟨k + 1, _, _, rfl, rfl, by omega, by go_num, HO1'', HO2'', HB4.out⟩
      case measure => simp [intOf]; omega
    · obtain rfl : k = ks.length := by omega
      have hlt' : ¬ ((ks.length : Int) < (ks.length : Int)) := by omega
      have HOl : Hid (wr.ownsRow w.heap.size 22 1 l0 ks.length (intsV .u8 ks)) := by
        have := HO1.out
        rw [List.take_length] at this; exact this
      have HOm : Hid (wr.ownsRow w.heap.size 3 1 m0 ks.length (intsV .i64 ks)) := by
        have := HO2.out
        rw [List.take_length] at this; exact this
      have HBR : Hid (Below w.heap.size w wr) := hbr
      clear HO1 HO2
      have q1 : (ln == ln) = true := by simp
      have q2 : (cn == cn) = true := by simp
      go_wp2_with fail
      refine (c11 wr (HS.out.below hbr)).mono ?_
      rintro e w2 ⟨rfl, hb2⟩
      obtain ⟨al, cl, hal, hcl, hgl⟩ := owns_ints (owns_below5 HOl.out hb2)
      obtain ⟨am, cm, ham, hcm, hgm⟩ := owns_ints (owns_below5 HOm.out hb2)
      subst hal ham
      have HB2 : Hid (Below w.heap.size w w2) := hbr.trans (hb2.mono hsz)
      have HCM : Hid (∀ j x, ks[j]? = some x → ∃ g, am = some ⟨g, 0, none⟩ ∧ w2.cell? ⟨g, j, none⟩ = some (.int .i64 x)) := hcm
      have HGM : Hid (∀ g, am = some ⟨g, 0, none⟩ → g < w2.heap.size) := hgm
      have H17 := c17 s al cl ks w2 (HS.out.below HB2.out) (by omega) hcl (by omega) hgl
      have H18 := fun (W : World) (hb : Below w2.heap.size w2 W) => c18 s am cm ks W (by omega) (fun j x hx => by
        obtain ⟨g, h1, h2⟩ := HCM.out j x hx
        exact ⟨g, h1, (hb.cell (p := ⟨g, j, none⟩) (HGM.out g h1)).trans h2⟩) (by omega) (fun g hg => Nat.lt_of_lt_of_le (HGM.out g hg) hb.size)
      clear hcl hcm hgl hgm hb2 HOl HOm
      generalize cntK ks (allL s) = n at *
      have q3 : ((n : Int) == (n : Int)) = true := by simp
      go_wp2_with fail
      refine H17.mono ?_
      rintro e w3 ⟨rfl, hb3⟩
      have HB3 : Hid (Below w2.heap.size w2 w3) := hb3
      go_wp2_with fail
      refine (H18 _ hb3).mono ?_
      rintro e w4 ⟨rfl, hb4⟩
      go_wp2_with fail
      go_ret
      exact ⟨rfl, HB2.out.trans ((HB3.out.trans (hb4.mono HB3.out.size)).mono HB2.out.size)⟩
end Go.Proofs.YtampjlafhglceaaDoor
