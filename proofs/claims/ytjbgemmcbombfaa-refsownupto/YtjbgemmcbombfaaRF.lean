/- Contracts of sorting nothing or one. -/
import Derived.Test.YtjbgemmcbombfaaRE
namespace Go.Proofs.Ytjbgemmcbombfaa
open Go.RowKit
attribute [local go_sem ↓] Go.wp_at_zero Go.wp_at_succ
set_option maxRecDepth 100000 in
theorem r68 (n : Nat) (hn : n ≤ 1) (w : World) : Calls Try.prog 68 #[.int .u64 (n : Int)] w fun e w' => (∃ k, e = .returned (.int .i64 k)) ∧ w' = w := by
  have H79 : Calls Try.prog 79 #[.int .u64 (n : Int)] w fun e w' => ∃ k, e = .returned (.int .i64 k) ∧ w' = w := by
    refine (r79 n hn w).mono ?_
    rintro e w' ⟨⟨k, rfl⟩, rfl⟩
    exact ⟨k, rfl, rfl⟩
  go_enter Try.func68, Try.ntmps68
  go_wp2_with fail
  refine H79.mono ?_
  rintro e w' ⟨k, rfl, hw⟩
  obtain rfl := hw.symm
  go_wp2_with fail
  go_ret
  exact ⟨⟨_, rfl⟩, rfl⟩
set_option maxRecDepth 100000 in
theorem r70 (a : Option Addr) (n c : Nat) (hn : n ≤ 1) (v : Value) (w : World) : Calls Try.prog 70 #[.slice a n c, .int .i64 0, .int .i64 (n : Int), v] w fun e w' => e = .returned (.tuple #[]) ∧ w' = w := by
  have h1 : ¬ (1 : Int) < (n : Int) := by omega
  go_enter Try.func70, Try.ntmps70
  go_wp2_with fail
  refine wp_loop_rounds 1 ?_
  rw [rounds_succ]
  go_wp2_with fail
  go_end0
  exact ⟨rfl, rfl⟩
set_option maxRecDepth 100000 in
theorem r67 (a : Option Addr) (n c : Nat) (hn : n ≤ 1) (k : Int) (v : Value) (w : World) : Calls Try.prog 67 #[.slice a n c, .int .i64 0, .int .i64 (n : Int), .int .i64 k, v] w fun e w' => e = .returned (.tuple #[]) ∧ w' = w := by
  have h1 : (n : Int) ≤ 12 := by omega
  go_enter Try.func67, Try.ntmps67
  go_wp2_with fail
  refine wp_loop_rounds 1 ?_
  rw [rounds_succ]
  go_wp2_with fail
  refine (r70 a n c hn v w).mono ?_
  rintro e w' ⟨rfl, hw⟩
  obtain rfl := hw.symm
  go_wp2_with fail
  exact bodyPost_ret (v := .tuple #[]) (by simp [results, Try.results67, go_sem]) rfl ⟨rfl, rfl⟩
set_option maxRecDepth 100000 in
theorem r61 (a : Option Addr) (n c : Nat) (hn : n ≤ 1) (v : Value) (w : World) : Calls Try.prog 61 #[.slice a n c, v] w fun e w' => e = .returned (.tuple #[]) ∧ w' = w := by
  have H68 : Calls Try.prog 68 #[.int .u64 (n : Int)] w fun e w' => ∃ k, e = .returned (.int .i64 k) ∧ w' = w := by
    refine (r68 n hn w).mono ?_
    rintro e w' ⟨⟨k, rfl⟩, rfl⟩
    exact ⟨k, rfl, rfl⟩
  have hw0 : IntKind.u64.wrap (n : Int) = (n : Int) := by
    simp only [IntKind.wrap, IntKind.bits, IntKind.signed]; simp; omega
  go_enter Try.func61, Try.ntmps61
  go_wp2_with fail
  refine H68.mono ?_
  rintro e w' ⟨k, rfl, hw⟩
  obtain rfl := hw.symm
  go_wp2_with fail
  refine (r67 a n c hn k v w).mono ?_
  rintro e w' ⟨rfl, hw⟩
  obtain rfl := hw.symm
  go_wp2_with fail
  go_end0
  exact ⟨rfl, rfl⟩
theorem info74 : ∃ i, Try.prog.info? 74 = some i ∧ i.zero = some (.agg #[.int .i64 0, .int .i64 0, .int .i64 0, .int .i64 0]) ∧ i.size = 4 ∧ i.bytes = 32 := by
  have h : (Try.prog.info? 74).map (fun i => (i.zero, i.size, i.bytes)) = some (some (.agg #[.int .i64 0, .int .i64 0, .int .i64 0, .int .i64 0]), 4, 32) := by kernel_rfl
  cases hq : Try.prog.info? 74 with
  | none => rw [hq] at h; cases h
  | some i =>
    rw [hq] at h
    simp only [Option.map_some, Option.some.injEq, Prod.mk.injEq] at h
    exact ⟨i, rfl, h.1, h.2.1, h.2.2⟩
/-- What rising tells where there is at most one count. -/
def riseL (f : Hk → Int) (k : Hk) : List Value := if f k = 0 then [] else [.int .i64 k.1.1, .int .i64 k.1.2, .int .i64 k.2, .int .i64 (f k)]
def riseN (f : Hk → Int) (k : Hk) : Nat := if f k = 0 then 0 else 1
def RiseTo (w : World) (f : Hk → Int) (k : Hk) (v : Value) (w' : World) : Prop := w'.ownsRow w.heap.size 74 4 v (riseN f k) (riseL f k) ∧ Below w.heap.size w w'
/-- While the map is gone through. -/
def RiseI (w : World) (b r n : Nat) (D : DataW Value) (f : Hk → Int) (k : Hk) (left : Lit → Bool) (cnt : Nat) (lv : Value) (wr : World) : Prop :=
  wr.ranges Try.prog 87 heldElem b r n D left cnt ∧ Below w.heap.size w wr ∧ w.heap.size ≤ r ∧ lv.ownBlock ≠ some r ∧
    ((left = Maps.has D ∧ lv = .slice none 0 0) ∨ (¬ f k = 0 ∧ (∀ x, wfK x → left (kLit x) = false) ∧ wr.ownsRow w.heap.size 74 4 lv 1 [.int .i64 k.1.1, .int .i64 k.1.2, .int .i64 k.2, .int .i64 (f k)]))
set_option maxRecDepth 100000 in
set_option maxHeartbeats 4000000 in
theorem r49 (b n : Nat) (f : Hk → Int) (k : Hk) (w : World) (h : MpAt hkK w b n (cF f)) (hone : ∀ x, wfK x → x ≠ k → f x = 0) (hk : wfK k) :
    Calls Try.prog 49 #[.map (some b)] w fun e w' => ∃ a m c, e = .returned (.slice a m c) ∧ RiseTo w f k (.slice a m c) w' := by
  obtain ⟨i0, hi0, hz0, hsz0, hby0⟩ := info74
  obtain ⟨D, hown, hD⟩ := h
  have HD : Hid ((∀ x, wfK x → Maps.has D (kLit x) = (cF f x).isSome ∧ ∀ v, cF f x = some v → ∀ z, D.atKey (kLit x) z = .held v) ∧ (∀ x, wfK x → x ≠ k → f x = 0) ∧ wfK k ∧ b < w.heap.size) := ⟨hD, hone, hk, hown.lt⟩
  clear hD hone hk
  go_enter Try.func49, Try.ntmps49
  go_wp2_with (first | (at_range; refine wpList_range_own _ rfl _ 79 rfl 87 3 (Maps.Keyed.of_law law87) Try.underlying79 _ b n D rfl hown ?_; intro w0 hrg0 hg0 hs0) | fail)
  have HI0 : Hid (RiseI w b w.heap.size n D f k (Maps.has D) (Maps.size D) (.slice none 0 0) w0) :=
    ⟨hrg0, ⟨hg0.os, hg0.tape, hg0.output, hg0.size, fun j hj => hg0.block j hj (by simp)⟩, Nat.le_refl _, fun e => by (cases e), .inl ⟨rfl, rfl⟩⟩
  obtain ⟨r, hr⟩ : ∃ r, w.heap.size = r := ⟨_, rfl⟩
  have HR : Hid (w.heap.size = r) := hr
  rw [hr] at HI0
  clear hrg0 hg0 hs0 hown
  go_frame
  go_loopw [3] (fun lv wr => (∃ a m c, lv = .slice a m c) ∧ ∃ left cnt, Hid (RiseI w b r n D f k left cnt lv wr)) (fun _ wr => wr.rangeLeft b r)
  case atStart => exact ⟨⟨_, _, _, rfl⟩, _, _, HI0⟩
  case round =>
    clear HI0
    obtain ⟨⟨la, lm, lc, rfl⟩, left, cnt, HK⟩ := hrel
    obtain ⟨hrg, hbel, hwr, hnr, hcase⟩ := HK.out
    have HLE : Hid (wr.rangeLeft b r = cnt) := hrg.left_eq
    go_wp2_with (first | (at_next; refine wpList_next_ranges (α := Value) (β := Value) _ rfl _ rfl 87 (Maps.Keyed.of_law law87) heldElem (fun x => x) (fun x => x) (fun key _ _ => ⟨key, rfl⟩) (fun v _ _ => ⟨v, rfl⟩) b r n D left cnt (by rw [← HR.out]; rfl) hrg ?_ ?_) | fail)
    · intro hc0 hl0
      have HF : Hid (RiseTo w f k (.slice la lm lc) wr) := by
        refine ⟨?_, hbel⟩
        rcases hcase with ⟨e1, e2⟩ | ⟨h1, _, h3⟩
        · have hf : f k = 0 := by
            have h4 := (HD.out.1 k HD.out.2.2.1).1
            rw [← e1, hl0] at h4
            unfold cF at h4
            split at h4
            · assumption
            · cases h4
          unfold riseN riseL
          rw [if_pos hf, if_pos hf, e2]
          exact World.ownsRow_nil _ _ _ _
        · unfold riseN riseL
          rw [if_neg h1, if_neg h1]
          exact h3
      have hlm : lm ≤ 1 := by
        rcases hcase with ⟨_, e2⟩ | ⟨_, _, h3⟩
        · cases e2; omega
        · rcases h3.2 with ⟨e, _⟩ | ⟨g, cap, cur, e, _⟩
          · cases e; omega
          · cases e; omega
      clear hrg hbel hwr hnr hcase HK HLE
      go_wp2_with fail
      refine (r61 la lm lc hlm _ wr).mono ?_
      rintro e w' ⟨rfl, hw⟩
      obtain rfl := hw.symm
      go_wp2_with fail
      go_ret
      exact ⟨la, lm, lc, rfl, HF.out⟩
    · intro x c kl y1 y2 w1 cnt1 hkey hlk hv hat hrg1 hlt hg1 hs1 hen
      obtain ⟨k', hwk, hxk, hkl⟩ := key_inv hkey
      subst hxk hkl
      have hold : left = Maps.has D ∧ lm = 0 ∧ la = none ∧ lc = 0 := by
        rcases hcase with ⟨e1, e2⟩ | ⟨_, h2, _⟩
        · cases e2; exact ⟨e1, rfl, rfl, rfl⟩
        · rw [h2 k' hwk] at hlk; cases hlk
      obtain ⟨e1, rfl, rfl, rfl⟩ := hold
      have hfk : ∀ x, wfK x → left (kLit x) = true → ¬ f x = 0 ∧ x = k := fun x hx hl => by
        have h4 := (HD.out.1 x hx).1
        rw [← e1, hl] at h4
        have hne : ¬ f x = 0 := fun h5 => by simp [cF, h5] at h4
        refine ⟨hne, ?_⟩
        by_cases e : x = k
        · exact e
        · exact absurd (HD.out.2.1 x hx e) hne
      obtain ⟨hne, rfl⟩ := hfk k' hwk hlk
      have hcv : c = .int .i64 (f k') := by
        have h5 := (HD.out.1 k' hwk).2 (.int .i64 (f k')) (by simp [cF, hne]) (.held (.bool true))
        rw [hat] at h5
        have h6 : heldElem c = some (.held c, []) := rfl
        rw [h6] at hv
        simp only [Option.some.injEq, Prod.mk.injEq] at hv
        rw [← hv.1] at h5
        simp only [DataW.held.injEq] at h5
        exact h5
      subst hcv
      have HN : Hid (RiseI w b r n D f k' (fun z => left z && !z.sameKey (kLit k')) cnt1 (.slice none 0 0) w1 → False ∨ True) := fun _ => .inr trivial
      clear HN
      have HG : Hid (w1.ranges Try.prog 87 heldElem b r n D (fun z => left z && !z.sameKey (kLit k')) cnt1 ∧ Below w.heap.size w w1 ∧ w.heap.size ≤ r ∧ ¬ f k' = 0 ∧ (∀ x, wfK x → (left (kLit x) && !(kLit x).sameKey (kLit k')) = false) ∧ cnt1 < cnt ∧ r < w1.heap.size ∧ b < w.heap.size) := by
        refine ⟨hrg1, ⟨hg1.os.trans hbel.os, hg1.tape.trans hbel.tape, hg1.output.trans hbel.output, Nat.le_trans hbel.size hg1.size, fun j hj => (hg1.block j (Nat.lt_of_lt_of_le hj hbel.size) (by simp; omega)).trans (hbel.block j hj)⟩, hwr, hne, fun x hx => ?_, hlt, hrg1.lt, HD.out.2.2.2⟩
        cases hq : left (kLit x)
        · rfl
        · obtain ⟨_, rfl⟩ := hfk x hx hq
          simp [WideAt.sameKey_self ((Maps.Keyed.of_law law87).key (key87 x hx))]
      obtain ⟨⟨k1, k2⟩, k3⟩ := k'
      have hen' : (Instr.entry (.pointer (some ⟨r, 0, none⟩))).run Try.prog w1 = .ok (.tuple #[.agg #[.int .i64 k1, .int .i64 k2, .int .i64 k3], .int .i64 (f ((k1, k2), k3))]) w1 := hen
      obtain ⟨W2, hW2⟩ : ∃ W2, w1.alloc (.cells #[.int .i64 0, .int .i64 0, .int .i64 0] 87) = W2 := ⟨_, rfl⟩
      obtain ⟨vb, hvb⟩ : ∃ vb, w1.heap.size = vb := ⟨_, rfl⟩
      have hc : W2.heap[vb]? = some (.cells #[.int .i64 0, .int .i64 0, .int .i64 0] 87 (0, 0)) := by rw [← hW2, ← hvb]; exact heap_alloc_new w1 _
      obtain ⟨c0, c1, c2⟩ := box3 hc
      have g0 := frozen_of_row W2 vb 0 _ 87 hc
      have g1 := frozen_of_row W2 vb 1 _ 87 hc
      have g2 := frozen_of_row W2 vb 2 _ 87 hc
      obtain ⟨V, hV⟩ : ∃ V, ((W2.setCell ⟨vb, 0, none⟩ (.int .i64 k1)).setCell ⟨vb, 1, none⟩ (.int .i64 k2)).setCell ⟨vb, 2, none⟩ (.int .i64 k3) = V := ⟨_, rfl⟩
      have HV : Hid (Below w1.heap.size w1 V ∧ V.heap[vb]? = some (.cells #[.int .i64 k1, .int .i64 k2, .int .i64 k3] 87 (0, 0)) ∧ w1.heap.size ≤ V.heap.size) := by
        have h1 : Below w1.heap.size w1 W2 := by rw [← hW2]; exact (Below.refl _ _).alloc (Nat.le_refl _) _
        have h0 : w1.heap.size ≤ vb := by omega
        have e1 := heap_setCell_same W2 vb 0 _ 87 (.int .i64 k1) hc
        have e2 := heap_setCell_same _ vb 1 _ 87 (.int .i64 k2) e1
        have e3 := heap_setCell_same _ vb 2 _ 87 (.int .i64 k3) e2
        have hb : Below w1.heap.size w1 V := by
          rw [← hV]
          exact ((h1.setCell (p := ⟨vb, 0, none⟩) h0 _).setCell (p := ⟨vb, 1, none⟩) h0 _).setCell (p := ⟨vb, 2, none⟩) h0 _
        exact ⟨hb, by rw [← hV]; exact e3, hb.size⟩
      obtain ⟨q0, q1, q2⟩ := box3 HV.out.2.1
      obtain ⟨fk, hfke⟩ : ∃ fk, f ((k1, k2), k3) = fk := ⟨_, rfl⟩
      have HFK : Hid (f ((k1, k2), k3) = fk) := hfke
      rw [hfke] at hen'
      clear hfke hc hen hkey hlk hv hat hrg1 hlt hg1 hs1 hrg hbel hwr hnr hcase HK hfk e1 hwk hne
      go_wp2_with (at_builtin; refine wpList_append_own_at _ rfl _ _ 43 rfl w.heap.size 74 i0 _ 4 32 Try.underlying43 hi0 hz0 hsz0 hby0 rfl (by decide) (.slice none 0 0) 0 [] rfl (World.ownsRow_nil _ _ _ _) ⟨V.heap.size, 0, none⟩ 1 1 [.int .i64 k1, .int .i64 k2, .int .i64 k3, .int .i64 fk] rfl rfl (fun j u hu => by rw [Addr.add_mid, Nat.zero_add, cell_of_row _ V.heap.size j _ 74 (0, 0) (heap_alloc_new V _)]; simpa using hu) (fun u hu => by simp at hu; rcases hu with rfl | rfl | rfl | rfl <;> rfl) (by unfold maxLen; omega) (by omega) (by have := HV.out.2.2; have := HG.out.2.1.size; simp; omega) ?_)
      intro v' wf hown hgrow _ hat
      have hsl : ∃ a' c', v' = .slice a' 1 c' := by
        rcases hown.2 with ⟨_, e⟩ | ⟨g, cap, cur, e, _⟩
        · omega
        · exact ⟨_, _, e⟩
      obtain ⟨a', c', rfl⟩ := hsl
      have HN : Hid (RiseI w b r n D f ((k1, k2), k3) (fun z => left z && !z.sameKey (kLit ((k1, k2), k3))) cnt1 (.slice a' 1 c') wf) := by
        obtain ⟨q1, q2, q3, q4, q5, q6, q7, q8⟩ := HG.out
        obtain ⟨p1, p2, p3⟩ := HV.out
        have b1 : w1.grownBy V none := ⟨p1.os, p1.tape, p1.output, p1.size, fun j hj _ => p1.block j hj⟩
        have q1' := (q1.kept b1 (by simp) (by simp)).alloc (.cells #[.int .i64 k1, .int .i64 k2, .int .i64 k3, .int .i64 fk] 74)
        have hg : (V.alloc (.cells #[.int .i64 k1, .int .i64 k2, .int .i64 k3, .int .i64 fk] 74)).grownBy wf none := hgrow
        have b2 : Below w.heap.size w (V.alloc (.cells #[.int .i64 k1, .int .i64 k2, .int .i64 k3, .int .i64 fk] 74)) := (q2.trans (p1.mono q2.size)).alloc (Nat.le_trans q2.size p3) _
        refine ⟨q1'.kept hg (by simp) (by simp), ⟨hg.os.trans b2.os, hg.tape.trans b2.tape, hg.output.trans b2.output, Nat.le_trans b2.size hg.size, fun j hj => (hg.block j (Nat.lt_of_lt_of_le hj b2.size) (by simp)).trans (b2.block j hj)⟩, q3, fun e => ?_, .inr ⟨q4, q5, ?_⟩⟩
        · rcases hat with e1 | e1
          · rw [e1] at e; cases e
          · rw [e1] at e
            simp only [Option.some.injEq] at e
            omega
        · rw [HFK.out, HR.out]
          exact hown
      have HM : Hid (cnt1 < cnt) := HG.out.2.2.2.2.2.1
      clear hown hgrow hat HG HV hW2 hvb c0 c1 c2 g0 g1 g2 hV q0 q1 q2 hen'
      go_wp2_with fail
      go_roundw
      case rel =>
        rw [HR.out]
        repeat apply Exists.intro
        refine ⟨⟨⟨_, _, _, rfl⟩, _, _, HN⟩, ?_⟩
        rfl
      case measure =>
        rw [HN.out.1.left_eq, HLE.out]
        exact HM.out
end Go.Proofs.Ytjbgemmcbombfaa
