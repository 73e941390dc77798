/- The statement on one step: it returns true. -/
import Derived.Test.YtljggjllijacjaaGreatDoorUX
import Derived.Test.YtljggjllijacjaaGreatDoorMA
import Derived.Test.YtljggjllijacjaaGreatDoorUA
namespace Go.Proofs.YtljggjllijacjaaGreatDoor
open Go.RowKit
attribute [local go_sem ↓] Go.wp_at_zero Go.wp_at_succ
theorem bd_below {w W : World} {a : Option Addr} {n : Nat} {bs : List Bn} (h : BdRow w a n bs) (hb : Below w.heap.size w W) : BdRow W a n bs := by
  refine ⟨⟨h.row.len, ?_⟩, fun b hb' => ⟨(h.el b hb').1.below hb, (h.el b hb').2⟩⟩
  rcases h.row.mem with e | ⟨b, o, e, h1, h2⟩
  · exact .inl e
  · exact .inr ⟨b, o, e, Nat.lt_of_lt_of_le h1 hb.size, range_below h2 h1 hb⟩
theorem Fi.kb {w w' : World} {g t b' : Nat} {a b c d e : Value} {cb : Array Value} (h : Fi w g t a b c d e) (hb : Bk.BookAt w b' cb) (h1 : t ≠ 50) (h2 : t ≠ 23) (hk : Kb b' w w') : Fi w' g t a b c d e := by
  have h' : w.heap[g]? = some (.cells #[a, b, c, d, e] t (0, 0)) := h
  have hb' : w.heap[b']? = some (.cells cb 50 (0, 0)) := hb
  refine (hk.2 g h.cells.2 (fun e2 => ?_) (fun cu fr h5 => ?_)).trans h'
  · subst e2
    rw [h'] at hb'
    simp only [Option.some.injEq, Obj.cells.injEq] at hb'
    exact h1 hb'.2.1
  · rw [h'] at h5
    simp only [Option.some.injEq, Obj.cells.injEq] at h5
    exact h2 h5.2.1
theorem TkR.of {w w' : World} {B b : Nat} {vs us : List Value} {P : List (List C)} {pv : Value} {cb : Array Value} (hb : Bk.BookAt w b cb) (hk : Kb b w w') (hr : w.ownsRow B 24 1 pv P.length us) (he : ∀ (j : Nat) (v : Value) (x : List C), us[j]? = some v → P[j]? = some x → OwnT w B v x) (ha : Ap us)
    (hp : ∀ (j i : Nat) (v u : Value) (g : Nat), vs[j]? = some v → us[i]? = some u → u.ownBlock = some g → v.ownBlock ≠ some g) : TkR w' B vs us P pv :=
  ⟨hk.owns hb (by decide) (by decide) hr, fun j v x h1 h2 => hk.owns hb (by decide) (by decide) (he j v x h1 h2), ha, hp⟩
theorem row_base {w : World} {B B' : Nat} {e : TypeId} {s n : Nat} {v : Value} {xs : List Value} (h : w.ownsRow B e s v n xs) (hb : B' ≤ B) : w.ownsRow B' e s v n xs := by
  refine ⟨h.1, ?_⟩
  rcases h.2 with hh | ⟨g, cap, cur, e1, e2, e3⟩
  · exact .inl hh
  · exact .inr ⟨g, cap, cur, e1, by omega, e3⟩
/-- Old memory, and the cell that holds the document's row. -/
abbrev SqS (w3 : World) (rt : Nat) (rv : Value) (W : World) : Prop := W.cell? ⟨rt, 0, none⟩ = some rv ∧ Hid (Below w3.heap.size w3 W)
theorem sqS_to {w3 W W' : World} {rt : Nat} {rv : Value} (hrt : rt < w3.heap.size) (h : SqS w3 rt rv W) (hb : Below w3.heap.size W W') : SqS w3 rt rv W' :=
  ⟨(World.cell?_of_block (hb.block rt hrt)).trans h.1, Below.trans h.2.out hb⟩
theorem sqS_drew {w3 W : World} {rt : Nat} {rv : Value} (h : SqS w3 rt rv W) : SqS w3 rt rv W.drew := ⟨h.1, h.2.out.drew⟩
set_option maxRecDepth 100000 in
set_option maxHeartbeats 8000000 in
theorem t3 (a : Option Addr) (n c : Nat) (bs0 : List Bn) (l1 l2 : List C) (v1 v2 : Value) (w : World) (hA : BdRow w a n bs0) (hn : n ≤ 3518437208780) (hT1 : TermAt w v1 l1) (hW1 : ∀ c ∈ l1, wfN (c.vn, c.vk)) (hT2 : TermAt w v2 l2) (hW2 : ∀ c ∈ l2, wfN (c.vn, c.vk))
    (hL1 : 48 * l1.length ≤ 140737488355328) (hL2 : 48 * l2.length ≤ 140737488355328) (hS : Signs w) :
    Calls Tryz.prog 3 #[.slice a n c, v1, v2] w fun e w' => e = .returned (.bool true) ∧ Below w.heap.size w w' := by
  have HT : Hid (TermAt w v1 l1 ∧ TermAt w v2 l2 ∧ Signs w) := ⟨hT1, hT2, hS⟩
  have H6 := i7 a n c bs0 w hA hn hS
  obtain ⟨a1, c1, hf⟩ := hT1.form
  subst hf
  obtain ⟨a2, c2, hf⟩ := hT2.form
  subst hf
  clear hA hT1 hT2 hS
  go_enter Tryz.func3, Tryz.ntmps3
  go_wp2_with fail
  refine H6.mono ?_
  rintro e w1 ⟨hb, M, rt, rfl, HM⟩
  obtain ⟨m, G, bs, hBm, hpe, hup, hbl⟩ := HM.out
  have HB1 : Hid (Below w.heap.size w w1) := hBm.bel
  obtain ⟨nn, D, V, hH, _, hnn, _⟩ := hBm.hp
  have HHp : Hid (HpAt w1 hb M nn D m ∧ nn ≤ n) := ⟨hH, hnn⟩
  have HRf : Hid (RfH w1 G rt bs ∧ hpOf bs = m ∧ bs.length ≤ n) := ⟨hBm.rf, hpe, hbl⟩
  have HUp : Hid (RisesH m) := hup
  have HLen : Hid (∀ x l, lookH m x = some l → l.length * 48 ≤ 140737488355328 ∧ l ≠ [] ∧ rightB l = true) := hBm.len
  have HQ : Hid (DerQ w1 (.pointer (some ⟨rt, 0, none⟩)) m) := by
    have h := derQ_rf hBm.rf (by rw [hpe]; exact hup) (by rw [hpe]; exact hH.desc) (by rw [hpe]; exact hH.wf) (by omega)
    rw [hpe] at h
    exact h
  clear hBm hpe hup hbl hH hnn HM H6
  have H7a := k6 l1 (.slice a1 l1.length c1) w1 (HT.out.1.below HB1.out) hL1
  go_wp2_with fail
  refine H7a.mono ?_
  rintro e w2 ⟨g1, rfl, hr1, hg1, hb2⟩
  have HG1 : Hid (w2.rangeAt g1 0 (flat (handL l1)) ∧ g1 < w2.heap.size) := ⟨hr1, hg1⟩
  have HB2 : Hid (Below w1.heap.size w1 w2 ∧ Below w.heap.size w w2) := ⟨hb2, HB1.out.trans (hb2.mono HB1.out.size)⟩
  clear hr1 hg1 hb2 H7a
  have H7b := k6 l2 (.slice a2 l2.length c2) w2 (HT.out.2.1.below HB2.out.2) hL2
  go_wp2_with fail
  refine H7b.mono ?_
  rintro e w3 ⟨g2, rfl, hr2, hg2, hb3⟩
  have HB3 : Hid (Below w1.heap.size w1 w3 ∧ Below w.heap.size w w3) := ⟨HB2.out.1.trans (hb3.mono HB2.out.1.size), HB2.out.2.trans (hb3.mono HB2.out.2.size)⟩
  have HG2 : Hid (w3.rangeAt g1 0 (flat (handL l1)) ∧ g1 < w3.heap.size ∧ w3.rangeAt g2 0 (flat (handL l2)) ∧ g2 < w3.heap.size) := ⟨range_below HG1.out.1 HG1.out.2 hb3, Nat.lt_of_lt_of_le HG1.out.2 hb3.size, hr2, hg2⟩
  clear hr2 hg2 hb3 H7b HG1 HB2
  have HX : Hid (∀ W, Below w3.heap.size w3 W → HpV W (.pointer (some ⟨hb, 0, none⟩)) m ∧ TermAt W (.slice a1 l1.length c1) l1 ∧ TermAt W (.slice a2 l2.length c2) l2 ∧ TermAt W (.slice (some ⟨g1, 0, none⟩) l1.length (l1.length + 9)) l1 ∧ TermAt W (.slice (some ⟨g2, 0, none⟩) l2.length (l2.length + 9)) l2 ∧ Signs W) := fun W hW => by
    have hw1 : Below w1.heap.size w1 W := HB3.out.1.trans (hW.mono HB3.out.1.size)
    have hw0 : Below w.heap.size w W := HB3.out.2.trans (hW.mono HB3.out.2.size)
    exact ⟨.inr ⟨hb, M, nn, D, rfl, HHp.out.1.below hw1⟩, HT.out.1.below hw0, HT.out.2.1.below hw0, (hand_term HG2.out.1 HG2.out.2.1 HT.out.1.1.2 hL1).below hW, (hand_term HG2.out.2.2.1 HG2.out.2.2.2 HT.out.2.1.1.2 hL2).below hW, HT.out.2.2.below hw0⟩
  have HY : Hid (∀ W, Below w3.heap.size w3 W → DerQ W (.pointer (some ⟨rt, 0, none⟩)) m) := fun W hW => by
    have hw1 : Below w1.heap.size w1 W := HB3.out.1.trans (hW.mono HB3.out.1.size)
    exact fun U t v hU => HQ.out U t v (hw1.trans (hU.mono hw1.size))
  obtain ⟨k, ⟨V1, V2⟩, T, P, hkr, hTs, hPs, hs1, hs2⟩ := step_two m l1 l2 HLen.out hW1 hW2
  obtain ⟨k0, ⟨V3, V4⟩, T0, P0, hkr0, hTs0, hPs0, hz1, hz2⟩ := step_two [] l1 l2 (fun x l h => by cases h) hW1 hW2
  have HSt : Hid (Sht T ∧ (P.length ≤ 8 ∧ ∀ p ∈ P, Sht p) ∧ Sht T0 ∧ (P0.length ≤ 8 ∧ ∀ p ∈ P0, Sht p)) := ⟨hTs, hPs, hTs0, hPs0⟩
  have HC8 : Hid (∀ W, Below w3.heap.size w3 W → Calls Tryz.prog 8 #[.pointer (some ⟨hb, 0, none⟩), .slice (some ⟨g1, 0, none⟩) l1.length (l1.length + 9), .slice (some ⟨g2, 0, none⟩) l2.length (l2.length + 9)] W fun e w' => StV k (V1, V2) T P e W w') := fun W hW => by
    obtain ⟨q1, q2, q3, q4, q5, q6⟩ := HX.out W hW
    exact hs1 W _ _ _ q1 q4 q5 q6
  have HC8n : Hid (∀ W, Below w3.heap.size w3 W → Calls Tryz.prog 8 #[.pointer none, .slice (some ⟨g1, 0, none⟩) l1.length (l1.length + 9), .slice (some ⟨g2, 0, none⟩) l2.length (l2.length + 9)] W fun e w' => StV k0 (V3, V4) T0 P0 e W w') := fun W hW => by
    obtain ⟨q1, q2, q3, q4, q5, q6⟩ := HX.out W hW
    exact hz1 W _ _ _ (.inl ⟨rfl, rfl⟩) q4 q5 q6
  have HC12 : Hid (∀ W, Below w3.heap.size w3 W → Calls Tryz.prog 12 #[.pointer (some ⟨rt, 0, none⟩), .slice a1 l1.length c1, .slice a2 l2.length c2] W fun e w' => StR k (V1, V2) T P e W w') := fun W hW => by
    obtain ⟨q1, q2, q3, q4, q5, q6⟩ := HX.out W hW
    exact hs2 W _ _ _ (HY.out W hW) q2 q3
  have HC12n : Hid (∀ W, Below w3.heap.size w3 W → Calls Tryz.prog 12 #[.pointer none, .slice a1 l1.length c1, .slice a2 l2.length c2] W fun e w' => StR k0 (V3, V4) T0 P0 e W w') := fun W hW => by
    obtain ⟨q1, q2, q3, q4, q5, q6⟩ := HX.out W hW
    exact hz2 W _ _ _ (derQ_nil W) q2 q3
  clear hs1 hs2 hz1 hz2 hTs hPs hTs0 hPs0 hW1 hW2
  have H8a := HC8.out w3 (Below.refl _ _)
  go_wp2_with fail
  refine H8a.mono ?_
  rintro e w4 ⟨ta, tn, tc, pa, pn, pc, rfl, hO4, hP4, hb4, hz4⟩
  have HO4 : Hid (OwnT w4 w3.heap.size (.slice ta tn tc) T ∧ OwnRow w4 w3.heap.size (.slice pa pn pc) P ∧ (P = [] ∨ ta = none)) := ⟨hO4, hP4, hz4⟩
  obtain ⟨W4, hW4⟩ : ∃ W4, w4.alloc (.cells #[.int .u8 k, .int .i64 V1, .int .i64 V2, .slice ta tn tc, .slice pa pn pc] 35) = W4 := ⟨_, rfl⟩
  obtain ⟨r4, hr4⟩ : ∃ r4, w4.heap.size = r4 := ⟨_, rfl⟩
  have HF4 : Hid (Fi W4 r4 35 (.int .u8 k) (.int .i64 V1) (.int .i64 V2) (.slice ta tn tc) (.slice pa pn pc) ∧ Below w3.heap.size w3 W4 ∧ Below w4.heap.size w4 W4) := by
    rw [← hW4, ← hr4]
    exact ⟨Fi.new _ _ _ _ _ _ _, hb4.alloc hb4.size _, below_alloc _ _⟩
  clear hO4 hP4 hb4 hz4 H8a
  go_wp2_with fail
  clear hW4
  refine (HC8n.out W4 HF4.out.2.1).mono ?_
  rintro e w5 ⟨ta0, tn0, tc0, pa0, pn0, pc0, rfl, hO5, hP5, hb5, _⟩
  have HO5 : Hid (OwnT w5 W4.heap.size (.slice ta0 tn0 tc0) T0 ∧ OwnRow w5 W4.heap.size (.slice pa0 pn0 pc0) P0) := ⟨hO5, hP5⟩
  obtain ⟨W5, hW5⟩ : ∃ W5, w5.alloc (.cells #[.int .u8 k0, .int .i64 V3, .int .i64 V4, .slice ta0 tn0 tc0, .slice pa0 pn0 pc0] 35) = W5 := ⟨_, rfl⟩
  obtain ⟨r5, hr5⟩ : ∃ r5, w5.heap.size = r5 := ⟨_, rfl⟩
  have HF5 : Hid (Fi W5 r5 35 (.int .u8 k0) (.int .i64 V3) (.int .i64 V4) (.slice ta0 tn0 tc0) (.slice pa0 pn0 pc0) ∧ Below W4.heap.size W4 W5 ∧ Below w5.heap.size w5 W5) := by
    rw [← hW5, ← hr5]
    exact ⟨Fi.new _ _ _ _ _ _ _, hb5.alloc hb5.size _, below_alloc _ _⟩
  have HB5 : Hid (Below w3.heap.size w3 W5 ∧ Below w4.heap.size w4 W5) := ⟨HF4.out.2.1.trans (HF5.out.2.1.mono HF4.out.2.1.size), HF4.out.2.2.trans (HF5.out.2.1.mono HF4.out.2.2.size)⟩
  have HFa : Hid (∀ W, Below W5.heap.size W5 W → Fi W r4 35 (.int .u8 k) (.int .i64 V1) (.int .i64 V2) (.slice ta tn tc) (.slice pa pn pc) ∧ Fi W r5 35 (.int .u8 k0) (.int .i64 V3) (.int .i64 V4) (.slice ta0 tn0 tc0) (.slice pa0 pn0 pc0)) := fun W hW => ⟨(HF4.out.1.below HF5.out.2.1).below hW, HF5.out.1.below hW⟩
  have HTa : Hid (∀ W, Below W5.heap.size W5 W → (TermAt W (.slice ta tn tc) T ∧ RowAt W (.slice pa pn pc) P) ∧ TermAt W (.slice ta0 tn0 tc0) T0 ∧ RowAt W (.slice pa0 pn0 pc0) P0) := fun W hW => by
    have m1 : ∀ {l : List C}, Sht l → l.length ≤ maxLen := fun h => by have := h.1; unfold maxLen; omega
    have hA4 : Below w4.heap.size w4 W := HB5.out.2.trans (hW.mono HB5.out.2.size)
    have hA5 : Below w5.heap.size w5 W := HF5.out.2.2.trans (hW.mono HF5.out.2.2.size)
    refine ⟨⟨(ownT_term HO4.out.1 (m1 HSt.out.1) HSt.out.1.2).below hA4, ownRow_row (ownRow_low HO4.out.2.1 hA4) (by have := HSt.out.2.1.1; unfold maxLen; omega) (fun x hx => ⟨m1 (HSt.out.2.1.2 x hx), (HSt.out.2.1.2 x hx).2⟩)⟩, (ownT_term HO5.out.1 (m1 HSt.out.2.2.1) HSt.out.2.2.1.2).below hA5, ownRow_row (ownRow_low HO5.out.2 hA5) (by have := HSt.out.2.2.2.1; unfold maxLen; omega) (fun x hx => ⟨m1 (HSt.out.2.2.2.2 x hx), (HSt.out.2.2.2.2 x hx).2⟩)⟩
  clear hO5 hP5 hb5 hr4
  go_wp2_with fail
  clear hW5
  clear hr5
  refine (u8 W5 (HX.out W5 HB5.out.1).2.2.2.2.2).mono ?_
  rintro e w6 ⟨rfl, hb6⟩
  have HB6 : Hid (Below W5.heap.size W5 w6) := hb6
  obtain ⟨⟨x0, x1, x2, x3, x4⟩, hx⟩ := (HFa.out w6 hb6).1.cells
  have H11a := t11 k V1 V2 ta tn tc pa pn pc w6 hkr
  clear hb6
  go_wp2_with fail
  refine H11a.mono ?_
  rintro e w7 ⟨rfl, hb7⟩
  have HB7 : Hid (Below W5.heap.size W5 w7 ∧ Below w3.heap.size w3 w7) := by
    have h := HB6.out.trans (hb7.mono HB6.out.size)
    exact ⟨h, HB5.out.1.trans (h.mono HB5.out.1.size)⟩
  have H12a := HC12.out w7 HB7.out.2
  clear hb7 H11a x0 x1 x2 x3 x4 hx
  go_wp2_with fail
  refine H12a.mono ?_
  rintro e w8 ⟨ra, rn, rc, qa, qn, qc, rfl, hT8, hR8, hb8⟩
  have HB8 : Hid (Below W5.heap.size W5 w8) := HB7.out.1.trans (hb8.mono HB7.out.1.size)
  have H10a := t10 k V1 V2 T P ta ra tc rc pa qa pc qc tn pn rn qn w8 (HTa.out w8 HB8.out).1.1 hT8 (HTa.out w8 HB8.out).1.2 hR8
  clear hT8 hR8 hb8 H12a
  go_wp2_with fail
  refine H10a.mono ?_
  rintro e w9 ⟨rfl, hb9⟩
  have HB9 : Hid (Below W5.heap.size W5 w9) := HB8.out.trans (hb9.mono HB8.out.size)
  obtain ⟨⟨x0, x1, x2, x3, x4⟩, hx⟩ := (HFa.out w9 HB9.out).2.cells
  have H11b := t11 k0 V3 V4 ta0 tn0 tc0 pa0 pn0 pc0 w9 hkr0
  clear hb9 H10a
  go_wp2_with fail
  refine H11b.mono ?_
  rintro e w10 ⟨rfl, hb10⟩
  have HB10 : Hid (Below W5.heap.size W5 w10 ∧ Below w3.heap.size w3 w10) := by
    have h := HB9.out.trans (hb10.mono HB9.out.size)
    exact ⟨h, HB5.out.1.trans (h.mono HB5.out.1.size)⟩
  have H12b := HC12n.out w10 HB10.out.2
  clear hb10 H11b x0 x1 x2 x3 x4 hx
  go_wp2_with fail
  refine H12b.mono ?_
  rintro e w11 ⟨ra', rn', rc', qa', qn', qc', rfl, hT11, hR11, hb11⟩
  have HB11 : Hid (Below W5.heap.size W5 w11) := HB10.out.1.trans (hb11.mono HB10.out.1.size)
  have H10b := t10 k0 V3 V4 T0 P0 ta0 ra' tc0 rc' pa0 qa' pc0 qc' tn0 pn0 rn' qn' w11 (HTa.out w11 HB11.out).2.1 hT11 (HTa.out w11 HB11.out).2.2 hR11
  clear hT11 hR11 hb11 H12b
  go_wp2_with fail
  refine H10b.mono ?_
  rintro e w12 ⟨rfl, hb12⟩
  have HB12 : Hid (Below W5.heap.size W5 w12) := HB11.out.trans (hb12.mono HB11.out.size)
  clear hb12 H10b
  obtain ⟨W13, hW13⟩ : ∃ W13, w12.alloc (.cells #[.slice none 0 0, .slice none 0 0, .slice none 0 0, .slice none 0 0, .slice none 0 0] 50) = W13 := ⟨_, rfl⟩
  obtain ⟨bk, hbk⟩ : ∃ bk, w12.heap.size = bk := ⟨_, rfl⟩
  have HBK : Hid (W13.heap[bk]? = some (.cells #[.slice none 0 0, .slice none 0 0, .slice none 0 0, .slice none 0 0, .slice none 0 0] 50 (0, 0)) ∧ Below W5.heap.size W5 W13) := by
    rw [← hW13, ← hbk]
    exact ⟨heap_alloc_new w12 _, HB12.out.alloc HB12.out.size _⟩
  have hzb : w3.heap.size ≤ bk := by have := HB5.out.1.size; have := HB12.out.size; omega
  obtain ⟨us, hus1, hus2, hus3⟩ := HO4.out.2.1
  have hbw4 : Below w4.heap.size w4 W13 := HB5.out.2.trans (HBK.out.2.mono HB5.out.2.size)
  have HUs : Hid (W13.ownsRow w3.heap.size 24 1 (.slice pa pn pc) P.length us ∧ (∀ (j : Nat) (v : Value) (x : List C), us[j]? = some v → P[j]? = some x → OwnT W13 w3.heap.size v x) ∧ Ap us ∧ OwnT W13 w3.heap.size (.slice ta tn tc) T ∧ (P = [] ∨ ta = none)) := ⟨owns_below hus1 hbw4, fun j v x h1 h2 => ownT_below (hus2 j v x h1 h2) hbw4, hus3, ownT_below HO4.out.1 hbw4, HO4.out.2.2⟩
  have hTn : T.length = tn := by
    obtain ⟨x, y, e⟩ := ownT_form HO4.out.1
    simp only [Value.slice.injEq] at e
    omega
  have HTn : Hid (T.length = tn ∧ tn ≤ 256 ∧ P.length ≤ 8 ∧ ∀ p ∈ P, p.length ≤ 256) := ⟨hTn, by have := HSt.out.1.1; omega, HSt.out.2.1.1, fun p hp => (HSt.out.2.1.2 p hp).1⟩
  have HN13 : Hid (Bk.BkN W13 w3.heap.size bk (.slice none 0 0) [] []) := ⟨HBK.out.1, hzb, World.ownsRow_nil _ _ _ _, fun j v n hv => by simp at hv, fun j j' v v' g _ hv => by simp at hv⟩
  have HB13 : Hid (Below w3.heap.size w3 W13) := HB5.out.1.trans (HBK.out.2.mono HB5.out.1.size)
  obtain ⟨⟨x0, x1, x2, x3, x4⟩, hx⟩ := (HFa.out W13 HBK.out.2).1.cells
  clear hus1 hus2 hus3 hbw4 hTn
  go_wp2_with fail
  clear hW13
  clear hbk
  refine (Bk.b10 w3.heap.size bk _ [] [] ta tn tc T W13 HN13.out HTn.out.1 ⟨HUs.out.2.2.2.1, fun _ _ => rfl⟩ (fun j v g hv => by simp at hv) (by simp)).mono ?_
  rintro e w14 ⟨rfl, nv14, hN14, hb14, hk14⟩
  have HN14 : Hid (Bk.BkN w14 w3.heap.size bk nv14 [.slice ta tn tc] [tn] ∧ Below w3.heap.size w3 w14 ∧ Kb bk W13 w14) := ⟨hN14, HB13.out.trans hb14, hb14.size, hk14⟩
  have HTk14 : Hid (TkR w14 w3.heap.size [.slice ta tn tc] us P (.slice pa pn pc)) := TkR.of HBK.out.1 HN14.out.2.2 HUs.out.1 HUs.out.2.1 HUs.out.2.2.1 (fun j i v u g hv hu hg => by
    match j with
    | 0 =>
      simp only [List.getElem?_cons_zero, Option.some.injEq] at hv
      subst hv
      rcases HUs.out.2.2.2.2 with hP | hta
      · have h0 : us.length = 0 := by have := HUs.out.1.1; rw [hP] at this; simpa using this
        rw [List.eq_nil_of_length_eq_zero h0] at hu
        cases hu
      · rw [hta]; exact fun h => by cases h
    | _ + 1 => simp at hv)
  have HF14 : Hid (Fi w14 r4 35 (.int .u8 k) (.int .i64 V1) (.int .i64 V2) (.slice ta tn tc) (.slice pa pn pc)) := (HFa.out W13 HBK.out.2).1.kb HBK.out.1 (by decide) (by decide) HN14.out.2.2
  clear hN14 hb14 hk14 x0 x1 x2 x3 x4 hx
  obtain ⟨⟨x0, x1, x2, x3, x4⟩, hx⟩ := HF14.out.cells
  have H14 := t14 w3.heap.size bk nv14 [.slice ta tn tc] us [tn] P pa pn pc w14 HN14.out.1 HTk14.out (by have := HTn.out.2.2.1; simp; omega)
  go_wp2_with fail
  refine H14.mono ?_
  rintro e w15 ⟨rfl, nv15, hN15, hb15, hk15⟩
  have HN15 : Hid (Bk.BkN w15 w3.heap.size bk nv15 ([.slice ta tn tc] ++ us) ([tn] ++ P.map List.length) ∧ Below w3.heap.size w3 w15) := ⟨hN15, HN14.out.2.1.trans hb15⟩
  have H8d := HC8.out w15 HN15.out.2
  clear hN15 hb15 hk15 x0 x1 x2 x3 x4 hx H14
  go_wp2_with fail
  refine H8d.mono ?_
  rintro e w16 ⟨da, dn, dc, ea, en, ec, rfl, hO16, hP16, hb16, hz16⟩
  obtain ⟨W16, hW16⟩ : ∃ W16, w16.alloc (.cells #[.int .u8 k, .int .i64 V1, .int .i64 V2, .slice da dn dc, .slice ea en ec] 35) = W16 := ⟨_, rfl⟩
  obtain ⟨r16, hr16⟩ : ∃ r16, w16.heap.size = r16 := ⟨_, rfl⟩
  have hb16' : Below w16.heap.size w16 W16 := by rw [← hW16]; exact below_alloc _ _
  have HF16 : Hid (Fi W16 r16 35 (.int .u8 k) (.int .i64 V1) (.int .i64 V2) (.slice da dn dc) (.slice ea en ec)) := by
    rw [← hW16, ← hr16]
    exact Fi.new _ _ _ _ _ _ _
  have HB16 : Hid (Below w15.heap.size w15 W16 ∧ Below w3.heap.size w3 W16) := by
    have h := hb16.trans (hb16'.mono hb16.size)
    exact ⟨h, HN15.out.2.trans (h.mono HN15.out.2.size)⟩
  obtain ⟨us', hus1, hus2, hus3⟩ := hP16
  have HUs' : Hid (W16.ownsRow w15.heap.size 24 1 (.slice ea en ec) P.length us' ∧ (∀ (j : Nat) (v : Value) (x : List C), us'[j]? = some v → P[j]? = some x → OwnT W16 w15.heap.size v x) ∧ Ap us' ∧ OwnT W16 w15.heap.size (.slice da dn dc) T ∧ (P = [] ∨ da = none)) := ⟨owns_below hus1 hb16', fun j v x h1 h2 => ownT_below (hus2 j v x h1 h2) hb16', hus3, ownT_below hO16 hb16', hz16⟩
  have hDn : T.length = dn := by
    obtain ⟨x, y, e⟩ := ownT_form hO16
    simp only [Value.slice.injEq] at e
    omega
  have HDn : Hid (T.length = dn ∧ dn ≤ 256) := ⟨hDn, by have := HTn.out; omega⟩
  have HN16 : Hid (Bk.BkN W16 w3.heap.size bk nv15 ([.slice ta tn tc] ++ us) ([tn] ++ P.map List.length)) := HN15.out.1.below HB16.out.1
  have HLow : Hid (∀ (j : Nat) (v : Value) (g : Nat), ([Value.slice ta tn tc] ++ us)[j]? = some v → v.ownBlock = some g → g < w15.heap.size) := fun j v g hv hg => HN15.out.1.low hv hg
  have hBB : w3.heap.size ≤ w15.heap.size := HN15.out.2.size
  have HBk16 : Hid (Bk.BookAt W16 bk (Bk.BkA nv15)) := HN16.out.book
  have hlen16 : (([tn] ++ P.map List.length).length + 1) * 24 ≤ 140737488355328 := by have := HTn.out.2.2.1; simp; omega
  obtain ⟨⟨x0, x1, x2, x3, x4⟩, hx⟩ := HF16.out.cells
  clear hO16 hb16 hz16 hb16' hus1 hus2 hus3 hDn H8d
  go_wp2_with fail
  clear hW16
  clear hr16
  refine (Bk.b10 w3.heap.size bk nv15 ([.slice ta tn tc] ++ us) ([tn] ++ P.map List.length) da dn dc T W16 HN16.out HDn.out.1 ⟨ownT_base HUs'.out.2.2.2.1 hBB, fun _ _ => rfl⟩ (fun j v g hv hg e => by
    have h1 := HLow.out j v g hv e
    have h2 := (HUs'.out.2.2.2.1.lt g hg).1
    omega) hlen16).mono ?_
  rintro e w17 ⟨rfl, nv17, hN17, hb17, hk17⟩
  have HN17 : Hid (Bk.BkN w17 w3.heap.size bk nv17 ([.slice ta tn tc] ++ us ++ [.slice da dn dc]) ([tn] ++ P.map List.length ++ [dn]) ∧ Below w3.heap.size w3 w17 ∧ Kb bk W16 w17) := ⟨hN17, HB16.out.2.trans hb17, hb17.size, hk17⟩
  have HTk17 : Hid (TkR w17 w3.heap.size ([.slice ta tn tc] ++ us ++ [.slice da dn dc]) us' P (.slice ea en ec)) := TkR.of HBk16.out HN17.out.2.2 (row_base HUs'.out.1 hBB) (fun j v x h1 h2 => ownT_base (HUs'.out.2.1 j v x h1 h2) hBB) HUs'.out.2.2.1 (fun j i v u g hv hu hg e => by
    by_cases hj : j < ([Value.slice ta tn tc] ++ us).length
    · rw [List.getElem?_append_left hj] at hv
      have h1 := HLow.out j v g hv e
      have hi : i < us'.length := (List.getElem?_eq_some_iff.1 hu).1
      have hiP : i < P.length := by have := HUs'.out.1.1; omega
      have h2 := ((HUs'.out.2.1 i u _ hu (List.getElem?_eq_getElem hiP)).lt g hg).1
      omega
    · rw [List.getElem?_append_right (by omega)] at hv
      have hj0 : j - ([Value.slice ta tn tc] ++ us).length = 0 := by
        have := (List.getElem?_eq_some_iff.1 hv).1
        simp only [List.length_cons, List.length_nil] at this
        omega
      rw [hj0] at hv
      simp only [List.getElem?_cons_zero, Option.some.injEq] at hv
      subst hv
      rcases HUs'.out.2.2.2.2 with hP | hda
      · have h0 : us'.length = 0 := by have := HUs'.out.1.1; rw [hP] at this; simpa using this
        rw [List.eq_nil_of_length_eq_zero h0] at hu
        cases hu
      · rw [hda] at e; cases e)
  have HF17 : Hid (Fi w17 r16 35 (.int .u8 k) (.int .i64 V1) (.int .i64 V2) (.slice da dn dc) (.slice ea en ec)) := HF16.out.kb HBk16.out (by decide) (by decide) HN17.out.2.2
  clear hN17 hb17 hk17 x0 x1 x2 x3 x4 hx hBB hlen16
  obtain ⟨⟨x0, x1, x2, x3, x4⟩, hx⟩ := HF17.out.cells
  have H14d : Hid (Calls Tryz.prog 14 #[.pointer (some ⟨bk, 0, none⟩), .slice ea en ec] w17 fun e w' => e = .returned (.tuple #[]) ∧ Tks w3.heap.size bk ([.slice ta tn tc] ++ us ++ [.slice da dn dc]) ([tn] ++ P.map List.length ++ [dn]) us' P w17 w') := t14 w3.heap.size bk nv17 _ us' _ P ea en ec w17 HN17.out.1 HTk17.out (by have := HTn.out.2.2.1; simp; omega)
  go_wp2_with fail
  refine H14d.out.mono ?_
  rintro e w18 ⟨rfl, nv18, hN18, hb18, hk18⟩
  have HB18 : Hid (Below w3.heap.size w3 w18) := HN17.out.2.1.trans hb18
  have H15 := Bk.b11 w3.heap.size bk nv18 _ _ w18.drew (hN18.below (Below.refl _ w18).drew) (by have := HTn.out.2.2.1; simp; omega) (fun x hx => by
    have h1 := HTn.out
    have h2 := HDn.out.2
    simp only [List.mem_append, List.mem_singleton, List.mem_map] at hx
    rcases hx with ((rfl | ⟨p, hp, rfl⟩) | rfl) | ⟨p, hp, rfl⟩
    · omega
    · have := h1.2.2.2 p hp; omega
    · omega
    · have := h1.2.2.2 p hp; omega)
  have HC15 : Hid (Calls Tryz.prog 15 #[.pointer (some ⟨bk, 0, none⟩)] w18.drew fun e w' => e = .returned (.bool true) ∧ Below w3.heap.size w18.drew w') := H15
  clear hN18 hb18 hk18 x0 x1 x2 x3 x4 hx H14d H15
  obtain ⟨fa, fc, hfb, hfr, hfg⟩ := HRf.out.1.ex
  have hrt1 : rt < w1.heap.size := HRf.out.1.rlt
  have hrt : rt < w3.heap.size := Nat.lt_of_lt_of_le hrt1 HB3.out.1.size
  have HRow : Hid (∀ W, Below w3.heap.size w3 W → Bs W fa bs.length bs ∧ ∀ b ∈ bs, TermAt W b.v b.l) := fun W hW => by
    have hw1 : Below w1.heap.size w1 W := HB3.out.1.trans (hW.mono HB3.out.1.size)
    exact ⟨hfr.keeps fun g hg => hw1.block g (HRf.out.1.lt g (hfg g hg)), fun b hb' => (HRf.out.1.lst b hb').1.below hw1⟩
  have HS18 : SqS w3 rt (.slice fa bs.length fc) w18 := ⟨by
    have hw1 : Below w1.heap.size w1 w18 := HB3.out.1.trans (HB18.out.mono HB3.out.1.size)
    have h := (hw1.block rt hrt1).trans hfb
    rw [cell_of_row w18 rt 0 _ 57 (0, 0) h]; rfl, HB18.out⟩
  clear hfb hfr hfg hrt1
  go_wp2_with fail
  refine wp_region_noPanic ?_
  refine wp_region_held_drew (S := SqS w3 rt (.slice fa bs.length fc)) (by kernel_rfl) (sqS_drew HS18) (fun hHeld => ?_)
  (refine wpAnyH_take (i := 0) (v := ?_) (by simp only [List.getElem?_toArray, List.getElem?_cons_zero]; rfl) (by kernel_rfl) (by kernel_rfl) (by kernel_rfl) (fun _ _ _ h => h) (Or.inl ⟨by rfl, ?_⟩) (by assumption) ?_; rotate_left; (· (intro w hSw; (try dsimp only at hSw); go_simp <;> with_reducible rfl)); try simp only [Act.put, List.setIfInBounds_toArray, List.set_cons_zero, List.set_cons_succ])
  refine wpAnyH_ready (rs := [1]) (by kernel_rfl) (by simp) ?_
  refine AllReadyH.cons (by simp only [List.getElem?_toArray, List.getElem?_cons_zero, List.getElem?_cons_succ]; rfl) (fun K hK => ?_) AllReadyH.nil
  go_simp
  go_at_call 15
  refine HC15.out.mono ?_
  rintro e w19 ⟨rfl, hb19⟩
  have HS19 : SqS w3 rt (.slice fa bs.length fc) w19 := sqS_to hrt (sqS_drew HS18) hb19
  refine hK.out _ _ ?_ (fun hHeld => ?_)
  · exact HS19
  clear hK K
  try simp only [Act.put, List.setIfInBounds_toArray, List.set_cons_zero, List.set_cons_succ]
  (refine wpAnyH_take (i := 2) (v := ?_) (by simp only [List.getElem?_toArray, List.getElem?_cons_zero, List.getElem?_cons_succ]; rfl) (by kernel_rfl) (by kernel_rfl) (by kernel_rfl) (fun _ _ _ h => h) (Or.inl ⟨by rfl, ?_⟩) (by assumption) ?_; rotate_left; (· (intro w hSw; (try dsimp only at hSw); go_simp <;> with_reducible rfl)); try simp only [Act.put, List.setIfInBounds_toArray, List.set_cons_zero, List.set_cons_succ])
  (refine wpAnyH_take (i := 3) (v := ?_) (by simp only [List.getElem?_toArray, List.getElem?_cons_zero, List.getElem?_cons_succ]; rfl) (by kernel_rfl) (by kernel_rfl) (by kernel_rfl) (fun _ _ _ h => h) (Or.inl ⟨by rfl, ?_⟩) (by assumption) ?_; rotate_left; (· (intro w hSw; (try dsimp only at hSw); go_simp <;> with_reducible rfl)); try simp only [Act.put, List.setIfInBounds_toArray, List.set_cons_zero, List.set_cons_succ])
  (refine wpAnyH_take (i := 4) (v := ?_) (by simp only [List.getElem?_toArray, List.getElem?_cons_zero, List.getElem?_cons_succ]; rfl) (by kernel_rfl) (by kernel_rfl) (by kernel_rfl) (fun _ _ _ h => h) (Or.inl ⟨by rfl, ?_⟩) (by assumption) ?_; rotate_left; (· (intro w hSw; (try dsimp only at hSw); go_simp <;> with_reducible rfl)); try simp only [Act.put, List.setIfInBounds_toArray, List.set_cons_zero, List.set_cons_succ])
  refine wpAnyH_ready (rs := [5]) (by kernel_rfl) (by simp) ?_
  refine AllReadyH.cons (by simp only [List.getElem?_toArray, List.getElem?_cons_zero, List.getElem?_cons_succ]; rfl) (fun K hK => ?_) AllReadyH.nil
  go_simp
  go_at_call 16
  refine (k14 l1 (.slice a1 l1.length c1) g1 w19 (HX.out w19 HS19.2.out).2.1 (range_below HG2.out.1 HG2.out.2.1 HS19.2.out) (Nat.lt_of_lt_of_le HG2.out.2.1 HS19.2.out.size) hL1).mono ?_
  rintro e w20 ⟨rfl, hb20⟩
  have HS20 : SqS w3 rt (.slice fa bs.length fc) w20 := sqS_to hrt HS19 (hb20.mono HS19.2.out.size)
  refine hK.out _ _ ?_ (fun hHeld => ?_)
  · exact HS20
  clear hK K
  try simp only [Act.put, List.setIfInBounds_toArray, List.set_cons_zero, List.set_cons_succ]
  (refine wpAnyH_take (i := 6) (v := ?_) (by simp only [List.getElem?_toArray, List.getElem?_cons_zero, List.getElem?_cons_succ]; rfl) (by kernel_rfl) (by kernel_rfl) (by kernel_rfl) (fun _ _ _ h => h) (Or.inl ⟨by rfl, ?_⟩) (by assumption) ?_; rotate_left; (· (intro w hSw; (try dsimp only at hSw); go_simp <;> with_reducible rfl)); try simp only [Act.put, List.setIfInBounds_toArray, List.set_cons_zero, List.set_cons_succ])
  (refine wpAnyH_take (i := 7) (v := ?_) (by simp only [List.getElem?_toArray, List.getElem?_cons_zero, List.getElem?_cons_succ]; rfl) (by kernel_rfl) (by kernel_rfl) (by kernel_rfl) (fun _ _ _ h => h) (Or.inl ⟨by rfl, ?_⟩) (by assumption) ?_; rotate_left; (· (intro w hSw; (try dsimp only at hSw); go_simp <;> with_reducible rfl)); try simp only [Act.put, List.setIfInBounds_toArray, List.set_cons_zero, List.set_cons_succ])
  (refine wpAnyH_take (i := 8) (v := ?_) (by simp only [List.getElem?_toArray, List.getElem?_cons_zero, List.getElem?_cons_succ]; rfl) (by kernel_rfl) (by kernel_rfl) (by kernel_rfl) (fun _ _ _ h => h) (Or.inl ⟨by rfl, ?_⟩) (by assumption) ?_; rotate_left; (· (intro w hSw; (try dsimp only at hSw); go_simp <;> with_reducible rfl)); try simp only [Act.put, List.setIfInBounds_toArray, List.set_cons_zero, List.set_cons_succ])
  (refine wpAnyH_take (i := 9) (v := ?_) (by simp only [List.getElem?_toArray, List.getElem?_cons_zero, List.getElem?_cons_succ]; rfl) (by kernel_rfl) (by kernel_rfl) (by kernel_rfl) (fun _ _ _ h => h) (Or.inl ⟨by rfl, ?_⟩) (by assumption) ?_; rotate_left; (· (intro w hSw; (try dsimp only at hSw); go_simp <;> with_reducible rfl)); try simp only [Act.put, List.setIfInBounds_toArray, List.set_cons_zero, List.set_cons_succ])
  refine wpAnyH_ready (rs := [10]) (by kernel_rfl) (by simp) ?_
  refine AllReadyH.cons (by simp only [List.getElem?_toArray, List.getElem?_cons_zero, List.getElem?_cons_succ]; rfl) (fun K hK => ?_) AllReadyH.nil
  go_simp
  go_at_call 16
  refine (k14 l2 (.slice a2 l2.length c2) g2 w20 (HX.out w20 HS20.2.out).2.2.1 (range_below HG2.out.2.2.1 HG2.out.2.2.2 HS20.2.out) (Nat.lt_of_lt_of_le HG2.out.2.2.2 HS20.2.out.size) hL2).mono ?_
  rintro e w21 ⟨rfl, hb21⟩
  have HS21 : SqS w3 rt (.slice fa bs.length fc) w21 := sqS_to hrt HS20 (hb21.mono HS20.2.out.size)
  refine hK.out _ _ ?_ (fun hHeld => ?_)
  · exact HS21
  clear hK K
  try simp only [Act.put, List.setIfInBounds_toArray, List.set_cons_zero, List.set_cons_succ]
  (refine wpAnyH_take (i := 11) (v := ?_) (by simp only [List.getElem?_toArray, List.getElem?_cons_zero, List.getElem?_cons_succ]; rfl) (by kernel_rfl) (by kernel_rfl) (by kernel_rfl) (fun _ _ _ h => h) (Or.inl ⟨by rfl, ?_⟩) (by assumption) ?_; rotate_left; (· (intro w hSw; (try dsimp only at hSw); go_simp <;> with_reducible rfl)); try simp only [Act.put, List.setIfInBounds_toArray, List.set_cons_zero, List.set_cons_succ])
  (refine wpAnyH_take (i := 12) (v := ?_) (by simp only [List.getElem?_toArray, List.getElem?_cons_zero, List.getElem?_cons_succ]; rfl) (by kernel_rfl) (by kernel_rfl) (by kernel_rfl) (fun _ _ _ h => h) (Or.inl ⟨by rfl, ?_⟩) (by assumption) ?_; rotate_left; (· (intro w hSw; (try dsimp only at hSw); go_simp <;> with_reducible rfl)); try simp only [Act.put, List.setIfInBounds_toArray, List.set_cons_zero, List.set_cons_succ])
  (refine wpAnyH_take (i := 13) (v := ?_) (by simp only [List.getElem?_toArray, List.getElem?_cons_zero, List.getElem?_cons_succ]; rfl) (by kernel_rfl) (by kernel_rfl) (by kernel_rfl) (fun _ _ _ h => h) (Or.inl ⟨by rfl, ?_⟩) (by assumption) ?_; rotate_left; (· (intro w hSw; (try dsimp only at hSw); go_simp <;> with_reducible rfl)); try simp only [Act.put, List.setIfInBounds_toArray, List.set_cons_zero, List.set_cons_succ])
  (refine wpAnyH_take (i := 14) (v := ?_) (by simp only [List.getElem?_toArray, List.getElem?_cons_zero, List.getElem?_cons_succ]; rfl) (by kernel_rfl) (by kernel_rfl) (by kernel_rfl) (fun _ _ _ h => h) (Or.inl ⟨by rfl, ?_⟩) (by assumption) ?_; rotate_left; (· (intro w hSw; (try dsimp only at hSw); go_simp <;> with_reducible rfl)); try simp only [Act.put, List.setIfInBounds_toArray, List.set_cons_zero, List.set_cons_succ])
  (refine wpAnyH_take (i := 15) (v := ?_) (by simp only [List.getElem?_toArray, List.getElem?_cons_zero, List.getElem?_cons_succ]; rfl) (by kernel_rfl) (by kernel_rfl) (by kernel_rfl) (fun _ _ _ h => h) (Or.inl ⟨by rfl, ?_⟩) (by assumption) ?_; rotate_left; (· (intro w hSw; (try dsimp only at hSw); go_simp <;> with_reducible rfl)); try simp only [Act.put, List.setIfInBounds_toArray, List.set_cons_zero, List.set_cons_succ])
  (refine wpAnyH_take (i := 16) (v := ?_) (by simp only [List.getElem?_toArray, List.getElem?_cons_zero, List.getElem?_cons_succ]; rfl) (by kernel_rfl) (by kernel_rfl) (by kernel_rfl) (fun _ _ _ h => h) (Or.inl ⟨by rfl, ?_⟩) (by assumption) ?_; rotate_left; (· (intro w hSw; (try dsimp only at hSw); go_simp <;> with_reducible rfl)); try simp only [Act.put, List.setIfInBounds_toArray, List.set_cons_zero, List.set_cons_succ])
  (refine wpAnyH_take (i := 18) (v := ?_) (by simp only [List.getElem?_toArray, List.getElem?_cons_zero, List.getElem?_cons_succ]; rfl) (by kernel_rfl) (by kernel_rfl) (by kernel_rfl) (fun _ _ _ h => h) (Or.inl ⟨by rfl, ?_⟩) (by assumption) ?_; rotate_left; (· (intro w hSw; (try dsimp only at hSw); go_simp <;> with_reducible rfl)); try simp only [Act.put, List.setIfInBounds_toArray, List.set_cons_zero, List.set_cons_succ])
  (refine wpAnyH_take (i := 19) (v := ?_) (by simp only [List.getElem?_toArray, List.getElem?_cons_zero, List.getElem?_cons_succ]; rfl) (by kernel_rfl) (by kernel_rfl) (by kernel_rfl) (fun _ _ _ h => h) (Or.inl ⟨by rfl, ?_⟩) (by assumption) ?_; rotate_left; (· (intro w hSw; (try dsimp only at hSw); go_simp <;> with_reducible rfl)); try simp only [Act.put, List.setIfInBounds_toArray, List.set_cons_zero, List.set_cons_succ])
  (refine wpAnyH_take (i := 20) (v := ?_) (by simp only [List.getElem?_toArray, List.getElem?_cons_zero, List.getElem?_cons_succ]; rfl) (by kernel_rfl) (by kernel_rfl) (by kernel_rfl) (fun _ _ _ h => h) (Or.inl ⟨by rfl, ?_⟩) (by assumption) ?_; rotate_left; (· (intro w hSw; (try dsimp only at hSw); go_simp <;> with_reducible rfl)); try simp only [Act.put, List.setIfInBounds_toArray, List.set_cons_zero, List.set_cons_succ])
  (refine wpAnyH_take (i := 21) (v := ?_) (by simp only [List.getElem?_toArray, List.getElem?_cons_zero, List.getElem?_cons_succ]; rfl) (by kernel_rfl) (by kernel_rfl) (by kernel_rfl) (fun _ _ _ h => h) (Or.inl ⟨by rfl, ?_⟩) (by assumption) ?_; rotate_left; (· (intro w hSw; (try dsimp only at hSw); go_simp <;> with_reducible rfl)); try simp only [Act.put, List.setIfInBounds_toArray, List.set_cons_zero, List.set_cons_succ])
  refine wpAnyH_ready (rs := [17]) (by kernel_rfl) (by simp) ?_
  refine AllReadyH.cons (by simp only [List.getElem?_toArray, List.getElem?_cons_zero, List.getElem?_cons_succ]; rfl) (fun K hK => ?_) AllReadyH.nil
  go_simp
  go_at_call 18
  refine (h12b m hb M nn D w21 (HHp.out.1.below (HB3.out.1.trans (HS21.2.out.mono HB3.out.1.size))) (by have := HHp.out.2; omega) HUp.out (fun x l h => (HLen.out x l h).1)).mono ?_
  rintro e w22 ⟨ka, kk, kc, rfl, bs', hk1, hk2, _, hk4, hb22⟩
  have HS22 : SqS w3 rt (.slice fa bs.length fc) w22 := sqS_to hrt HS21 (hb22.mono HS21.2.out.size)
  have hkk : kk = bs.length := by
    have h1 := congrArg List.length (hk1.trans HRf.out.2.1.symm)
    simp only [hpOf, List.length_map] at h1
    have h2 := hk2.len
    omega
  subst hkk
  refine hK.out _ _ ?_ (fun hHeld => ?_)
  · exact HS22
  clear hK K
  try simp only [Act.put, List.setIfInBounds_toArray, List.set_cons_zero, List.set_cons_succ]
  refine wpAnyH_ready (rs := [22]) (by kernel_rfl) (by simp) ?_
  refine AllReadyH.cons (by simp only [List.getElem?_toArray, List.getElem?_cons_zero, List.getElem?_cons_succ]; rfl) (fun K hK => ?_) AllReadyH.nil
  go_simp
  go_at_call 17
  refine (t17 ka fa bs.length kc fc bs' bs w22 hk2 (HRow.out w22 HS22.2.out).1 (fun b hb' => (hk4 b hb').1) (HRow.out w22 HS22.2.out).2 (hk1.trans HRf.out.2.1.symm) (by have := HRf.out.2.2; omega)).mono ?_
  rintro e w23 ⟨rfl, hb23⟩
  have HS23 : SqS w3 rt (.slice fa bs.length fc) w23 := sqS_to hrt HS22 (hb23.mono HS22.2.out.size)
  refine hK.out _ _ ?_ (fun hHeld => ?_)
  · exact HS23
  clear hK K
  try simp only [Act.put, List.setIfInBounds_toArray, List.set_cons_zero, List.set_cons_succ]
  (refine wpAnyH_take (i := 23) (v := ?_) (by simp only [List.getElem?_toArray, List.getElem?_cons_zero, List.getElem?_cons_succ]; rfl) (by kernel_rfl) (by kernel_rfl) (by kernel_rfl) (fun _ _ _ h => h) (Or.inl ⟨by rfl, ?_⟩) (by assumption) ?_; rotate_left; (· (intro w hSw; (try dsimp only at hSw); go_simp <;> with_reducible rfl)); try simp only [Act.put, List.setIfInBounds_toArray, List.set_cons_zero, List.set_cons_succ])
  (refine wpAnyH_take (i := 24) (v := ?_) (by simp only [List.getElem?_toArray, List.getElem?_cons_zero, List.getElem?_cons_succ]; rfl) (by kernel_rfl) (by kernel_rfl) (by kernel_rfl) (fun _ _ _ h => h) (Or.inl ⟨by rfl, ?_⟩) (by assumption) ?_; rotate_left; (· (intro w hSw; (try dsimp only at hSw); go_simp <;> with_reducible rfl)); try simp only [Act.put, List.setIfInBounds_toArray, List.set_cons_zero, List.set_cons_succ])
  (refine wpAnyH_take (i := 25) (v := ?_) (by simp only [List.getElem?_toArray, List.getElem?_cons_zero, List.getElem?_cons_succ]; rfl) (by kernel_rfl) (by kernel_rfl) (by kernel_rfl) (fun _ _ _ h => h) (Or.inl ⟨by rfl, ?_⟩) (by assumption) ?_; rotate_left; (· (intro w hSw; (try dsimp only at hSw); go_simp <;> with_reducible rfl)); try simp only [Act.put, List.setIfInBounds_toArray, List.set_cons_zero, List.set_cons_succ])
  refine wpAnyH_done (by kernel_rfl) ?_ _
  refine NoPanic.normal ?_
  have HE : Hid (Below w.heap.size w w23) := HB3.out.2.trans (HS23.2.out.mono HB3.out.2.size)
  clear hHeld HS18 HS19 HS20 HS21 HS22 HS23 hb19 hb20 hb21 hb22 hb23 hk1 hk2 hk4
  go_wp2_with fail
  go_ret
  exact ⟨rfl, HE.out⟩
end Go.Proofs.YtljggjllijacjaaGreatDoor
