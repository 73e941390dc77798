/- Contract of the reference's Got. -/
import Derived.Test.YtdonclnjgopmbaaPG
namespace Go.Proofs.Ytdonclnjgopmbaa
open Go.RowKit
attribute [local go_sem ↓] Go.wp_at_zero Go.wp_at_succ
set_option maxRecDepth 100000 in
set_option maxHeartbeats 2000000 in
theorem o30w (a : Option Addr) (n c : Nat) (xs : List Nm) (x : Nm) (w : World) (h : Ns w a n xs) (hn : n ≤ 9223372036854775807) :
    Calls Try.prog 30 #[.slice a n c, .agg #[.int .i64 x.1, .int .i64 x.2]] w fun e w' => e = .returned (.bool (hasN xs x)) ∧ Below w.heap.size w w' := by
  obtain ⟨W, hW⟩ : ∃ W, w.alloc (.cells #[.int .i64 x.1, .int .i64 x.2] 28) = W := ⟨_, rfl⟩
  obtain ⟨vb, hvb⟩ : ∃ vb, w.heap.size = vb := ⟨_, rfl⟩
  have hc : W.heap[vb]? = some (.cells #[.int .i64 x.1, .int .i64 x.2] 28 (0, 0)) := by rw [← hW, ← hvb]; exact heap_alloc_new w _
  obtain ⟨v0, v1⟩ := box_cells hc
  have hbW : Below w.heap.size w W := by rw [← hW]; exact (Below.refl _ w).alloc (Nat.le_refl _) _
  have HX : Hid (Ns W a n xs ∧ Below w.heap.size w W ∧ xs.length = n) := ⟨h.below hbW, hbW, h.len⟩
  clear h hc hbW
  obtain ⟨x1, x2⟩ := x
  simp only at hW v0 v1
  go_enter Try.func30, Try.ntmps30
  go_wp2_with fail
  go_loopw [5] (fun i wr => ∃ k d : Nat, k ≤ n ∧ i = .int .i64 k ∧ wr = W.drewN d ∧ Hid ((x1, x2) ∉ xs.take k)) (fun i _ => n - (intOf i).toNat)
  case atStart => exact ⟨0, 0, Nat.zero_le _, rfl, rfl, by intro h; simp at h⟩
  case round =>
    obtain ⟨k, d, hk, rfl, rfl, hT⟩ := hrel
    by_cases hlt : k < n
    · have hlt1 : (k : Int) < (n : Int) := by omega
      have hk0 : (0 : Int) ≤ (k : Int) := by omega
      obtain ⟨b1, o1, hk1, rfl, _, hc1, hc2⟩ := HX.out.1.at hlt
      have HTX : Hid (xs.take (k + 1) = xs.take k ++ [xs[k]]) := (List.take_append_getElem hk1).symm
      have HM : Hid (xs[k] ∈ xs) := List.getElem_mem hk1
      generalize xs[k] = y at *
      obtain ⟨y1, y2⟩ := y
      simp only at hc1 hc2
      clear hk1
      by_cases hxy : y1 = x1 ∧ y2 = x2
      · obtain ⟨rfl, rfl⟩ := hxy
        go_wp2_with fail
        go_quiet (fail)
        go_wp2_with fail
        go_ret
        refine ⟨?_, HX.out.2.1.trans ((below_dN (below_dN (Below.refl _ W) d) _).mono HX.out.2.1.size)⟩
        have : hasN xs (y1, y2) = true := by simp [hasN, HM.out]
        rw [this]; rfl
      · have hN := eqlN y1 y2 x1 x2
        rw [show (y1 == x1 && y2 == x2) = false by simpa using hxy] at hN
        go_wp2_with fail
        go_quiet (fail)
        go_wp2_with fail
        go_roundw
        case rel => exact ⟨k + 1, d + nq, by omega, by go_num, by simp [World.drewN], by
          show (x1, x2) ∉ xs.take (k + 1)
          rw [HTX.out]
          intro e
          rcases List.mem_append.1 e with e | e
          · exact hT.out e
          · simp only [List.mem_cons, Prod.mk.injEq, List.not_mem_nil, or_false] at e
            exact hxy ⟨e.1.symm, e.2.symm⟩⟩
        case measure => simp [intOf]; omega
    · go_wp2_with fail
      go_ret
      refine ⟨?_, HX.out.2.1.trans ((below_dN (Below.refl _ W) d).mono HX.out.2.1.size)⟩
      have h1 := hT.out
      rw [List.take_of_length_le (by rw [HX.out.2.2]; omega)] at h1
      have : hasN xs (x1, x2) = false := by simp [hasN, h1]
      rw [this]; rfl
/-- The names that are still wanted. -/
def gotN (xs ws : List Nm) : List Nm := ws.filter fun y => !hasN xs y
/-- In a round. -/
def GI (xs ws : List Nm) (w wr : World) (l : Value) (k : Nat) (pre : List Nm) : Prop :=
  wr.ownsRow w.heap.size 28 2 l pre.length (pre.flatMap encM) ∧ Below w.heap.size w wr ∧ gotN xs ws = pre ++ gotN xs (ws.drop k) ∧ pre.length ≤ k
theorem GI.below {xs ws : List Nm} {w wr w2 : World} {l : Value} {k : Nat} {pre : List Nm} (h : GI xs ws w wr l k pre) (hb : Below wr.heap.size wr w2) : GI xs ws w w2 l k pre :=
  ⟨owns_below h.1 hb, h.2.1.trans (hb.mono h.2.1.size), h.2.2⟩
theorem GI.more {xs ws : List Nm} {w wr w' : World} {l : Value} {k : Nat} {pre : List Nm} {y1 y2 : Int} {a' : Option Addr} {c' : Nat} (h : GI xs ws w (wr.alloc (.cells #[.int .i64 y1, .int .i64 y2] 28)) l k pre)
    (ho : w'.ownsRow w.heap.size 28 2 (.slice a' (pre.length + 1) c') (pre.length + 1) (pre.flatMap encM ++ [.int .i64 y1, .int .i64 y2])) (hg : (wr.alloc (.cells #[.int .i64 y1, .int .i64 y2] 28)).grownBy w' l.ownBlock)
    (he : gotN xs ws = (pre ++ [(y1, y2)]) ++ gotN xs (ws.drop (k + 1))) : GI xs ws w w' (.slice a' (pre.length + 1) c') (k + 1) (pre ++ [(y1, y2)]) :=
  ⟨by rw [fm_one]; simpa using ho, h.2.1.grown hg h.2.1.size (fun g e => (h.1.lt g e).1), he, by have := h.2.2.2; simpa using this⟩
theorem got_end {w w' : World} {G : Nat → Prop} {rt : Nat} {rs : List Rw} {xs ws pre : List Nm} {v : Value} {k : Nat} (h : RfAt w G rt rs ws) (hF : GI xs ws w w' v k pre) (hd : ws.drop k = []) :
    ∃ a m c, v = .slice a m c ∧ WantR w G rt rs (gotN xs ws) (w'.setCell ⟨rt, 1, none⟩ (.slice a m c)) := by
  obtain ⟨a, c, rfl⟩ := owns_form hF.1
  have e : gotN xs ws = pre := by rw [hF.2.2.1, hd]; simp [gotN]
  refine ⟨a, _, c, rfl, ?_⟩
  rw [e]
  exact rf_wants h hF.2.1 (ns_owns hF.1 rfl) fun g hg => (owns_range hF.1).1 g hg
set_option maxRecDepth 100000 in
set_option maxHeartbeats 8000000 in
theorem o19 (G : Nat → Prop) (rt : Nat) (rs : List Rw) (xs ws : List Nm) (a : Option Addr) (n c : Nat) (w : World) (h : RfAt w G rt rs ws) (hx : Ns w a n xs) (hn : n ≤ 9223372036854775807) (hw : ws.length ≤ 1000000) :
    Calls Try.prog 19 #[.pointer (some ⟨rt, 0, none⟩), .slice a n c] w fun e w' => e = .returned (.tuple #[]) ∧ WantR w G rt rs (gotN xs ws) w' := by
  obtain ⟨i0, hi, hz, hs2, hby⟩ := infoN
  obtain ⟨ra, rc, wa, wc, _, q1, _, hN⟩ := h.cells
  obtain ⟨nw, hnw⟩ : ∃ nw, ws.length = nw := ⟨_, rfl⟩
  rw [hnw] at q1 hN hw
  have HL : Hid (ws.length = nw ∧ RfAt w G rt rs ws) := ⟨hnw, h⟩
  have HS : Hid (∀ u, Below w.heap.size w u → u.cell? ⟨rt, 1, none⟩ = some (.slice wa nw wc) ∧ u.frozen? ⟨rt, 1, none⟩ = false ∧ Ns u wa nw ws) := fun u hu => by
    obtain ⟨ra', rc', wa', wc', k1, _⟩ := (h.below hu).ex
    exact ⟨(hu.cell (p := ⟨rt, 1, none⟩) h.rlt).trans q1, frozen_of_row u rt 1 _ 50 k1, hN.below hu⟩
  have H30 : Hid (∀ (y : Nm) (u : World), Below w.heap.size w u → Calls Try.prog 30 #[.slice a n c, .agg #[.int .i64 y.1, .int .i64 y.2]] u fun e w' => e = .returned (.bool (hasN xs y)) ∧ Hid (Below u.heap.size u w')) := fun y u hu =>
    o30w a n c xs y u (hx.below hu) hn
  clear h hN hnw q1 hx hn
  go_enter Try.func19, Try.ntmps19
  go_wp2_with fail
  go_loopw [4, 5] (fun l i wr => ∃ (k : Nat) (pre : List Nm), k ≤ nw ∧ i = .int .i64 k ∧ Hid (GI xs ws w wr l k pre)) (fun _ i _ => nw - (intOf i).toNat)
  case atStart => exact ⟨0, [], Nat.zero_le _, rfl, World.ownsRow_nil _ _ _ _, Below.refl _ _, by simp, by simp⟩
  case round =>
    obtain ⟨k, pre, hk, rfl, HK⟩ := hrel
    obtain ⟨q1, f1, hNs⟩ := HS.out wr HK.out.2.1
    by_cases hlt : k < nw
    · have hlt1 : (k : Int) < (nw : Int) := by omega
      have hk0 : (0 : Int) ≤ (k : Int) := by omega
      obtain ⟨b1, o1, hk1, rfl, hbl, c0, c1⟩ := hNs.at hlt
      have HD : Hid (ws.drop k = [ws[k]] ++ ws.drop (k + 1)) := List.drop_eq_getElem_cons hk1
      have HH := H30.out ws[k] wr HK.out.2.1
      generalize ws[k] = y at *
      obtain ⟨y1, y2⟩ := y
      simp only at c0 c1 HD HH
      have HC : Hid (∀ u, Below wr.heap.size wr u → u.cell? ⟨b1, o1 + k * 2, none⟩ = some (.int .i64 y1) ∧ u.cell? ⟨b1, o1 + k * 2 + 1, none⟩ = some (.int .i64 y2)) := fun u hu => ⟨(hu.cell (p := ⟨b1, o1 + k * 2, none⟩) hbl).trans c0, (hu.cell (p := ⟨b1, o1 + k * 2 + 1, none⟩) hbl).trans c1⟩
      have hpl : pre.length ≤ k := HK.out.2.2.2
      clear hk1 hNs hbl
      cases hB : hasN xs (y1, y2)
      · rw [hB] at HH
        have HE : Hid (gotN xs ws = (pre ++ [(y1, y2)]) ++ gotN xs (ws.drop (k + 1))) := by
          show _ = _
          rw [HK.out.2.2.1, HD.out]; simp [gotN, hB]
        clear HD hB
        go_wp2_with fail
        refine HH.mono ?_
        rintro e w2 ⟨rfl, HB2⟩
        clear HH c0 c1 q1 f1
        obtain ⟨q1, f1, hNs⟩ := HS.out w2 (HK.out.2.1.trans (HB2.out.mono HK.out.2.1.size))
        clear hNs
        obtain ⟨c0, c1⟩ := HC.out w2 HB2.out
        have HW : Hid (GI xs ws w (w2.alloc (.cells #[.int .i64 y1, .int .i64 y2] 28)) _ k pre) := (HK.out.below HB2.out).below ((Below.refl _ w2).alloc (Nat.le_refl _) _)
        go_wp2_with (at_builtin; refine wpList_append_any _ rfl _ _ 29 rfl w.heap.size 28 i0 _ 2 16 Try.underlying29 hi hz hs2 hby rfl (by decide) _ _ _ rfl HW.out.1 (some ⟨w2.heap.size, 0, none⟩) 1 1 [.int .i64 y1, .int .i64 y2] rfl rfl (.inr ⟨_, rfl, new_name w2 y1 y2⟩) (one_name y1 y2) (by unfold maxLen; omega) (by omega) HW.out.2.1.size ?_)
        intro a' c' w' hown hgr
        have HF : Hid _ := HW.out.more hown hgr HE.out
        clear hown hgr
        go_wp2_with fail
        go_roundw
        case rel => exact ⟨k + 1, pre ++ [(y1, y2)], by omega, by go_num, HF.out⟩
        case measure => simp [intOf]; omega
      · rw [hB] at HH
        have HE : Hid (gotN xs ws = pre ++ gotN xs (ws.drop (k + 1))) := by
          show _ = _
          rw [HK.out.2.2.1, HD.out]; simp [gotN, hB]
        clear HD hB
        go_wp2_with fail
        refine HH.mono ?_
        rintro e w2 ⟨rfl, HB2⟩
        clear HH
        go_wp2_with fail
        go_roundw
        case rel => exact ⟨k + 1, pre, by omega, by go_num, owns_below HK.out.1 HB2.out, HK.out.2.1.trans (HB2.out.mono HK.out.2.1.size), HE.out, by omega⟩
        case measure => simp [intOf]; omega
    · have hlt1 : ¬ (k : Int) < (nw : Int) := by omega
      obtain ⟨a', m', c', rfl, hF⟩ := got_end HL.out.2 HK.out (by rw [List.drop_eq_nil_iff, HL.out.1]; omega)
      have HF : Hid _ := hF
      clear hF hNs
      go_wp2_with fail
      exact bodyPost_end (v := .tuple #[]) (by simp [results, Try.results19, go_sem]) rfl ⟨rfl, HF.out⟩
end Go.Proofs.Ytdonclnjgopmbaa
