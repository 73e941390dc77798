/- Contracts of New, owns, add. -/
import Derived.Test.YtjbgemmcbombfaaRA
namespace Go.Proofs.Ytjbgemmcbombfaa
open Go.RowKit
attribute [local go_sem ↓] Go.wp_at_zero Go.wp_at_succ
set_option maxRecDepth 100000 in
set_option maxHeartbeats 1000000 in
theorem r9 (own nodes : Int) (w : World) (h0 : 0 ≤ own) (h1 : own < nodes) (h4 : nodes ≤ 4) : Calls Try.prog 9 #[.int .i64 own, .int .i64 nodes] w fun e w' => ∃ tb eb ib, e = .returned (.tuple #[.pointer (some ⟨tb, 0, none⟩), .int .i64 0]) ∧ RtAt w' w.heap.size tb eb ib 0 own nodes (fun _ => 0) (fun _ => 0) ∧ Below w.heap.size w w' := by
  obtain ⟨W, hW⟩ : ∃ W, w.alloc (.cells #[.int .i64 0, .int .i64 0] 76) = W := ⟨_, rfl⟩
  have hc : W.heap[w.heap.size]? = some (.cells #[.int .i64 0, .int .i64 0] 76 (0, 0)) := by rw [← hW]; exact heap_alloc_new w _
  obtain ⟨c0, c1⟩ := box2 hc
  have g0 := frozen_of_row W w.heap.size 0 _ 76 hc
  have g1 := frozen_of_row W w.heap.size 1 _ 76 hc
  obtain ⟨V, hV⟩ : ∃ V, (W.setCell ⟨w.heap.size, 0, none⟩ (.int .i64 own)).setCell ⟨w.heap.size, 1, none⟩ (.int .i64 nodes) = V := ⟨_, rfl⟩
  have hVc : V.heap[w.heap.size]? = some (.cells #[.int .i64 own, .int .i64 nodes] 76 (0, 0)) := by
    rw [← hV]
    have e1 := heap_setCell_same W w.heap.size 0 _ 76 (.int .i64 own) hc
    exact heap_setCell_same _ w.heap.size 1 _ 76 (.int .i64 nodes) e1
  have HBV : Hid (Below w.heap.size w V) := by
    rw [← hV, ← hW]
    exact ((((Below.refl _ w).alloc (Nat.le_refl _) _).setCell (p := ⟨w.heap.size, 0, none⟩) (Nat.le_refl _) _).setCell (p := ⟨w.heap.size, 1, none⟩) (Nat.le_refl _) _)
  obtain ⟨v0, v1⟩ := box2 hVc
  have hlt : w.heap.size < V.heap.size := (Array.getElem?_eq_some_iff.1 hVc).1
  have hin : isN nodes own = true := by simp [isN, h0, h1]
  have H31 : Calls Try.prog 31 #[.agg #[.int .i64 own, .int .i64 nodes], .int .i64 own] V fun e w' => e = .returned (.bool true) ∧ Hid (Below w.heap.size w w') ∧ w'.cell? ⟨w.heap.size, 0, none⟩ = some (.int .i64 own) ∧ w'.cell? ⟨w.heap.size, 1, none⟩ = some (.int .i64 nodes) := by
    refine (r31 own nodes own V).mono ?_
    rintro e w' ⟨rfl, hb⟩
    rw [hin]
    have := box2 ((hb.block _ hlt).trans hVc)
    exact ⟨rfl, HBV.out.trans (hb.mono HBV.out.size), this.1, this.2⟩
  have hng : ¬ nodes > 4 := by omega
  have hmm := @run_makeMap Try.prog
  clear hc hVc hlt
  go_enter Try.func9, Try.ntmps9
  go_wp2_with fail
  refine H31.mono ?_
  rintro e w1 ⟨rfl, H1, d0, d1⟩
  clear H31 hW hV c0 c1 g0 g1 v0 v1
  have HF : Hid (RtAt (((w1.alloc (.map #[] 0)).alloc (.map #[] 0)).alloc (.cells #[.int .i64 own, .int .i64 nodes, .map (some w1.heap.size), .map (some (w1.heap.size + 1))] 81)) w.heap.size (w1.heap.size + 2) w1.heap.size (w1.heap.size + 1) 0 own nodes (fun _ => 0) (fun _ => 0) ∧ Below w.heap.size w (((w1.alloc (.map #[] 0)).alloc (.map #[] 0)).alloc (.cells #[.int .i64 own, .int .i64 nodes, .map (some w1.heap.size), .map (some (w1.heap.size + 1))] 81))) := by
    have hs := H1.out.size
    have h00 : cF (fun _ => 0) = fun _ => none := by funext x; simp [cF]
    refine ⟨⟨?_, ?_, ?_, by omega, by omega, by omega⟩, ((H1.out.alloc hs _).alloc (by simp; omega) _).alloc (by simp; omega) _⟩
    · have := heap_alloc_new ((w1.alloc (.map #[] 0)).alloc (.map #[] 0)) (.cells #[.int .i64 own, .int .i64 nodes, .map (some w1.heap.size), .map (some (w1.heap.size + 1))] 81)
      simpa using this
    · rw [h00]
      refine (mp_made hkK w1).keeps ?_
      rw [heap_alloc_old _ _ (by simp; omega), heap_alloc_old _ _ (by simp)]
    · rw [h00]
      have h1 := mp_made hkK (w1.alloc (.map #[] 0))
      simp only [World.size_alloc] at h1
      refine h1.keeps ?_
      rw [heap_alloc_old _ _ (by simp)]
  go_wp2_with fail
  go_ret2
  exact ⟨_, _, _, rfl, HF.out⟩
/-- Names one behind the other. -/
def flatN : List Nm → List Value
  | [] => []
  | x :: r => [.int .i64 x.1, .int .i64 x.2] ++ flatN r
theorem flatN_get : ∀ (l : List Nm) (i : Nat) (hi : i < l.length), (flatN l)[i * 2]? = some (.int .i64 l[i].1) ∧ (flatN l)[i * 2 + 1]? = some (.int .i64 l[i].2)
  | d :: r, 0, _ => by simp [flatN]
  | d :: r, i + 1, hi => by
    have h := flatN_get r i (by simpa using hi)
    have e : (i + 1) * 2 = i * 2 + 2 := by omega
    simp only [flatN, List.getElem_cons_succ, e]
    exact h
theorem flatN_len : ∀ l : List Nm, (flatN l).length = l.length * 2
  | [] => rfl
  | d :: r => by simp [flatN, flatN_len r]; omega
/-- Names that can be read. -/
structure NmR (w : World) (a : Option Addr) (n : Nat) (xs : List Nm) : Prop where
  len : xs.length = n
  mem : n = 0 ∨ ∃ b o, a = some ⟨b, o, none⟩ ∧ b < w.heap.size ∧ w.rangeAt b o (flatN xs)
  wf : ∀ x ∈ xs, wfN x
theorem NmR.below {w w' : World} {a : Option Addr} {n : Nat} {xs : List Nm} (h : NmR w a n xs) (hb : Below w.heap.size w w') : NmR w' a n xs :=
  ⟨h.len, by
    rcases h.mem with e | ⟨b, o, e, hl, hr⟩
    · exact .inl e
    · exact .inr ⟨b, o, e, Nat.lt_of_lt_of_le hl hb.size, fun j u hu => (hb.cell (p := ⟨b, o + j, none⟩) hl).trans (hr j u hu)⟩, h.wf⟩
theorem NmR.keeps {w w' : World} {a : Option Addr} {n : Nat} {xs : List Nm} (h : NmR w a n xs) (hk : ∀ g, blk a = some g → w'.heap[g]? = w.heap[g]?) : NmR w' a n xs :=
  ⟨h.len, by
    rcases h.mem with e | ⟨b, o, e, hl, hr⟩
    · exact .inl e
    · subst e
      have hg := hk b rfl
      refine .inr ⟨b, o, rfl, ?_, fun j u hu => ?_⟩
      · rw [Array.getElem?_eq_getElem hl] at hg
        exact (Array.getElem?_eq_some_iff.1 hg).1
      · have := hr j u hu
        unfold World.cell? at this ⊢
        simp only [hg]
        exact this, h.wf⟩
theorem NmR.at {w : World} {a : Option Addr} {n : Nat} {xs : List Nm} (h : NmR w a n xs) {k : Nat} (hk : k < n) : ∃ b o, ∃ (hx : k < xs.length), a = some ⟨b, o, none⟩ ∧ b < w.heap.size ∧ w.cell? ⟨b, o + k * 2, none⟩ = some (.int .i64 xs[k].1) ∧ w.cell? ⟨b, o + k * 2 + 1, none⟩ = some (.int .i64 xs[k].2) := by
  rcases h.mem with e | ⟨b, o, e, hl, hr⟩
  · omega
  · have hx : k < xs.length := by rw [h.len]; exact hk
    obtain ⟨p1, p2⟩ := flatN_get xs k hx
    exact ⟨b, o, hx, e, hl, hr _ _ p1, by have := hr _ _ p2; rwa [← Nat.add_assoc] at this⟩
theorem nm_one (w : World) (x : Nm) (hx : wfN x) : NmR (w.alloc (.cells #[.int .i64 x.1, .int .i64 x.2] 48)) (some ⟨w.heap.size, 0, none⟩) 1 [x] :=
  ⟨rfl, .inr ⟨_, _, rfl, by simp, fun j u hu => by rw [Nat.zero_add, cell_of_row _ w.heap.size j _ 48 (0, 0) (heap_alloc_new w _)]; simpa [flatN] using hu⟩, fun y hy => by simp only [List.mem_cons, List.not_mem_nil, or_false] at hy; subst hy; exact hx⟩
def allOwn (own : Int) (xs : List Nm) : Bool := xs.all fun x => x.1 == own
set_option maxRecDepth 100000 in
set_option maxHeartbeats 1000000 in
theorem r51 (own nodes : Int) (a : Option Addr) (n c : Nat) (xs : List Nm) (w : World) (h : NmR w a n xs) (hn : n ≤ 140737488355328) : Calls Try.prog 51 #[.agg #[.int .i64 own, .int .i64 nodes], .slice a n c] w fun e w' => e = .returned (.bool (allOwn own xs)) ∧ Below w.heap.size w w' := by
  obtain ⟨W, hW⟩ : ∃ W, w.alloc (.cells #[.int .i64 own, .int .i64 nodes] 76) = W := ⟨_, rfl⟩
  obtain ⟨pb, hpb⟩ : ∃ pb, w.heap.size = pb := ⟨_, rfl⟩
  have HB : Hid (Below w.heap.size w W ∧ W.heap[pb]? = some (.cells #[.int .i64 own, .int .i64 nodes] 76 (0, 0)) ∧ pb < W.heap.size ∧ NmR w a n xs) := by
    rw [← hW, ← hpb]
    exact ⟨(Below.refl _ w).alloc (Nat.le_refl _) _, heap_alloc_new w _, by simp, h⟩
  clear h
  go_enter Try.func51, Try.ntmps51
  go_wp2_with fail
  go_loopw [9] (fun i wr => ∃ k : Nat, k ≤ n ∧ i = .int .i64 k ∧ Hid (Below W.heap.size W wr ∧ allOwn own (xs.take k) = true)) (fun i _ => n - (intOf i).toNat)
  case atStart => exact ⟨0, Nat.zero_le _, rfl, Below.refl _ _, rfl⟩
  case round =>
    clear hW hpb
    obtain ⟨k, hk, rfl, HK⟩ := hrel
    by_cases hlt : k < n
    · have hltI : (k : Int) < (n : Int) := by omega
      have hk0 : (0 : Int) ≤ (k : Int) := by omega
      have hbw : Below w.heap.size w wr := HB.out.1.trans (HK.out.1.mono HB.out.1.size)
      obtain ⟨b, o, hx, rfl, hb, p0, p1⟩ := (HB.out.2.2.2.below hbw).at hlt
      have HT : Hid (xs.take (k + 1) = xs.take k ++ [xs[k]]) := (List.take_append_getElem hx).symm
      have HM : Hid (xs[k] ∈ xs) := List.getElem_mem hx
      generalize xs[k] = y at *
      obtain ⟨y1, y2⟩ := y
      simp only at p0 p1
      obtain ⟨W2, hW2⟩ : ∃ W2, wr.alloc (.cells #[.int .i64 0, .int .i64 0] 48) = W2 := ⟨_, rfl⟩
      obtain ⟨vb, hvb⟩ : ∃ vb, wr.heap.size = vb := ⟨_, rfl⟩
      have hc : W2.heap[vb]? = some (.cells #[.int .i64 0, .int .i64 0] 48 (0, 0)) := by rw [← hW2, ← hvb]; exact heap_alloc_new wr _
      obtain ⟨c0, c1⟩ := box2 hc
      have g0 := frozen_of_row W2 vb 0 _ 48 hc
      have g1 := frozen_of_row W2 vb 1 _ 48 hc
      have HB2 : Hid (Below W.heap.size W ((W2.setCell ⟨vb, 0, none⟩ (.int .i64 y1)).setCell ⟨vb, 1, none⟩ (.int .i64 y2))) := by
        have h1 : Below W.heap.size W W2 := by rw [← hW2]; exact HK.out.1.alloc HK.out.1.size _
        have h0 : W.heap.size ≤ vb := by have := HK.out.1.size; omega
        exact (h1.setCell (p := ⟨vb, 0, none⟩) h0 _).setCell (p := ⟨vb, 1, none⟩) h0 _
      have q0 : ((W2.setCell ⟨vb, 0, none⟩ (.int .i64 y1)).setCell ⟨vb, 1, none⟩ (.int .i64 y2)).cell? ⟨pb, 0, none⟩ = some (.int .i64 own) := by
        obtain ⟨_, h2, h3, _⟩ := HB.out
        exact (box2 ((HB2.out.block pb h3).trans h2)).1
      clear hbw hc
      by_cases hy : y1 = own
      · subst hy
        go_wp2_with fail
        go_roundw
        case rel => exact ⟨k + 1, by omega, by go_num, HB2.out, by
          show allOwn y1 (xs.take (k + 1)) = true
          rw [HT.out]
          have := HK.out.2
          simp only [allOwn, List.all_append, List.all_cons, List.all_nil, Bool.and_true, beq_self_eq_true] at this ⊢
          exact this⟩
        case measure => simp [intOf]; omega
      · have hy2 : (y1 == own) = false := by simp [hy]
        go_wp2_with fail
        go_ret
        have e : allOwn own xs = false := by
          have hm := HM.out
          simp only [allOwn, List.all_eq_false]
          exact ⟨_, hm, by simp [hy]⟩
        rw [e]
        exact ⟨rfl, HB.out.1.trans (HB2.out.mono HB.out.1.size)⟩
    · go_wp2_with fail
      go_ret
      have h1 := HK.out.2
      rw [List.take_of_length_le (by rw [HB.out.2.2.2.len]; omega)] at h1
      rw [h1]
      exact ⟨rfl, HB.out.1.trans (HK.out.1.mono HB.out.1.size)⟩
theorem upd_none (f : Hk → Int) (k : Hk) (t : Int) (h : IntKind.i64.wrap (f k + t) = 0) (u : Option Value) : updF (updF (cF f) k u) k none = cF (addF f k t) := by
  funext y
  by_cases e : y = k
  · subst e; simp [updF, cF, addF, h]
  · simp [updF, cF, addF, e]
theorem upd_some (f : Hk → Int) (k : Hk) (t : Int) (h : ¬ IntKind.i64.wrap (f k + t) = 0) : updF (cF f) k (some (.int .i64 (IntKind.i64.wrap (f k + t)))) = cF (addF f k t) := by
  funext y
  by_cases e : y = k
  · subst e; simp [updF, cF, addF, h]
  · simp [updF, cF, addF, e]
/-- What add leaves. -/
def AddTo (w : World) (b n : Nat) (f : Hk → Int) (k : Hk) (t : Int) (w' : World) : Prop := MpAt hkK w' b (n + 1) (cF (addF f k t)) ∧ w'.os = w.os ∧ w'.tape = w.tape ∧ w'.output = w.output ∧ w.heap.size ≤ w'.heap.size ∧ ∀ j, j < w.heap.size → j ≠ b → w'.heap[j]? = w.heap[j]?
set_option maxRecDepth 100000 in
set_option maxHeartbeats 2000000 in
theorem r52 (b n : Nat) (f : Hk → Int) (k : Hk) (t : Int) (w : World) (h : MpAt hkK w b n (cF f)) (hk : wfK k) (hn : n ≤ 1000000000) :
    Calls Try.prog 52 #[.map (some b), .agg #[.int .i64 k.1.1, .int .i64 k.1.2, .int .i64 k.2], .int .i64 t] w fun e w' => e = .returned (.tuple #[]) ∧ AddTo w b n f k t w' := by
  obtain ⟨W, hW⟩ : ∃ W, w.alloc (.cells #[.int .i64 k.1.1, .int .i64 k.1.2, .int .i64 k.2] 87) = W := ⟨_, rfl⟩
  have hb : Below w.heap.size w W := by rw [← hW]; exact (Below.refl _ w).alloc (Nat.le_refl _) _
  have hc : W.heap[w.heap.size]? = some (.cells #[.int .i64 k.1.1, .int .i64 k.1.2, .int .i64 k.2] 87 (0, 0)) := by rw [← hW]; exact heap_alloc_new w _
  have hlt : w.heap.size < W.heap.size := by rw [← hW]; simp
  have hne : w.heap.size ≠ b := by have := h.lt; omega
  obtain ⟨c0, c1, c2⟩ := box3 hc
  have hz : ∀ u : World, (zeroValue 3).run Try.prog u = .ok (.int .i64 0) u := fun u => by go_simp
  have hM := (h.below hb).below ((Below.refl W.heap.size W).drew)
  have hl1 : (Instr.lookup 79 (.map (some b)) (.agg #[.int .i64 k.1.1, .int .i64 k.1.2, .int .i64 k.2]) false).run Try.prog W.drew = .ok (.int .i64 (f k)) W.drew := by
    have := hM.look Try.underlying79 (hz _) (x := k) hk
    rw [cF_get] at this
    exact this
  obtain ⟨st, U, he, hg1, hst⟩ := hM.entry Try.underlying79 hz (by unfold maxLen; omega) (x := k) hk
  rw [cF_get] at he
  have he' : (Instr.mapEntry 79 (.map (some b)) (.agg #[.int .i64 k.1.1, .int .i64 k.1.2, .int .i64 k.2])).run Try.prog W.drew = .ok (.tuple #[.int .i64 (f k), .int .i64 ((st : Nat) : Int)]) U := he
  have hlU : (Instr.lookup 79 (.map (some b)) (.agg #[.int .i64 k.1.1, .int .i64 k.1.2, .int .i64 k.2]) false).run Try.prog U = .ok (.int .i64 (f k)) U := by
    have := hM.entry_look Try.underlying79 hz (by unfold maxLen; omega) (x := k) hk he
    rw [cF_get] at this
    exact this
  obtain ⟨w3, hs3, hm3, hg3⟩ := hst U (.int .i64 (IntKind.i64.wrap (f k + t))) rfl
  have hblk : ∀ j, j < W.heap.size → j ≠ b → w3.heap[j]? = W.heap[j]? := fun j hj hne => by
    rw [hg3.block j (Nat.lt_of_lt_of_le hj hg1.size) (by simpa using hne), hg1.block j hj (by simpa using hne)]; rfl
  obtain ⟨d0, d1, d2⟩ := box3 ((hblk _ hlt hne).trans hc)
  have hl3 : (Instr.lookup 79 (.map (some b)) (.agg #[.int .i64 k.1.1, .int .i64 k.1.2, .int .i64 k.2]) false).run Try.prog w3 = .ok (.int .i64 (IntKind.i64.wrap (f k + t))) w3 := by
    have := hm3.look Try.underlying79 (hz _) (x := k) hk
    rw [updF_same] at this
    exact this
  have HF : Hid (w3.os = w.os ∧ w3.tape = w.tape ∧ w3.output = w.output ∧ w.heap.size ≤ w3.heap.size ∧ ∀ j, j < w.heap.size → j ≠ b → w3.heap[j]? = w.heap[j]?) :=
    ⟨hg3.os.trans (hg1.os.trans hb.os), hg3.tape.trans (hg1.tape.trans hb.tape), hg3.output.trans (hg1.output.trans hb.output), Nat.le_trans hb.size (Nat.le_trans hg1.size hg3.size), fun j hj hne => (hblk j (Nat.lt_of_lt_of_le hj hb.size) hne).trans (hb.block j hj)⟩
  have HM3 : Hid (MpAt hkK w3 b (n + 1) (updF (cF f) k (some (.int .i64 (IntKind.i64.wrap (f k + t)))))) := hm3
  by_cases h0 : IntKind.i64.wrap (f k + t) = 0
  · obtain ⟨w4, hd4, hm4, hg4⟩ := hm3.del Try.underlying79 (x := k) hk 0
    rw [upd_none f k t h0] at hm4
    have hd4' : (Builtin.delete_ #[79, 87] 0 #[.map (some b), .agg #[.int .i64 k.1.1, .int .i64 k.1.2, .int .i64 k.2]]).run Try.prog w3 = .ok (.tuple #[]) w4 := hd4
    have HE : Hid (AddTo w b n f k t w4) := by
      obtain ⟨q1, q2, q3, q4, q5⟩ := HF.out
      exact ⟨hm4, hg4.os.trans q1, hg4.tape.trans q2, hg4.output.trans q3, Nat.le_trans q4 hg4.size, fun j hj hne => (hg4.block j (Nat.lt_of_lt_of_le hj q4) (by simpa using hne)).trans (q5 j hj hne)⟩
    have HH0 : Hid (IntKind.i64.wrap (f k + t) = 0) := h0
    generalize hv : IntKind.i64.wrap (f k + t) = v at *
    have hv0 : v = 0 := h0
    subst hv0
    clear h hM hm3 hst hg1 hg3 hblk hm4 hg4 hb hc hlt hne he hd4 h0 HM3
    obtain ⟨⟨k1, k2⟩, k3⟩ := k
    simp only at *
    generalize f ((k1, k2), k3) = fk at *
    go_enter Try.func52, Try.ntmps52
    go_wp2_with fail
    go_region
    go_wp2_with fail
    go_end0
    exact ⟨rfl, HE.out⟩
  · have HE : Hid (AddTo w b n f k t w3) := by
      have := HM3.out
      rw [upd_some f k t h0] at this
      exact ⟨this, HF.out⟩
    generalize hv : IntKind.i64.wrap (f k + t) = v at *
    have hv0 : (v == 0) = false := by simp [h0]
    clear h hM hm3 hst hg1 hg3 hblk hb hc hlt hne he HM3 HF
    obtain ⟨⟨k1, k2⟩, k3⟩ := k
    simp only at *
    generalize f ((k1, k2), k3) = fk at *
    go_enter Try.func52, Try.ntmps52
    go_wp2_with fail
    go_region
    go_wp2_with fail
    go_end0
    exact ⟨rfl, HE.out⟩
end Go.Proofs.Ytjbgemmcbombfaa
