/- Contract of the document's Guards. Contracts of HandTerms and KeptTerms. Contract of 'maps' once more: which map comes of the bindings. Sums and guards by a map that says more; values that are not there. The statement on the numbers of sums. Contract of the statement on guards. -/
import Derived.Test.YtaehhophaaipdaaGreatDoorXJg
import Derived.Test.YtaehhophaaipdaaGreatDoorGVg
import Derived.Test.YtaehhophaaipdaaGreatDoorQPg
import Derived.Test.YtaehhophaaipdaaGreatDoorQKg
import Derived.Maps.AppendAt
import Derived.Test.YtaehhophaaipdaaGreatDoorMAg
import Derived.Test.YtaehhophaaipdaaGreatDoorQNg
import Derived.Test.YtaehhophaaipdaaGreatDoorQOg
import Derived.Test.YtaehhophaaipdaaGreatDoorXMg
namespace Go.Proofs.YtaehhophaaipdaaGreatDoor
open Go.RowKit
attribute [local go_sem ↓] Go.wp_at_zero Go.wp_at_succ
theorem failsG_take {us : List G2} {k : Nat} (hk : k < us.length) : failsG (us.take (k + 1)) = (failsG (us.take k) || (us[k].1 == 2)) := by
 rw [List.take_succ_eq_append_getElem hk, fails_snoc]
theorem both_le : ∀ (b a : List Nm), (bothN a b).length ≤ a.length + b.length
 | [], a => by simp [bothN]
 | x :: b, a => by
  have h := both_le b (addN a x)
  have h2 : (addN a x).length ≤ a.length + 1 := by
   unfold addN
   split <;> simp
  show (bothN (addN a x) b).length ≤ _
  simp only [List.length_cons]
  omega
/-- The document's Guards. -/
structure Gr (m : Hp) (w0 : World) (p : Option Addr) (ls : List (List C)) (us : List G2) : Prop where
 rg : RgH m
 de : DerG w0 p m
 len : us.length = ls.length
 gv : ∀ i (h1 : i < ls.length) (h2 : i < us.length), Gv m ls[i] us[i]
 wf : ∀ l ∈ ls, ∀ c ∈ l, wfN (c.vn, c.vk)
 sm : ∀ u ∈ us, u.2.length ≤ 1000
 few : ls.length ≤ 100000000
theorem wts_le (us : List G2) (hs : ∀ u ∈ us, u.2.length ≤ 1000) : ∀ k, k ≤ us.length → (wtsG [] (us.take k)).length ≤ 1000 * k
 | 0, _ => by simp [wtsG]
 | k + 1, hk => by
  rw [wts_take (by omega)]
  have h1 := wts_le us hs k (by omega)
  have h2 := both_le us[k].2 (wtsG [] (us.take k))
  have h3 := hs us[k] (List.getElem_mem _)
  omega
set_option maxRecDepth 100000 in
set_option maxHeartbeats 8000000 in
theorem x16 (m : Hp) (w0 : World) (p : Option Addr) (ls : List (List C)) (us : List G2) (v : Value) (w : World) (hG : Gr m w0 p ls us) (hb : Below w0.heap.size w0 w) (hT : RowAt w v ls) : Calls Tryz.prog 16 #[.pointer p, v] w (RgPost (allR us) w) := by
 have HG : Hid (Gr m w0 p ls us) := hG
 have HT : Hid (RowAt w v ls ∧ Below w0.heap.size w0 w) := ⟨hT, hb⟩
 have hfew := hG.few
 have hlen := hG.len
 obtain ⟨va, vc, hv⟩ := hT.form
 subst hv
 clear hT hb hG
 go_enter Tryz.func16, Tryz.ntmps16
 go_wp2_with fail
 go_loopw [6, 7, 8] (fun nv fv iv wr => ∃ (k : Nat) (q : Option Addr) (cq L : Nat) (fb : Bool), k ≤ ls.length ∧ iv = .int .i64 k ∧ nv = .slice q L cq ∧ fv = .bool fb ∧ Hid (fb = failsG (us.take k) ∧ L = (wtsG [] (us.take k)).length ∧ NamesAt wr (.slice q L cq) (wtsG [] (us.take k)) ∧ Below w.heap.size w wr)) (fun _ _ iv _ => ls.length - (intOf iv).toNat)
 case atStart => exact ⟨0, none, 0, 0, false, Nat.zero_le _, rfl, rfl, rfl, rfl, rfl, namesAt_nil _, Below.refl _ _⟩
 case round =>
  obtain ⟨k, q, cq, Lq, fb, hk, rfl, rfl, rfl, HK⟩ := hrel
  by_cases hlt : k < ls.length
  ·have hltI : (k : Int) < (ls.length : Int) := by omega
   have hk0 : (0 : Int) ≤ (k : Int) := by omega
   have hku : k < us.length := by omega
   obtain ⟨b, o, u, hva, _, hu, HC⟩ : ∃ b o u, va = some ⟨b, o, none⟩ ∧ (∃ ua un uc, u = .slice ua un uc) ∧ wr.cell? ⟨b, o + k, none⟩ = some u ∧ Hid (TermAt wr u ls[k]) := by
    obtain ⟨h0, h⟩ := HT.out.1.below HK.out.2.2.2
    rcases h with ⟨e, _⟩ | ⟨b, o, cap, vs, e, _, _, _, h4, h5, h6⟩
    ·rw [e] at hlt; simp at hlt
    ·simp only [Value.slice.injEq] at e
     have hkv : k < vs.length := by omega
     have ht := h6 k _ _ (List.getElem?_eq_getElem hkv) (List.getElem?_eq_getElem hlt)
     obtain ⟨ua, uc, e2⟩ := ht.form
     exact ⟨b, o, vs[k], e.1, ⟨_, _, _, e2⟩, h5 k _ (List.getElem?_eq_getElem hkv), ht⟩
   subst hva
   obtain ⟨⟨o1, n1⟩, hU⟩ : ∃ U, us[k] = U := ⟨_, rfl⟩
   have HU : Hid (us[k] = (o1, n1)) := hU
   clear hU
   have H19 := x19 m HG.out.rg w0 p HG.out.de ls[k] us[k] (HG.out.gv k hlt hku) u wr (HT.out.2.trans (HK.out.2.2.2.mono HT.out.2.size)) HC.out (HG.out.wf _ (List.getElem_mem _))
   rw [HU.out] at H19
   clear HC
   go_wp2_with fail
   refine H19.mono ?_
   rintro e w2 ⟨q2, c2, rfl, hN2, b2⟩
   clear H19
   have HK2 : Hid (NamesAt w2 (.slice q2 n1.length c2) n1 ∧ NamesAt w2 (.slice q Lq cq) (wtsG [] (us.take k)) ∧ Below w.heap.size w w2 ∧ n1.length ≤ 1000) := by
    refine ⟨hN2, HK.out.2.2.1.below b2, HK.out.2.2.2.trans (b2.mono HK.out.2.2.2.size), ?_⟩
    have := HG.out.sm us[k] (List.getElem_mem _)
    rw [HU.out] at this
    exact this
   clear hN2 b2
   have H40 := z40 (wtsG [] (us.take k)) n1 _ _ w2 HK2.out.2.1 HK2.out.1 (by have := HK2.out.2.2.2; have := wts_le us HG.out.sm k (by omega); omega)
   obtain ⟨fb2, hfb2⟩ : ∃ fb2, (fb || (o1 == 2)) = fb2 := ⟨_, rfl⟩
   have HR : Hid (fb2 = failsG (us.take (k + 1)) ∧ bothN (wtsG [] (us.take k)) n1 = wtsG [] (us.take (k + 1))) := by
    refine ⟨?_, ?_⟩
    ·rw [failsG_take hku, ← HK.out.1, HU.out]
     exact hfb2.symm
    ·rw [wts_take hku, HU.out]
   rw [HR.out.2] at H40
   clear HU
   cases fb
   ·have e2 : (o1 == 2) = fb2 := by simpa using hfb2
    clear hfb2
    dsimp only
    go_wp2_with fail
    refine H40.mono ?_
    rintro e w3 ⟨q3, c3, rfl, H3⟩
    have HZ : Hid (fb2 = failsG (us.take (k + 1)) ∧ True ∧ NamesAt w3 (.slice q3 (wtsG [] (us.take (k + 1))).length c3) (wtsG [] (us.take (k + 1))) ∧ Below w.heap.size w w3) := ⟨HR.out.1, trivial, namesAt_of_owns H3.out.1 (by have := wts_le us HG.out.sm (k + 1) (by omega); unfold maxLen; omega), HK2.out.2.2.1.trans (H3.out.2.mono HK2.out.2.2.1.size)⟩
    clear H3 H40 HK2 HR HK
    go_wp2_with fail
    go_roundw
    case rel => exact ⟨k + 1, q3, c3, _, fb2, by omega, by go_num, rfl, rfl, ⟨HZ.out.1, rfl, HZ.out.2.2.1, HZ.out.2.2.2⟩⟩
    case measure => simp [intOf]; omega
   ·obtain rfl : true = fb2 := by simpa using hfb2
    clear hfb2
    dsimp only
    go_wp2_with fail
    refine H40.mono ?_
    rintro e w3 ⟨q3, c3, rfl, H3⟩
    have HZ : Hid (true = failsG (us.take (k + 1)) ∧ True ∧ NamesAt w3 (.slice q3 (wtsG [] (us.take (k + 1))).length c3) (wtsG [] (us.take (k + 1))) ∧ Below w.heap.size w w3) := ⟨HR.out.1, trivial, namesAt_of_owns H3.out.1 (by have := wts_le us HG.out.sm (k + 1) (by omega); unfold maxLen; omega), HK2.out.2.2.1.trans (H3.out.2.mono HK2.out.2.2.1.size)⟩
    clear H3 H40 HK2 HR HK
    go_wp2_with fail
    go_roundw
    case rel => exact ⟨k + 1, q3, c3, _, true, by omega, by go_num, rfl, rfl, ⟨HZ.out.1, rfl, HZ.out.2.2.1, HZ.out.2.2.2⟩⟩
    case measure => simp [intOf]; omega
  ·have hltI : ¬ (k : Int) < (ls.length : Int) := by omega
   obtain rfl : k = ls.length := by omega
   have HE : Hid (fb = failsG us ∧ Lq = (wtsG [] us).length ∧ NamesAt wr (.slice q Lq cq) (wtsG [] us) ∧ Below w.heap.size w wr) := by
    have h := HK.out
    rw [List.take_of_length_le (by omega)] at h
    exact h
   clear HK
   cases fb
   ·by_cases h0 : Lq = 0
    ·subst h0
     have HZ : Hid (allR us = (1, [])) := by
      show allR us = _
      have e : wtsG [] us = [] := List.eq_nil_of_length_eq_zero HE.out.2.1.symm
      unfold allR allG
      rw [← HE.out.1, e]
      rfl
     go_wp2_with fail
     refine bodyPost_ret (v := .tuple #[.int .u8 1, .slice none 0 0]) (by simp [results, Tryz.results16, go_sem]) rfl ?_
     rw [HZ.out]
     exact rg_nil HE.out.2.2.2
    ·have hp : (0 : Int) < (Lq : Int) := by omega
     have HZ : Hid (allR us = (3, wtsG [] us)) := by
      show allR us = _
      have e : wtsG [] us ≠ [] := fun e => h0 (by rw [HE.out.2.1, e]; rfl)
      unfold allR allG
      rw [← HE.out.1, if_neg e]
      rfl
     go_wp2_with fail
     refine bodyPost_ret (v := .tuple #[.int .u8 3, .slice q Lq cq]) (by simp [results, Tryz.results16, go_sem]) rfl ?_
     rw [HZ.out]
     obtain ⟨_, e2, e3, e4⟩ := HE.out
     subst e2
     exact ⟨q, cq, rfl, e3, e4⟩
   ·have HZ : Hid (allR us = (2, [])) := by
     show allR us = _
     unfold allR
     rw [← HE.out.1]
     rfl
    go_wp2_with fail
    refine bodyPost_ret (v := .tuple #[.int .u8 2, .slice none 0 0]) (by simp [results, Tryz.results16, go_sem]) rfl ?_
    rw [HZ.out]
    exact rg_nil HE.out.2.2.2
end Go.Proofs.YtaehhophaaipdaaGreatDoor

namespace Go.Proofs.YtaehhophaaipdaaGreatDoor
open Go.RowKit
attribute [local go_sem ↓] Go.wp_at_zero Go.wp_at_succ
theorem row_at {w : World} {u : Value} {ls : List (List C)} (h : RowAt w u ls) (i : Nat) (hi : i < ls.length) : ∃ b o cap x, u = .slice (some ⟨b, o, none⟩) ls.length cap ∧ w.cell? ⟨b, o + i, none⟩ = some x ∧ TermAt w x ls[i] ∧ b < w.heap.size := by
 obtain ⟨_, h⟩ := h
 rcases h with ⟨rfl, _⟩ | ⟨b, o, cap, vs, h1, h2, h3, h4, h5, h6, h7⟩
 ·simp at hi
 ·have hv : i < vs.length := by omega
  exact ⟨b, o, cap, vs[i], h1, row_cell h6 i hv, h7 i _ _ (List.getElem?_eq_getElem hv) (List.getElem?_eq_getElem hi), h4⟩
/-- A term as HandCells hands it. -/
def HandT (w : World) (u : Value) (l : List C) (g : Nat) : Prop := u = .slice (some ⟨g, 0, none⟩) l.length (l.length + 9) ∧ w.rangeAt g 0 (flat (handL l)) ∧ g < w.heap.size
theorem HandT.below {w w' : World} {u : Value} {l : List C} {g : Nat} (h : HandT w u l g) (hb : Below w.heap.size w w') : HandT w' u l g :=
 ⟨h.1, range_below h.2.1 h.2.2 hb, Nat.lt_of_lt_of_le h.2.2 hb.size⟩
theorem HandT.grown {w w' : World} {u : Value} {l : List C} {g : Nat} {o : Option Nat} (h : HandT w u l g) (hg : w.grownBy w' o) (ho : o ≠ some g) : HandT w' u l g :=
 ⟨h.1, fun j v hv => (hg.cell_far ⟨g, 0 + j, none⟩ h.2.2 (fun e => ho e.symm)).trans (h.2.1 j v hv), Nat.lt_of_lt_of_le h.2.2 hg.size⟩
/-- A row of terms as HandTerms hands it. -/
def HandR (w : World) (base : Nat) (u : Value) (ls : List (List C)) : Prop :=
 ∃ vs, w.ownsRow base 24 1 u ls.length vs ∧ vs.length = ls.length ∧ ∀ (i : Nat) (v : Value) (l : List C), vs[i]? = some v → ls[i]? = some l → ∃ g, HandT w v l g ∧ u.ownBlock ≠ some g
theorem HandR.below {w w' : World} {base : Nat} {u : Value} {ls : List (List C)} (h : HandR w base u ls) (hb : Below w.heap.size w w') : HandR w' base u ls := by
 obtain ⟨vs, h1, h2, h3⟩ := h
 refine ⟨vs, owns_below h1 hb, h2, fun i v l hv hl => ?_⟩
 obtain ⟨g, h4, h5⟩ := h3 i v l hv hl
 exact ⟨g, h4.below hb, h5⟩
/-- The block of a row of terms is none in which a term's cells lie. -/
theorem hand_apart {w : World} {base : Nat} {u : Value} {ls : List (List C)} {l : List C} {g : Nat} {v : Value} (h : HandR w base u ls) (h0 : 0 < ls.length) (ht : HandT w v l g) : u.ownBlock ≠ some g := by
 obtain ⟨vs, h1, h2, h3⟩ := h
 intro e
 rcases h1.2 with ⟨h4, h5⟩ | ⟨b, cap, cur, h4, h5, h6, h7, h8, h9, h10⟩
 ·omega
 ·rw [h4] at e
  simp [Value.ownBlock] at e
  subst e
  have hv : 0 < vs.length := by omega
  have r := range_of_owns h6 h10
  have c1 := r 0 vs[0] (List.getElem?_eq_getElem hv)
  obtain ⟨g', hT, _⟩ := h3 0 vs[0] ls[0] (List.getElem?_eq_getElem hv) (List.getElem?_eq_getElem h0)
  have hne : 0 < (handL l).length := by rw [handL_len]; omega
  obtain ⟨p0, _⟩ := term_cells ht.2.1 0 hne
  simp only [Nat.zero_mul, Nat.add_zero] at p0 c1
  rw [c1, hT.1] at p0
  simp at p0
theorem hand_row {w : World} {base : Nat} {u : Value} {ls : List (List C)} (h : HandR w base u ls) (hm : ls.length ≤ maxLen) (htx : ∀ l ∈ ls, ∀ c ∈ l, c.t.size ≤ maxLen) (hB : ∀ l ∈ ls, 48 * l.length ≤ 140737488355328) : RowAt w u ls := by
 obtain ⟨vs, h1, h2, h3⟩ := h
 cases hl : ls with
 | nil =>
  rw [hl] at h1
  rcases h1.2 with ⟨h4, _⟩ | ⟨b, cap, cur, h4, h5, h6, h7, h8, h9, h10⟩
  ·exact ⟨by simp, .inl ⟨rfl, none, h4⟩⟩
  ·exact ⟨by simp, .inr ⟨b, 0, cap, [], h4, by simp, h8, (Array.getElem?_eq_some_iff.1 h6).1, rfl, fun j v hv => by simp at hv, fun i u l hu => by simp at hu⟩⟩
 | cons a r =>
  rw [← hl]
  refine rowAt_of_owns h1 (by rw [hl]; simp) hm fun i v l hv hl' => ?_
  obtain ⟨g, h4, _⟩ := h3 i v l hv hl'
  rw [h4.1]
  exact hand_term h4.2.1 h4.2.2 (htx l (List.mem_of_getElem? hl')) (hB l (List.mem_of_getElem? hl'))
set_option maxRecDepth 100000 in
set_option maxHeartbeats 2000000 in
theorem k14h (ls : List (List C)) (v : Value) (w : World) (hR : RowAt w v ls) (hl : ls.length ≤ 5864062014805) (hB : ∀ l ∈ ls, 48 * l.length ≤ 140737488355328) :
  Calls Tryz.prog 14 #[v] w fun e w' => ∃ u, e = .returned u ∧ HandR w' w.heap.size u ls ∧ Below w.heap.size w w' := by
 have HR : Hid (RowAt w v ls) := hR
 have HB : Hid (∀ l ∈ ls, 48 * l.length ≤ 140737488355328) := hB
 obtain ⟨i0, hi, hz, hs, hby⟩ := info29
 obtain ⟨ad, cap, hv⟩ := hR.form
 subst hv
 clear hR hB
 go_enter Tryz.func14, Tryz.ntmps14
 go_wp2_with fail
 go_loopw [3, 4] (fun out i wr => ∃ k : Nat, k ≤ ls.length ∧ i = .int .i64 k ∧ Hid (HandR wr w.heap.size out (ls.take k)) ∧ (k = 0 → out.ownBlock = none) ∧ Below w.heap.size w wr) (fun _ i _ => ls.length - (intOf i).toNat)
 case atStart => exact ⟨0, by omega, rfl, ⟨[], World.ownsRow_nil _ _ _ _, rfl, fun i v l hv => by simp at hv⟩, fun _ => rfl, Below.refl _ _⟩
 case round =>
  obtain ⟨k, hk, rfl, HI, hk00, hbr⟩ := hrel
  have hsz := hbr.size
  by_cases hlt : k < ls.length
  ·have hlt' : (k : Int) < (ls.length : Int) := by omega
   have hk0 : (0 : Int) ≤ (k : Int) := by omega
   obtain ⟨rb, ro, rc, y, hu, cy, hTy, hrb⟩ := row_at (HR.out.below hbr) k hlt
   simp only [Value.slice.injEq] at hu
   obtain ⟨rfl, _, rfl⟩ := hu
   have H28 := k21 ls[k] y wr hTy (HB.out _ (List.getElem_mem hlt))
   obtain ⟨ay, cpy, hy⟩ := hTy.form
   subst hy
   clear hTy
   have HTk : Hid (ls.take (k + 1) = ls.take k ++ [ls[k]]) := List.take_succ_eq_append_getElem hlt
   have hbl : 48 * ls[k].length ≤ 140737488355328 := HB.out _ (List.getElem_mem hlt)
   generalize hlk : ls[k] = l at *
   go_wp2_with fail
   refine H28.mono ?_
   rintro e w1 ⟨g, rfl, hr1, hg1, hb1⟩
   have hsz1 := hb1.size
   have HH1 : Hid (HandT w1 (.slice (some ⟨g, 0, none⟩) l.length (l.length + 9)) l g) := ⟨rfl, hr1, hg1⟩
   have HI1 : Hid (HandR w1 w.heap.size u3 (ls.take k)) := HI.out.below hb1
   have HAp : Hid (u3.ownBlock ≠ some g) := by
    by_cases h0 : k = 0
    ·show u3.ownBlock ≠ some g
     rw [hk00 h0]; simp
    ·exact hand_apart HI1.out (by rw [List.length_take]; omega) HH1.out
   have hbw1 : Below w.heap.size w w1 := hbr.trans (hb1.mono hsz)
   obtain ⟨vs, hO, hvl, hvs⟩ := HI1.out
   have HVs : Hid (vs.length = (ls.take k).length ∧ ∀ (i : Nat) (v : Value) (l : List C), vs[i]? = some v → (ls.take k)[i]? = some l → ∃ g, HandT w1 v l g ∧ u3.ownBlock ≠ some g) := ⟨hvl, hvs⟩
   have hkl : (ls.take k).length = k := by rw [List.length_take]; omega
   rw [hkl] at hO
   have HOa : Hid ((w1.alloc (.cells #[.slice (some ⟨g, 0, none⟩) l.length (l.length + 9)] 24)).ownsRow w.heap.size 24 1 u3 k vs) := hO.alloc _
   have HNews : Hid (∀ j u, [(.slice (some ⟨g, 0, none⟩) l.length (l.length + 9) : Value)][j]? = some u → (w1.alloc (.cells #[.slice (some ⟨g, 0, none⟩) l.length (l.length + 9)] 24)).cell? ((⟨w1.heap.size, 0, none⟩ : Addr).add j) = some u) := fun j u hu => by
    rw [Addr.add_mid]
    exact range_new w1 [.slice (some ⟨g, 0, none⟩) l.length (l.length + 9)] 24 j u hu
   have hbwa : Below w.heap.size w (w1.alloc (.cells #[.slice (some ⟨g, 0, none⟩) l.length (l.length + 9)] 24)) := hbw1.alloc hbw1.size _
   clear hO hvl hvs hr1 H28 cy
   go_wp2_with (at_builtin; refine wpList_append_own_at _ rfl _ _ 39 rfl w.heap.size 24 i0 (.slice none 0 0) 1 24 Tryz.underlying39 hi hz hs hby rfl (by decide) _ _ _ rfl HOa.out ⟨w1.heap.size, 0, none⟩ 1 1 [.slice (some ⟨g, 0, none⟩) l.length (l.length + 9)] rfl rfl HNews.out (fun x hx => by simp at hx; subst hx; rfl) (by unfold maxLen; omega) (by omega) (by simp; omega) ?_)
   intro v' w' hown hgr _ hloc
   have HF : Hid (HandR w' w.heap.size v' (ls.take (k + 1))) := by
    have hal : ∀ (u : Value) (m : List C) (q : Nat), HandT w1 u m q → u3.ownBlock ≠ some q → HandT w' u m q ∧ v'.ownBlock ≠ some q := fun u m q hT hne => by
     refine ⟨(hT.below (below_alloc _ _)).grown hgr hne, fun e => ?_⟩
     rcases hloc with h | h
     ·rw [h] at e; exact hne e
     ·rw [h] at e
      have := hT.2.2
      simp at e
      omega
    refine ⟨vs ++ [.slice (some ⟨g, 0, none⟩) l.length (l.length + 9)], ?_, ?_, ?_⟩
    ·have e : (ls.take (k + 1)).length = k + 1 := by rw [List.length_take]; omega
     rw [e]; exact hown
    ·rw [HTk.out, List.length_append, List.length_append, HVs.out.1]; rfl
    ·intro i u m hu hm
     rw [HTk.out] at hm
     by_cases hi' : i < vs.length
     ·rw [List.getElem?_append_left hi'] at hu
      rw [List.getElem?_append_left (by rw [← HVs.out.1]; exact hi')] at hm
      obtain ⟨q, h1, h2⟩ := HVs.out.2 i u m hu hm
      exact ⟨q, hal u m q h1 h2⟩
     ·rw [List.getElem?_append_right (by omega)] at hu
      rw [List.getElem?_append_right (by rw [← HVs.out.1]; omega), ← HVs.out.1] at hm
      have h0 : i - vs.length = 0 := by
       have := (List.getElem?_eq_some_iff.1 hu).1
       simp at this; omega
      rw [h0] at hu hm
      simp at hu hm
      subst hu hm
      exact ⟨g, hal _ _ g HH1.out HAp.out⟩
   have HBf : Hid (Below w.heap.size w w') := hbwa.grown hgr (by simp; omega) (fun q hq => (HOa.out.lt q hq).1)
   clear hown hgr hloc
   go_wp2_with fail
   go_roundw
   case rel => exact ⟨k + 1, by omega, by go_num, HF, fun h => by omega, HBf.out⟩
   case measure => simp [intOf]; omega
  ·have hlt' : ¬ ((k : Int) < (ls.length : Int)) := by omega
   rw [List.take_of_length_le (by omega)] at HI
   go_wp2_with fail
   go_ret
   exact ⟨_, rfl, HI.out, hbr⟩
set_option maxRecDepth 100000 in
set_option maxHeartbeats 2000000 in
theorem k21h (ls : List (List C)) (u v : Value) (base : Nat) (w : World) (hH : HandR w base u ls) (hR : RowAt w v ls) (hl : ls.length ≤ 5864062014805) (hB : ∀ l ∈ ls, 48 * l.length ≤ 140737488355328) :
  Calls Tryz.prog 21 #[u, v] w fun e w' => e = .returned (.bool true) ∧ Below w.heap.size w w' := by
 have HH : Hid (HandR w base u ls) := hH
 have HR : Hid (RowAt w v ls) := hR
 have HB : Hid (∀ l ∈ ls, 48 * l.length ≤ 140737488355328) := hB
 obtain ⟨ad, cap, hv⟩ := hR.form
 obtain ⟨vs, hO, hvl, hvs⟩ := hH
 obtain ⟨au, cu, hu⟩ := owns_form hO
 subst hv hu
 clear hR hB hO hvl hvs
 have hq : ((ls.length : Int) != (ls.length : Int)) = false := by simp
 go_enter Tryz.func21, Tryz.ntmps21
 go_wp2_with fail
 go_loopw [5] (fun i wr => ∃ k : Nat, k ≤ ls.length ∧ i = .int .i64 k ∧ Below w.heap.size w wr) (fun i _ => ls.length - (intOf i).toNat)
 case atStart => exact ⟨0, by omega, rfl, Below.refl _ _⟩
 case round =>
  obtain ⟨k, hk, rfl, hbr⟩ := hrel
  by_cases hlt : k < ls.length
  ·have hlt' : (k : Int) < (ls.length : Int) := by omega
   have hk0 : (0 : Int) ≤ (k : Int) := by omega
   obtain ⟨rb, ro, rc, y, hu, cy, hTy, hrb⟩ := row_at (HR.out.below hbr) k hlt
   simp only [Value.slice.injEq] at hu
   obtain ⟨rfl, _, rfl⟩ := hu
   obtain ⟨vs, hO, hvl, hvs⟩ := HH.out.below hbr
   rcases hO.2 with ⟨h4, h5⟩ | ⟨b, cp, cur, h4, h5, h6, h7, h8, h9, h10⟩
   ·omega
   simp only [Value.slice.injEq] at h4
   obtain ⟨rfl, _, rfl⟩ := h4
   have hkv : k < vs.length := by omega
   have cv := range_of_owns h6 h10 k vs[k] (List.getElem?_eq_getElem hkv)
   rw [Nat.zero_add] at cv
   obtain ⟨g, hT, _⟩ := hvs k vs[k] ls[k] (List.getElem?_eq_getElem hkv) (List.getElem?_eq_getElem hlt)
   rw [hT.1] at cv
   have H36 : Hid (∀ W, Below wr.heap.size wr W → Calls Tryz.prog 38 #[.slice (some ⟨g, 0, none⟩) ls[k].length (ls[k].length + 9), y] W fun e w' => e = .returned (.bool true) ∧ Below W.heap.size W w') := fun W hW => k36 ls[k] y g W (hTy.below hW) (hT.below hW).2.1 (hT.below hW).2.2 (HB.out _ (List.getElem_mem hlt))
   obtain ⟨ay, cpy, hy⟩ := hTy.form
   subst hy
   clear hTy hT hvs hvl hO h6 h7 h8 h9 h10 h5
   generalize ls[k].length = tl at *
   go_wp2_with fail
   first
    | go_region_with (go_at_call 38; refine (H36.out _ (Below.drew (Below.refl _ _))).mono ?_; rintro e w7 ⟨rfl, hb7⟩)
    | fail
   all_goals (
    have hb7' : Below wr.heap.size wr w7 := (Below.drew (Below.refl _ _)).trans hb7
    go_wp2_with fail
    go_roundw
    case rel => exact ⟨k + 1, by omega, by go_num, hbr.trans (hb7'.mono hbr.size)⟩
    case measure => simp [intOf]; omega)
  ·have hlt' : ¬ ((k : Int) < (ls.length : Int)) := by omega
   go_wp2_with fail
   go_ret
   exact ⟨rfl, hbr⟩
end Go.Proofs.YtaehhophaaipdaaGreatDoor

namespace Go.Proofs.YtaehhophaaipdaaGreatDoor
open Go.RowKit
attribute [local go_sem ↓] Go.wp_at_zero Go.wp_at_succ
/-- What bindings make of no map. -/
def foldB (bs : List Bn) : Hp := bs.foldl (fun m b => bindH m b.x b.l) []
theorem foldB_snoc (bs : List Bn) (b : Bn) : foldB (bs ++ [b]) = bindH (foldB bs) b.x b.l := by
 unfold foldB
 rw [List.foldl_append]
 rfl
/-- Both maps behind k bindings. -/
def BmF (wB w : World) (hb M rt k : Nat) (m : Hp) : Prop := ∃ G bs, Bm wB hb M rt k m G bs w ∧ hpOf bs = m ∧ RisesH m ∧ bs.length ≤ k
set_option maxRecDepth 100000 in
set_option maxHeartbeats 4000000 in
theorem i7f (a : Option Addr) (n c : Nat) (bs0 : List Bn) (w : World) (hA : BdRow w a n bs0) (hn : n ≤ 3518437208780) (hS : Signs w) :
  Calls Tryz.prog 7 #[.slice a n c] w fun e w' => ∃ hb M rt, e = .returned (.tuple #[.pointer (some ⟨hb, 0, none⟩), .pointer (some ⟨rt, 0, none⟩)]) ∧ Hid (BmF w w' hb M rt n (foldB bs0)) := by
 have HV : Hid (BdRow w a n bs0 ∧ Signs w) := ⟨hA, hS⟩
 have H22 : Calls Tryz.prog 27 #[] w fun e w' => ∃ hb M, e = .returned (.pointer (some ⟨hb, 0, none⟩)) ∧ Hid (HpAt w' hb M 0 (.map []) [] ∧ Below w.heap.size w w' ∧ w.heap.size ≤ hb ∧ w.heap.size ≤ M) := by
  refine (h26 w).mono ?_
  rintro e w' ⟨rfl, h1, h2⟩
  exact ⟨_, _, rfl, h1, h2, by omega, Nat.le_refl _⟩
 clear hA hS
 go_enter Tryz.func7, Tryz.ntmps7
 go_wp2_with fail
 refine H22.mono ?_
 rintro e w1 ⟨hb, M, rfl, HI0⟩
 clear H22
 have H23 : Calls Tryz.prog 28 #[] w1 fun e w' => ∃ rt, e = .returned (.pointer (some ⟨rt, 0, none⟩)) ∧ Hid (BmF w w' hb M rt 0 []) := by
  refine (i23 w1).mono ?_
  rintro e w' ⟨rfl, h1, h2⟩
  obtain ⟨t1, t2, t3, t4⟩ := HI0.out
  have hhb : hb < w1.heap.size := (Array.getElem?_eq_some_iff.1 t1.blk).1
  have hM := t1.map.lt
  have hs := t2.size
  refine ⟨_, rfl, (fun _ => False), [], ⟨⟨0, _, (fun _ => False), t1.below h2, fun x v hx hv g hg => ?_, Nat.le_refl _, fun g hg => hg.elim⟩, h1, fun g hg => hg.elim, ⟨t3, t4, by omega, by omega, by omega⟩, t2.trans (h2.mono t2.size), fun x l hl => by cases hl⟩, rfl, List.Pairwise.nil, Nat.le_refl _⟩
  have e1 := Maps.has_true_of_atKey hv
  rw [t1.no x hx rfl] at e1
  cases e1
 go_wp2_with fail
 refine H23.mono ?_
 rintro e w1b ⟨rt, rfl, HT0⟩
 clear H23 HI0
 go_wp2_with fail
 go_loopw [6] (fun i wr => ∃ k : Nat, k ≤ n ∧ i = .int .i64 k ∧ Hid (BmF w wr hb M rt k (foldB (bs0.take k)))) (fun i _ => n - (intOf i).toNat)
 case atStart => exact ⟨0, Nat.zero_le _, rfl, HT0⟩
 case round =>
  clear HT0
  obtain ⟨k, hk, rfl, HK⟩ := hrel
  by_cases hlt : k < n
  ·have hltI : (k : Int) < (n : Int) := by omega
   have hk0 : (0 : Int) ≤ (k : Int) := by omega
   obtain ⟨m, hm0⟩ : ∃ m, foldB (bs0.take k) = m := ⟨_, rfl⟩
   rw [hm0] at HK
   have HM : Hid (foldB (bs0.take k) = m) := hm0
   clear hm0
   obtain ⟨G, bs, HB⟩ : ∃ G bs, Hid (Bm w hb M rt k m G bs wr ∧ hpOf bs = m ∧ RisesH m ∧ bs.length ≤ k) := HK.out
   clear HK
   obtain ⟨b, o, hx, rfl, hbl, c0, c1, c2⟩ := HV.out.1.row.at hlt
   obtain ⟨e1, e2, e3, e4⟩ := HV.out.1.el _ (List.getElem_mem hx)
   obtain ⟨q, hq⟩ : ∃ q, bs0[k] = q := ⟨_, rfl⟩
   have HQ : Hid (foldB (bs0.take (k + 1)) = bindH m q.x q.l) := by
    show _ = _
    rw [List.take_succ_eq_append_getElem hx, hq, foldB_snoc, HM.out]
   rw [hq] at c0 c1 c2 e1 e2 e3 e4
   obtain ⟨⟨x1, x2⟩, la, ln, lc, ll⟩ := q
   simp only [Bn.v] at c0 c1 c2 e1 e2 e3 e4
   have HCL : Hid (∀ u, Below w.heap.size w u → u.cell? ⟨b, o + k * 3, none⟩ = some (.int .i64 x1) ∧ u.cell? ⟨b, o + k * 3 + 1, none⟩ = some (.int .i64 x2) ∧ u.cell? ⟨b, o + k * 3 + 2, none⟩ = some (.slice la ln lc)) := fun u hu => ⟨(hu.cell (p := ⟨b, o + k * 3, none⟩) hbl).trans c0, (hu.cell (p := ⟨b, o + k * 3 + 1, none⟩) hbl).trans c1, (hu.cell (p := ⟨b, o + k * 3 + 2, none⟩) hbl).trans c2⟩
   have HX : Hid (TermAt w (.slice la ln lc) ll ∧ wfN (x1, x2) ∧ (∀ c ∈ ll, wfN (c.vn, c.vk)) ∧ ll.length * 48 ≤ 140737488355328) := ⟨e1, e2, e3, e4⟩
   clear hx hbl c0 c1 c2 e1 e2 e3 e4 hq
   obtain ⟨p0, p1, p2⟩ := HCL.out wr HB.out.1.bel
   have H29 : ∀ W, Hid (Below wr.heap.size wr W) → Calls Tryz.prog 29 #[.pointer (some ⟨hb, 0, none⟩), .agg #[.int .i64 x1, .int .i64 x2], .slice la ln lc] W fun e w' => e = .returned (.int .i64 (bindE m (x1, x2) ll)) ∧ Hid (Bm w hb M rt (k + 1) (bindH m (x1, x2) ll) G bs w') := fun W hW => bm_29 (x1, x2) ll _ (HB.out.1.below hW.out) HX.out.1 HX.out.2.2.2 HX.out.2.1 HX.out.2.2.1 HV.out.2 (by omega)
   generalize bindE m (x1, x2) ll = E1 at *
   go_wp2_with fail
   go_region_with (go_at_call 29; refine (H29 _ (Below.drew (Below.refl _ _))).mono ?_; rintro e w3 ⟨rfl, H3⟩)
   all_goals (
    obtain ⟨r0, r1, r2⟩ := HCL.out w3 H3.out.bel
    have H30 : ∀ W, Hid (Below w3.heap.size w3 W) → Calls Tryz.prog 30 #[.pointer (some ⟨rt, 0, none⟩), .agg #[.int .i64 x1, .int .i64 x2], .slice la ln lc] W fun e w' => e = .returned (.int .i64 (bindE (hpOf bs) (x1, x2) ll)) ∧ Hid (∃ G' bs', hpOf bs' = bindH (hpOf bs) (x1, x2) ll ∧ bs'.length ≤ bs.length + 1 ∧ Bm w hb M rt (k + 1) (bindH m (x1, x2) ll) G' bs' w') := fun W hW => bm_30 (x1, x2) ll _ (H3.out.below hW.out) HX.out.1 HX.out.2.2.2 (by have := HB.out.2.2.2; omega)
    clear p0 p1 p2 H29
    generalize bindE (hpOf bs) (x1, x2) ll = E2 at *
    go_wp2_with fail
    go_region_with (go_at_call 30; refine (H30 _ (Below.drew (Below.refl _ _))).mono ?_; rintro e w4 ⟨rfl, H4⟩)
    all_goals (
     have HF : Hid (BmF w w4 hb M rt (k + 1) (foldB (bs0.take (k + 1)))) := by
      obtain ⟨G', bs', h1, h2, h3⟩ := H4.out
      obtain ⟨_, g2, g3, g4⟩ := HB.out
      have hQ : foldB (bs0.take (k + 1)) = bindH m (x1, x2) ll := HQ.out
      rw [hQ]
      refine ⟨G', bs', h3, by rw [h1, g2], ?_, by omega⟩
      exact rises_bind g3
     clear H4 H30
     go_wp2_with fail
     go_roundw
     case rel => exact ⟨k + 1, by omega, by go_num, HF⟩
     case measure => simp [intOf]; omega))
  ·have hltI : ¬ (k : Int) < (n : Int) := by omega
   obtain rfl : k = n := by omega
   have e0 : bs0.take k = bs0 := List.take_of_length_le (by have := HV.out.1.row.1; omega)
   rw [e0] at HK
   clear e0
   go_wp2_with fail
   exact bodyPost_ret (v := .tuple #[.pointer (some ⟨hb, 0, none⟩), .pointer (some ⟨rt, 0, none⟩)]) (by simp [results, Tryz.results7, go_sem]) rfl ⟨hb, M, rt, rfl, HK⟩
end Go.Proofs.YtaehhophaaipdaaGreatDoor

namespace Go.Proofs.YtaehhophaaipdaaGreatDoor
open Go.RowKit
attribute [local go_sem ↓] Go.wp_at_zero Go.wp_at_succ
end Go.Proofs.YtaehhophaaipdaaGreatDoor

namespace Go.Proofs.YtaehhophaaipdaaGreatDoor
open Go.RowKit
attribute [local go_sem ↓] Go.wp_at_zero Go.wp_at_succ
theorem eqNs_refl (l : List Nm) : eqNs l l = true := by
 unfold eqNs
 simp
end Go.Proofs.YtaehhophaaipdaaGreatDoor

namespace Go.Proofs.YtaehhophaaipdaaGreatDoor
open Go.RowKit
attribute [local go_sem ↓] Go.wp_at_zero Go.wp_at_succ
theorem gvs_some {m : Hp} (hR : RgH m) (hD : DescH m) : ∀ ls : List (List C), ∃ us : List G2, us.length = ls.length ∧ ∀ i (h1 : i < ls.length) (h2 : i < us.length), Gv m ls[i] us[i]
 | [] => ⟨[], rfl, fun i h1 _ => by simp at h1⟩
 | l :: ls => by
  obtain ⟨us, h1, h2⟩ := gvs_some hR hD ls
  obtain ⟨u, hu⟩ := gv_some hR hD l
  refine ⟨u :: us, by simp [h1], fun i g1 g2 => ?_⟩
  cases i with
  | zero => exact hu
  | succ i => exact h2 i (by simpa using g1) (by simpa using g2)
theorem gv_len {m : Hp} {g : List C} {u : G2} (h : Gv m g u) : u.2.length ≤ 1000 := by
 cases h with
 | wrong hr => simp
 | none hr hn => simp
 | yes hr hi => simp
 | cmp hr h1 h2 hi hl hv hx hq =>
  obtain ⟨x, y, a, b, rfl, rx, ry, rfl, sx, sy⟩ := hq
  have l1 := rs_len sx
  have l2 := rs_len sy
  have r1 := ((right_iff _).1 rx).2.1
  have r2 := ((right_iff _).1 ry).2.1
  have b1 := both_le a.2.2 []
  have b2 := both_le b.2.2 (bothN [] a.2.2)
  have b3 : (waitsF [] [a, b]).length ≤ 1000 := by
   show (bothN (bothN [] a.2.2) b.2.2).length ≤ 1000
   simp only [List.length_nil] at b1
   omega
  unfold cmpR
  split
  ·simp
  ·split
   ·simp
   ·exact b3
 | ask hr h1 h2 hi ht hf =>
  unfold askR
  split <;> simp
 | @lik c p q k a b r s hr h1 hi hp hq ha hb =>
  have hv : ∀ c : C, (varN c).length ≤ 1 := fun c => by
   unfold varN
   split <;> simp
  have b1 := both_le (varN b) (varN a)
  have h2 := hv a
  have h3 := hv b
  unfold likR
  split
  ·split <;> simp
  ·split
   ·simp
   ·show (bothN (varN a) (varN b)).length ≤ 1000
    omega
/-- What is asked of both maps. -/
structure Eg (w1 : World) (hb rt : Nat) (m : Hp) (ls : List (List C)) (us : List G2) : Prop where
 sg : Signs w1
 gr : Gr m w1 (some ⟨rt, 0, none⟩) ls us
 c15 : ∀ W v, Below w1.heap.size w1 W → RowAt W v ls → Calls Tryz.prog 15 #[pv hb, v] W (GnPost (allR us) W)
 c18 : ∀ W g u v, Below w1.heap.size w1 W → Gv m g u → TermAt W v g → (∀ c ∈ g, wfN (c.vn, c.vk)) → Calls Tryz.prog 18 #[pv hb, v] W (GnPost u W)
theorem eg_of {wB w1 : World} {hb M rt k : Nat} {m : Hp} (h : BmF wB w1 hb M rt k m) (hk : k ≤ 3518437208780) {ls : List (List C)} (hW : ∀ l ∈ ls, ∀ c ∈ l, wfN (c.vn, c.vk)) (hl : ls.length ≤ 3000000) (hS : Signs wB) : ∃ us, Eg w1 hb rt m ls us := by
 obtain ⟨G, bs, h1, h2, h3, h4⟩ := h
 obtain ⟨n, D, V, k1, k2, k3, k4⟩ := h1.hp
 have hR : RgH m := fun x l h => (h1.len x l h).2
 have hok : HpOk m := fun x l h => ⟨(h1.len x l h).2.1, (h1.len x l h).1⟩
 have hS1 := hS.below h1.bel
 obtain ⟨us, u1, u2⟩ := gvs_some hR k1.desc ls
 have hd : DerG w1 (some ⟨rt, 0, none⟩) m := by
  subst h2
  exact derG_rf h1.rf h3 k1.desc k1.wf (by omega)
 refine ⟨us, hS1, ⟨hR, hd, u1, u2, hW, fun u hu => ?_, by omega⟩, fun W v hb' hT => ?_, fun W g u v hb' hg hT hW => g18 m hok _ g u v W (.inr ⟨hb, M, n, D, rfl, k1.below hb'⟩) hg hT (hS1.below hb') hW⟩
 ·obtain ⟨i, hi, rfl⟩ := List.getElem_of_mem hu
  exact gv_len (u2 i (by omega) hi)
 ·exact g15 m hok _ ls us v W (.inr ⟨hb, M, n, D, rfl, k1.below hb'⟩) u1 u2 hT (hS1.below hb') hW (by omega)
/-- How the book stands behind k rounds. -/
structure Lp (B b : Nat) (w2 : World) (k : Nat) (wr : World) : Prop where
 bk : ∃ nv vs ns, Bk.BkN wr B b nv vs ns ∧ ns.length = k + 1 ∧ ∀ n ∈ ns, n ≤ 999999999
 bel : Below B w2 wr
set_option maxRecDepth 100000 in
set_option maxHeartbeats 16000000 in
theorem l4 (b0 : Option Addr) (n0 c0 : Nat) (bs0 : List Bn) (ls : List (List C)) (v1 : Value) (w : World) (hA : BdRow w b0 n0 bs0) (hn : n0 ≤ 3518437208780) (hT : RowAt w v1 ls) (hW : ∀ l ∈ ls, ∀ c ∈ l, wfN (c.vn, c.vk)) (hB : ∀ l ∈ ls, 48 * l.length ≤ 140737488355328) (hl : ls.length ≤ 3000000) (hS : Signs w) :
  Calls Tryz.prog 4 #[.slice b0 n0 c0, v1] w fun e w' => e = .returned (.bool true) ∧ Below w.heap.size w w' := by
 have H7 := i7f b0 n0 c0 bs0 w hA hn hS
 have htx : ∀ l ∈ ls, ∀ c ∈ l, c.t.size ≤ maxLen := fun l hl' c hc => by
  obtain ⟨i, hi, rfl⟩ := List.getElem_of_mem hl'
  obtain ⟨_, _, _, x, _, _, h3, _⟩ := row_at hT i hi
  exact h3.1.2 c hc
 have HX : Hid (RowAt w v1 ls ∧ (∀ l ∈ ls, ∀ c ∈ l, wfN (c.vn, c.vk)) ∧ (∀ l ∈ ls, 48 * l.length ≤ 140737488355328) ∧ Signs w ∧ ∀ l ∈ ls, ∀ c ∈ l, c.t.size ≤ maxLen) := ⟨hT, hW, hB, hS, htx⟩
 obtain ⟨va, vc, hv⟩ := hT.form
 subst hv
 clear hA hT hW hB hS htx
 go_enter Tryz.func4, Tryz.ntmps4
 go_wp2_with fail
 refine H7.mono ?_
 rintro e w1 ⟨hb, M, rt, rfl, H1⟩
 clear H7
 have HB1 : Hid (Below w.heap.size w w1) := by
  obtain ⟨G, bs, h1, _⟩ := H1.out
  exact h1.bel
 obtain ⟨us, HE⟩ : ∃ us, Hid (Eg w1 hb rt (foldB bs0) ls us) := eg_of H1.out hn HX.out.2.1 hl HX.out.2.2.2.1
 clear H1
 generalize foldB bs0 = m at *
 have H14 := k14h ls _ w1 (HX.out.1.below HB1.out) (by omega) HX.out.2.2.1
 go_wp2_with fail
 refine H14.mono ?_
 rintro e w2 ⟨uin, rfl, hH, b2⟩
 clear H14
 have HI : Hid ((∃ base, HandR w2 base uin ls) ∧ Below w1.heap.size w1 w2) := ⟨⟨_, hH⟩, b2⟩
 have HR2 : Hid (RowAt w2 uin ls ∧ Below w.heap.size w w2) := ⟨hand_row hH (by unfold maxLen; omega) HX.out.2.2.2.2 HX.out.2.2.1, HB1.out.trans (b2.mono HB1.out.size)⟩
 obtain ⟨ia, ic, hui⟩ := HR2.out.1.form
 subst hui
 clear hH b2
 have H15 := HE.out.c15 w2 _ HI.out.2 HR2.out.1
 obtain ⟨⟨oo, nn⟩, hAll⟩ : ∃ U, allR us = U := ⟨_, rfl⟩
 rw [hAll] at H15
 go_wp2_with fail
 refine H15.mono ?_
 rintro e w3 ⟨q3, c3, rfl, hN3, b3, _, hL3⟩
 clear H15
 have HK3 : Hid (OwnN w3 w2.heap.size (.slice q3 nn.length c3) nn ∧ Below w2.heap.size w2 w3 ∧ nn.length ≤ 999999999) := ⟨hN3, b3, hL3⟩
 clear hN3 b3 hL3
 have HQ : Hid (∀ W, Below w2.heap.size w2 W → Below w1.heap.size w1 W ∧ Below w.heap.size w W) := fun W hW => by
  have h1 := HI.out.2.trans (hW.mono HI.out.2.size)
  exact ⟨h1, HB1.out.trans (h1.mono HB1.out.size)⟩
 have H16 := x16 m w1 (some ⟨rt, 0, none⟩) ls us _ w3 HE.out.gr (HQ.out w3 HK3.out.2.1).1 (HX.out.1.below (HQ.out w3 HK3.out.2.1).2)
 rw [hAll] at H16
 clear hAll
 dsimp only
 go_wp2_with fail
 refine H16.mono ?_
 rintro e w4 ⟨q4, c4, rfl, hN4, b4⟩
 clear H16
 have HK4 : Hid (NamesAt w4 (.slice q4 nn.length c4) nn ∧ Below w3.heap.size w3 w4 ∧ Below w2.heap.size w2 w4) := ⟨hN4, b4, HK3.out.2.1.trans (b4.mono HK3.out.2.1.size)⟩
 clear hN4 b4
 have H11 := h19 w4 (HX.out.2.2.2.1.below (HQ.out w4 HK4.out.2.2).2)
 dsimp only
 go_wp2_with fail
 refine H11.mono ?_
 rintro e w5 ⟨rfl, b5⟩
 clear H11
 have HK5 : Hid (OwnN w5 w2.heap.size (.slice q3 nn.length c3) nn ∧ NamesAt w5 (.slice q4 nn.length c4) nn ∧ Below w2.heap.size w2 w5) := by
  have h35 := HK4.out.2.1.trans (b5.mono HK4.out.2.1.size)
  exact ⟨owns_below HK3.out.1 h35, HK4.out.1.below b5, HK4.out.2.2.trans (b5.mono HK4.out.2.2.size)⟩
 clear b5 HK4
 have H12 := c33 nn nn (.slice q3 nn.length c3) (.slice q4 nn.length c4) w5 (namesAt_of_owns HK5.out.1 (by have := HK3.out.2.2; unfold maxLen; omega)) HK5.out.2.1
 rw [eqNs_refl] at H12
 have hoo : (oo != oo) = false := by simp
 go_wp2_with fail
 refine H12.mono ?_
 rintro e w6 ⟨rfl, b6⟩
 clear H12 hoo
 have HK6 : Hid (OwnN w6 w2.heap.size (.slice q3 nn.length c3) nn ∧ Below w2.heap.size w2 w6 ∧ nn.length ≤ 999999999) := ⟨owns_below HK5.out.1 b6, HK5.out.2.2.trans (b6.mono HK5.out.2.2.size), HK3.out.2.2⟩
 clear b6 HK5 HK3
 obtain ⟨nl, hnl⟩ : ∃ nl, nn.length = nl := ⟨_, rfl⟩
 obtain ⟨B, hB⟩ : ∃ B, w2.heap.size = B := ⟨_, rfl⟩
 obtain ⟨b, hb6⟩ : ∃ b, w6.heap.size = b := ⟨_, rfl⟩
 have H17 : Calls Tryz.prog 17 #[.pointer (some ⟨b, 0, none⟩), .slice q3 nl c3] (w6.alloc (.cells #[.slice none 0 0, .slice none 0 0, .slice none 0 0, .slice none 0 0, .slice none 0 0] 51)) fun e w' => e = .returned (.tuple #[]) ∧ Hid (Lp B b w2 0 w') := by
  have ha := below_alloc w6 (.cells #[.slice none 0 0, .slice none 0 0, .slice none 0 0, .slice none 0 0, .slice none 0 0] 51)
  have hBb : B ≤ b := by rw [← hB, ← hb6]; exact HK6.out.2.1.size
  have h0 : Bk.BkN (w6.alloc (.cells #[.slice none 0 0, .slice none 0 0, .slice none 0 0, .slice none 0 0, .slice none 0 0] 51)) B b Bk.nilV [] [] := ⟨by rw [← hb6]; exact heap_alloc_new w6 _, hBb, World.ownsRow_nil _ _ _ _, fun j v n hv => by simp at hv, fun j j' v v' g _ hv => by simp at hv⟩
  have ho : Bk.OwnZ (w6.alloc (.cells #[.slice none 0 0, .slice none 0 0, .slice none 0 0, .slice none 0 0, .slice none 0 0] 51)) B 60 (.slice q3 nl c3) nn := by
   have := owns_below HK6.out.1 ha
   rw [hnl, hB] at this
   exact ⟨by rw [hnl]; exact this, fun _ _ => rfl⟩
  refine (Bk.b17 B b Bk.nilV [] [] q3 nl c3 nn _ h0 hnl ho (fun j v g hv => by simp at hv) (by simp)).mono ?_
  rintro e w' ⟨rfl, nv, h1, h2⟩
  refine ⟨rfl, ⟨nv, _, _, h1, rfl, fun n hn' => ?_⟩, ?_⟩
  ·simp only [List.nil_append, List.mem_singleton] at hn'
   rw [hn', ← hnl]
   exact HK6.out.2.2
  ·have h3 := HK6.out.2.1.trans (ha.mono HK6.out.2.1.size)
   rw [hB] at h3
   exact h3.trans h2
 rw [hnl]
 clear HK6
 go_wp2_with fail
 refine H17.mono ?_
 rintro e w7 ⟨rfl, HL⟩
 clear H17 hnl hb6
 have HBw : Hid (w2.heap.size = B) := hB
 clear hB
 go_wp2_with fail
 go_loopw [13] (fun iv wr => ∃ k : Nat, k ≤ ls.length ∧ iv = .int .i64 k ∧ Hid (Lp B b w2 k wr)) (fun iv _ => ls.length - (intOf iv).toNat)
 case atStart => exact ⟨0, Nat.zero_le _, rfl, HL⟩
 case round =>
  clear HL
  obtain ⟨k, hk, rfl, HK⟩ := hrel
  have HBr : Hid (Below w2.heap.size w2 wr) := by
   show Below w2.heap.size w2 wr
   rw [HBw.out]
   exact HK.out.bel
  by_cases hlt : k < ls.length
  ·have hltI : (k : Int) < (ls.length : Int) := by omega
   have hk0 : (0 : Int) ≤ (k : Int) := by omega
   have hku : k < us.length := by have := HE.out.gr.len; omega
   obtain ⟨⟨o1, n1⟩, hU⟩ : ∃ U, us[k] = U := ⟨_, rfl⟩
   have HU : Hid (Gv m ls[k] (o1, n1) ∧ (∀ c ∈ ls[k], wfN (c.vn, c.vk))) := ⟨by rw [← hU]; exact HE.out.gr.gv k hlt hku, HX.out.2.1 _ (List.getElem_mem _)⟩
   clear hU
   obtain ⟨rb, ro, rc, y, hu, cy, hTy, hrb⟩ := row_at (HR2.out.1.below HBr.out) k hlt
   simp only [Value.slice.injEq] at hu
   obtain ⟨rfl, _, rfl⟩ := hu
   have H18 := HE.out.c18 wr _ _ y (HQ.out wr HBr.out).1 HU.out.1 hTy HU.out.2
   clear hTy
   go_wp2_with fail
   refine H18.mono ?_
   rintro e w8 ⟨q8, c8, rfl, hN8, b8, _, hL8⟩
   clear H18 cy
   have HK8 : Hid (OwnN w8 wr.heap.size (.slice q8 n1.length c8) n1 ∧ Below wr.heap.size wr w8 ∧ n1.length ≤ 999999999 ∧ Below w2.heap.size w2 w8) := ⟨hN8, b8, hL8, HBr.out.trans (b8.mono HBr.out.size)⟩
   clear hN8 b8 hL8
   obtain ⟨sb, so, sc, z, hu, cz, hTz, hsb⟩ := row_at (HX.out.1.below (HQ.out w8 HK8.out.2.2.2).2) k hlt
   simp only [Value.slice.injEq] at hu
   obtain ⟨rfl, _, rfl⟩ := hu
   have H19 := x19 m HE.out.gr.rg w1 (some ⟨rt, 0, none⟩) HE.out.gr.de _ _ HU.out.1 z w8 (HQ.out w8 HK8.out.2.2.2).1 hTz HU.out.2
   clear hTz
   dsimp only
   go_wp2_with fail
   refine H19.mono ?_
   rintro e w9 ⟨q9, c9, rfl, hN9, b9⟩
   clear H19 cz
   have HK9 : Hid (OwnN w9 wr.heap.size (.slice q8 n1.length c8) n1 ∧ NamesAt w9 (.slice q9 n1.length c9) n1 ∧ Below wr.heap.size wr w9) := ⟨owns_below HK8.out.1 b9, hN9, HK8.out.2.1.trans (b9.mono HK8.out.2.1.size)⟩
   clear hN9 b9
   have H12 := c33 n1 n1 (.slice q8 n1.length c8) (.slice q9 n1.length c9) w9 (namesAt_of_owns HK9.out.1 (by have := HK8.out.2.2.1; unfold maxLen; omega)) HK9.out.2.1
   rw [eqNs_refl] at H12
   have hoo : (o1 != o1) = false := by simp
   dsimp only
   go_wp2_with fail
   refine H12.mono ?_
   rintro e wa ⟨rfl, ba⟩
   clear H12 hoo
   obtain ⟨nl1, hnl1⟩ : ∃ nl, n1.length = nl := ⟨_, rfl⟩
   have H17 : Calls Tryz.prog 17 #[.pointer (some ⟨b, 0, none⟩), .slice q8 nl1 c8] wa fun e w' => e = .returned (.tuple #[]) ∧ Hid (Lp B b w2 (k + 1) w') := by
    obtain ⟨nv, vs, ns, h1, h2, h3⟩ := HK.out.bk
    have hra : Below wr.heap.size wr wa := HK9.out.2.2.trans (ba.mono HK9.out.2.2.size)
    have hBr : B ≤ wr.heap.size := by rw [← HBw.out]; exact HBr.out.size
    have hown := owns_below HK9.out.1 ba
    have ho : Bk.OwnZ wa wr.heap.size 60 (.slice q8 nl1 c8) n1 := by
     rw [hnl1] at hown
     exact ⟨by rw [hnl1]; exact hown, fun _ _ => rfl⟩
    refine (Bk.b17 B b nv vs ns q8 nl1 c8 n1 wa (h1.below hra) hnl1 (Bk.ints_base ho hBr) (fun j v g hv hg => ?_) (by omega)).mono ?_
    ·intro e
     have g1 := (ho.1.lt g hg).1
     have g2 := h1.low hv e
     omega
    ·rintro e w' ⟨rfl, nv', g1, g2⟩
     refine ⟨rfl, ⟨nv', _, _, g1, by rw [List.length_append, h2]; rfl, fun n hn' => ?_⟩, ?_⟩
     ·rcases List.mem_append.1 hn' with hn' | hn'
      ·exact h3 n hn'
      ·simp only [List.mem_singleton] at hn'
       rw [hn', ← hnl1]
       exact HK8.out.2.2.1
     ·exact (HK.out.bel.trans (hra.mono hBr)).trans g2
   rw [hnl1]
   clear HK8 HK9 ba HK HBr HU
   go_wp2_with fail
   refine H17.mono ?_
   rintro e wb ⟨rfl, HZ⟩
   clear H17 hnl1
   go_wp2_with fail
   go_roundw
   case rel => exact ⟨k + 1, by omega, by go_num, HZ⟩
   case measure => simp [intOf]; omega
  ·have hltI : ¬ (k : Int) < (ls.length : Int) := by omega
   have H20 : Calls Tryz.prog 20 #[.pointer (some ⟨b, 0, none⟩)] wr fun e w' => e = .returned (.bool true) ∧ Hid (Below w2.heap.size w2 w') := by
    obtain ⟨nv, vs, ns, h1, h2, h3⟩ := HK.out.bk
    refine (Bk.b20 B b nv vs ns wr h1 (by omega) (fun n hn' => by have := h3 n hn'; omega)).mono ?_
    rintro e w' ⟨rfl, g⟩
    refine ⟨rfl, ?_⟩
    show Below w2.heap.size w2 w'
    rw [HBw.out]
    exact HK.out.bel.trans g
   clear HK HBr
   go_wp2_with fail
   refine H20.mono ?_
   rintro e wc ⟨rfl, Hc⟩
   clear H20
   have H21 : Calls Tryz.prog 21 #[.slice ia ls.length ic, .slice va ls.length vc] wc fun e w' => e = .returned (.bool true) ∧ Hid (Below w.heap.size w w') := by
    obtain ⟨base, hH⟩ := HI.out.1
    refine (k21h ls _ _ base wc (hH.below Hc.out) (HX.out.1.below (HQ.out wc Hc.out).2) (by omega) HX.out.2.2.1).mono ?_
    rintro e w' ⟨rfl, g⟩
    exact ⟨rfl, (HQ.out wc Hc.out).2.trans (g.mono (HQ.out wc Hc.out).2.size)⟩
   go_wp2_with fail
   refine H21.mono ?_
   rintro e wd ⟨rfl, Hd⟩
   clear H21
   go_wp2_with fail
   go_ret
   exact ⟨rfl, Hd.out⟩
end Go.Proofs.YtaehhophaaipdaaGreatDoor
