/- Contract of aloneNames: rows of names that lie apart are alone. -/
import Derived.Test.YtojobiefambkoaaGreatDoorXM
import Derived.OwnWalk
import Derived.WalkArith
namespace Go.Proofs.YtojobiefambkoaaGreatDoor.Bk
open Go.RowKit
theorem info31 : ∃ i, Tryz.prog.info? 23 = some i ∧ i.zero = some (.slice none 0 0) ∧ i.size = 1 ∧ i.bytes = 24 := by
  have h : (Tryz.prog.info? 23).map (fun i => (i.zero, i.size, i.bytes)) = some (some (.slice none 0 0), 1, 24) := by kernel_rfl
  cases hq : Tryz.prog.info? 23 with
  | none => rw [hq] at h; cases h
  | some i =>
    rw [hq] at h
    simp only [Option.map_some, Option.some.injEq, Prod.mk.injEq] at h
    exact ⟨i, rfl, h.1, h.2.1, h.2.2⟩
theorem cell_one_new (w : World) (v : Value) (t : TypeId) : ∀ j u, [v][j]? = some u → (w.alloc (.cells #[v] t)).cell? ((⟨w.heap.size, 0, none⟩ : Addr).add j) = some u := fun j u hu => by
  rw [Addr.add_mid]
  exact range_new w [v] t j u hu
theorem cell_two_new (w : World) (a b : Value) (t : TypeId) : ∀ j u, [a, b][j]? = some u → (w.alloc (.cells #[a, b] t)).cell? ((⟨w.heap.size, 0, none⟩ : Addr).add j) = some u := fun j u hu => by
  rw [Addr.add_mid]
  exact range_new w [a, b] t j u hu
theorem rowv_form {w : World} {B e s n : Nat} {v : Value} {xs : List Value} (h : w.ownsRow B e s v n xs) : ∃ ad cap, v = .slice ad n cap := by
  rcases h.2 with ⟨h1, h2⟩ | ⟨g, c, cur, h1, _⟩
  · exact ⟨none, 0, by rw [h1, h2]⟩
  · exact ⟨_, _, h1⟩
theorem rowS_at {w : World} {se B n : Nat} {v : Value} {xs : List Value} (h : w.ownsRow B se 1 v n xs) (j : Nat) (hj : j < n) : ∃ g cap u, v = .slice (some ⟨g, 0, none⟩) n cap ∧ xs[j]? = some u ∧ w.cell? ⟨g, j, none⟩ = some u := by
  have hl : xs.length = n := by have := h.1; omega
  rcases h.2 with ⟨_, h2⟩ | ⟨g, c, cur, h1, h2, h3, h4, h5, h6, h7⟩
  · omega
  · have hv : j < xs.length := by omega
    refine ⟨g, c, xs[j], h1, List.getElem?_eq_getElem hv, ?_⟩
    rw [cell_of_row w g j cur se (0, 0) h3]
    have : (cur.toList.take (n * 1))[j]? = some xs[j] := by rw [h7]; exact List.getElem?_eq_getElem hv
    rw [List.getElem?_take_of_lt (by omega)] at this
    simpa using this
theorem rd_own {w : World} {e : TypeId} {base : Nat} {v : Value} {m : Nat} {x : Nm} (h : OwnZ w base e v (List.replicate m x)) : RdI w v m x := by
  obtain ⟨ad, cap, e⟩ := ints_form h
  rw [List.length_replicate] at e
  refine rd_of h (Nat.le_refl _) ad cap e ?_
  rcases h.1.2 with ⟨h1, h2⟩ | ⟨g, c, cur, h1, _⟩
  · left; simpa using h2
  · right
    rw [h1] at e
    simp only [Value.slice.injEq] at e
    exact ⟨g, e.1.symm, by rw [h1]; rfl⟩
/-- The mark of row j. -/
def mkN (j : Nat) : Nm := (-9000 - (j : Int), 0)
set_option maxRecDepth 100000 in
set_option maxHeartbeats 8000000 in
theorem b50 (B b : Nat) (bk : Array Value) (iv : Value) (vs : List Value) (ns : List Nat) (w : World) (h : P1 49 23 mkN bk w B b iv vs ns 0 0) (hbk : bk[4]? = some iv) (hl : ns.length * 24 ≤ 140737488355328) (hm : ∀ n ∈ ns, n ≤ 5000000000000) :
    Calls Tryz.prog 45 #[.pointer (some ⟨b, 0, none⟩)] w fun e w' => e = .returned (.bool true) ∧ BookAt w' b bk ∧ KB 49 B w w' := by
  have HM : Hid (∀ n ∈ ns, n ≤ 5000000000000) := hm
  obtain ⟨i0, hi, hz, hs, hby⟩ := info23
  obtain ⟨i36, ki, kz, ks, kby⟩ := info31
  have H0 : Hid (P1 49 23 mkN bk w B b iv vs ns 0 0) := h
  have hBb : B ≤ w.heap.size := Nat.le_of_lt (Nat.lt_of_le_of_lt h.hb (Array.getElem?_eq_some_iff.1 h.book).1)
  obtain ⟨adi, cpi, hiv⟩ := rowv_form h.row
  have HBK : Hid (∀ W : World, BookAt W b bk → W.cell? ⟨b, 4, none⟩ = some iv) := fun W hW => by rw [cell_of_row W b 4 bk 44 (0, 0) hW]; exact hbk
  subst hiv
  clear h hm hbk
  go_enter Tryz.func45, Tryz.ntmps45
  go_wp2_with fail
  go_loopw [3] (fun iw wr => ∃ i : Nat, i ≤ ns.length ∧ iw = .int .i64 i ∧ Hid (P1 49 23 mkN bk wr B b (.slice adi ns.length cpi) vs ns i 0) ∧ KB 49 B w wr) (fun iw _ => ns.length - (intOf iw).toNat)
  case atStart => exact ⟨0, by omega, rfl, H0.out, KB.refl _ _ _⟩
  case round =>
    obtain ⟨i, hi1, rfl, HI, hbr⟩ := hrel
    have cB := HBK.out _ HI.out.book
    by_cases hlt : i < ns.length
    · have hlt' : (i : Int) < (ns.length : Int) := by omega
      have hi0 : (0 : Int) ≤ (i : Int) := by omega
      obtain ⟨n, hn⟩ : ∃ n, ns[i]? = some n := ⟨_, List.getElem?_eq_getElem hlt⟩
      obtain ⟨g0, c0, v0, ef, hv0, _⟩ := HI.out.at i hlt
      simp only [Value.slice.injEq] at ef
      obtain ⟨rfl, _, rfl⟩ := ef
      have HV : Hid (vs[i]? = some v0 ∧ ns[i]? = some n) := ⟨hv0, hn⟩
      have hnb : n ≤ 5000000000000 := HM.out n (List.mem_of_getElem? hn)
      obtain ⟨ys0, e0, ho0⟩ := HI.out.mid v0 n hv0 hn
      obtain ⟨av, cv, hvf⟩ := ints_form ho0
      simp only [List.replicate_zero, List.nil_append] at hvf
      have hyl : ys0.length = n := by omega
      rw [hyl] at hvf
      subst hvf
      clear hv0 hn ho0 e0 hyl
      go_wp2_with fail
      clear cB
      go_loopw [4] (fun kw wr => ∃ k : Nat, k ≤ n ∧ kw = .int .i64 k ∧ Hid (P1 49 23 mkN bk wr B b (.slice (some ⟨g0, 0, none⟩) ns.length cpi) vs ns i k) ∧ KB 49 B w wr) (fun kw _ => n - (intOf kw).toNat)
      case atStart => exact ⟨0, by omega, rfl, HI.out, hbr⟩
      case round =>
        clear hbr HI
        obtain ⟨k, hk, rfl, HK, hbr⟩ := hrel
        have cB := HBK.out _ HK.out.book
        obtain ⟨g1, c1, v1, ef, hv1, cI⟩ := HK.out.at i hlt
        simp only [Value.slice.injEq, Option.some.injEq, Addr.mk.injEq, and_true, true_and] at ef
        obtain ⟨rfl, rfl⟩ := ef
        rw [HV.out.1] at hv1
        obtain rfl := Option.some.inj hv1
        clear hv1
        by_cases hkt : k < n
        · have hkt' : (k : Int) < (n : Int) := by omega
          have hk0 : (0 : Int) ≤ (k : Int) := by omega
          obtain ⟨g2, c2, y, ef, hg2, cY, cY2, fY, hty, hP⟩ := HK.out.write HV.out.1 HV.out.2 hkt
          simp only [Value.slice.injEq] at ef
          obtain ⟨rfl, _, rfl⟩ := ef
          have HP : Hid (P1 49 23 mkN bk ((wr.setCell ⟨g2, k * 2, none⟩ (.int .i64 (-9000 - (i : Int)))).setCell ⟨g2, k * 2 + 1, none⟩ (.int .i64 0)) B b (.slice (some ⟨g0, 0, none⟩) ns.length cpi) vs ns i (k + 1)) := hP
          have HB : Hid (KB 49 B w ((wr.setCell ⟨g2, k * 2, none⟩ (.int .i64 (-9000 - (i : Int)))).setCell ⟨g2, k * 2 + 1, none⟩ (.int .i64 0))) := hbr.set2 _ _ hg2 hty
          have f0 := fY (k * 2)
          have f1 := fY (k * 2 + 1)
          clear hP HK hty fY
          go_wp2_with fail
          go_roundw
          case rel => exact ⟨k + 1, by omega, by go_num, HP, HB.out⟩
          case measure => simp [intOf]; omega
        · obtain rfl : k = n := by omega
          have hkt' : ¬ ((k : Int) < (k : Int)) := by omega
          go_wp2_with fail
          go_roundw
          case rel => exact ⟨i + 1, by omega, by go_num, HK.out.next HV.out.2, hbr⟩
          case measure => simp [intOf]; omega
    · obtain rfl : i = ns.length := by omega
      have hlt' : ¬ ((ns.length : Int) < (ns.length : Int)) := by omega
      have HP2 : Hid (P2 49 23 mkN bk wr wr B b (.slice adi ns.length cpi) nilV vs [] ns 0) := HI.out.to2
      have HBw : Hid (KB 49 B w wr) := hbr
      have hszw : B ≤ wr.heap.size := Nat.le_trans hBb hbr.below.size
      clear HI hbr
      go_wp2_with fail
      generalize wr = w1 at *
      clear cB
      go_loopw [5, 6] (fun aw iw wr => ∃ (i : Nat) (us : List Value), i ≤ ns.length ∧ iw = .int .i64 i ∧ Hid (P2 49 23 mkN bk w1 wr B b (.slice adi ns.length cpi) aw vs us ns i) ∧ KB 49 B w wr) (fun _ iw _ => ns.length - (intOf iw).toNat)
      case atStart => exact ⟨0, [], by omega, rfl, HP2.out, HBw.out⟩
      case round =>
        obtain ⟨i, us, hi1, rfl, HI, hbr⟩ := hrel
        have cB := HBK.out _ HI.out.book
        by_cases hlt : i < ns.length
        · have hlt' : (i : Int) < (ns.length : Int) := by omega
          have hi0 : (0 : Int) ≤ (i : Int) := by omega
          obtain ⟨n, hn⟩ : ∃ n, ns[i]? = some n := ⟨_, List.getElem?_eq_getElem hlt⟩
          obtain ⟨g0, c0, v0, ef, hv0, cI⟩ := rowS_at HI.out.row i hlt
          simp only [Value.slice.injEq] at ef
          obtain ⟨rfl, _, rfl⟩ := ef
          have hnb : n ≤ 5000000000000 := HM.out n (List.mem_of_getElem? hn)
          obtain ⟨aa, ca, haf⟩ := rowv_form HI.out.all
          have HS : Hid (P3 49 23 mkN bk w1 wr B b (.slice (some ⟨g0, 0, none⟩) ns.length cpi) u5 v0 v0 vs us ns i n 0) := HI.out.start hv0 hn
          obtain ⟨av, cv, hvf⟩ := HS.out.mid.form
          subst hvf haf
          clear hn hv0 HI
          go_wp2_with fail
          go_loopw [7, 8] (fun gw kw wr => ∃ k : Nat, k ≤ 20 ∧ kw = .int .i64 k ∧ Hid (P3 49 23 mkN bk w1 wr B b (.slice (some ⟨g0, 0, none⟩) ns.length cpi) (.slice aa i ca) gw (.slice av n cv) vs us ns i n k) ∧ KB 49 B w wr) (fun _ kw _ => 20 - (intOf kw).toNat)
          case atStart => exact ⟨0, by omega, rfl, HS.out, hbr⟩
          case round =>
            clear hbr HS cB cI
            obtain ⟨k, hk, rfl, HK, hbr⟩ := hrel
            have hszr : B ≤ wr.heap.size := Nat.le_trans hBb hbr.below.size
            by_cases hkt : k < 20
            · have hkt' : (k : Int) < 20 := by omega
              have hba : Below wr.heap.size wr (wr.alloc (.cells #[.int .i64 (-9000 - (i : Int)), .int .i64 0] 49)) := (Below.refl _ _).alloc (Nat.le_refl _) _
              have HKa := HK.out.eq hba
              have HOa : Hid (OwnZ (wr.alloc (.cells #[.int .i64 (-9000 - (i : Int)), .int .i64 0] 49)) B 49 u7 (List.replicate (n + k) (-9000 - (i : Int), 0))) := HKa.own
              have HOr : Hid ((wr.alloc (.cells #[.int .i64 (-9000 - (i : Int)), .int .i64 0] 49)).ownsRow B 49 2 u7 (n + k) (flatN (List.replicate (n + k) (-9000 - (i : Int), 0)))) := by
                have := HOa.out.1
                rwa [List.length_replicate] at this
              have HKa : Hid (P3 49 23 mkN bk w1 (wr.alloc (.cells #[.int .i64 (-9000 - (i : Int)), .int .i64 0] 49)) B b (.slice (some ⟨g0, 0, none⟩) ns.length cpi) (.slice aa i ca) u7 (.slice av n cv) vs us ns i n k) := HKa
              have HBa : Hid (KB 49 B w (wr.alloc (.cells #[.int .i64 (-9000 - (i : Int)), .int .i64 0] 49))) := hbr.alloc hszr _
              obtain ⟨ag, cg, hgf⟩ := rowv_form HOr.out
              have hbase : B ≤ (wr.alloc (.cells #[.int .i64 (-9000 - (i : Int)), .int .i64 0] 49)).heap.size := by simp; omega
              subst hgf
              clear HK hbr hba
              go_wp2_with (at_builtin; refine wpList_append_two rfl _ _ 23 rfl B 49 i0 (.agg #[.int .i64 0, .int .i64 0]) 2 16 Tryz.underlying23 hi hz hs hby rfl (by decide) _ _ _ rfl HOr.out ⟨wr.heap.size, 0, none⟩ 1 1 [.int .i64 (-9000 - (i : Int)), .int .i64 0] rfl rfl (cell_two_new _ _ _ _) (fun u hu => by simp at hu; rcases hu with rfl | rfl <;> rfl) (by unfold maxLen; omega) (by omega) hbase ?_)
              intro v' w' hown hgr hloc
              have HF : Hid (P3 49 23 mkN bk w1 w' B b (.slice (some ⟨g0, 0, none⟩) ns.length cpi) (.slice aa i ca) v' (.slice av n cv) vs us ns i n (k + 1)) := by
                refine HKa.out.step ⟨?_, fun _ _ => ?_⟩ hgr (by simpa using hloc)
                · have e : List.replicate (n + (k + 1)) (mkN i) = List.replicate (n + k) (-9000 - (i : Int), 0) ++ [(-9000 - (i : Int), 0)] := by
                    rw [show n + (k + 1) = (n + k) + 1 by omega, List.replicate_succ']; rfl
                  rw [e, List.length_append, List.length_replicate, flatN_append]
                  exact hown
                · rfl
              have HBf : Hid (KB 49 B w w') := HBa.out.grown hgr hbase (fun g hg => (HOr.out.lt g hg).1) (fun g hg => .inr (owns_typed HOr.out g hg))
              clear hown hgr hloc
              go_wp2_with fail
              go_roundw
              case rel => exact ⟨k + 1, by omega, by go_num, HF, HBf.out⟩
              case measure => simp [intOf]; omega
            · obtain rfl : k = 20 := by omega
              obtain ⟨ag, cg, hgf⟩ := ints_form HK.out.own
              rw [List.length_replicate] at hgf
              subst hgf
              have hba : Below wr.heap.size wr (wr.alloc (.cells #[.slice ag (n + 20) cg] 23)) := (Below.refl _ _).alloc (Nat.le_refl _) _
              have HKa : Hid (P3 49 23 mkN bk w1 (wr.alloc (.cells #[.slice ag (n + 20) cg] 23)) B b (.slice (some ⟨g0, 0, none⟩) ns.length cpi) (.slice aa i ca) (.slice ag (n + 20) cg) (.slice av n cv) vs us ns i n 20) := HK.out.eq hba
              have HBa : Hid (KB 49 B w (wr.alloc (.cells #[.slice ag (n + 20) cg] 23))) := hbr.alloc hszr _
              have hbase : w1.heap.size ≤ (wr.alloc (.cells #[.slice ag (n + 20) cg] 23)).heap.size := HKa.out.size
              have hbaseB : B ≤ (wr.alloc (.cells #[.slice ag (n + 20) cg] 23)).heap.size := by simp; omega
              clear hba HK hbr
              go_wp2_with (at_builtin; refine wpList_append_two rfl _ _ 42 rfl w1.heap.size 23 i36 (.slice none 0 0) 1 24 Tryz.underlying42 ki kz ks kby rfl (by decide) _ _ _ rfl HKa.out.all ⟨wr.heap.size, 0, none⟩ 1 1 [.slice ag (n + 20) cg] rfl rfl (cell_one_new _ _ _) (fun u hu => by simp at hu; subst hu; rfl) (by unfold maxLen; omega) (by omega) hbase ?_)
              intro v' w' hown hgr hloc
              have HF : Hid (P2 49 23 mkN bk w1 w' B b (.slice (some ⟨g0, 0, none⟩) ns.length cpi) v' vs (us ++ [.slice ag (n + 20) cg]) ns (i + 1)) := HKa.out.put hown hgr
              have HBf : Hid (KB 49 B w w') := HBa.out.grown hgr hbaseB (fun g hg => Nat.le_trans hszw (HKa.out.all.lt g hg).1) (fun g hg => .inl (Nat.le_trans HBw.out.below.size (HKa.out.all.lt g hg).1))
              clear hown hgr hloc
              go_wp2_with fail
              go_roundw
              case rel => exact ⟨i + 1, _, by omega, by go_num, HF, HBf.out⟩
              case measure => simp [intOf]; omega
        · obtain rfl : i = ns.length := by omega
          have hlt' : ¬ ((ns.length : Int) < (ns.length : Int)) := by omega
          obtain ⟨aa, ca, haf⟩ := rowv_form HI.out.all
          subst haf
          have HBw2 : Hid (KB 49 B w wr) := hbr
          clear hbr
          go_wp2_with fail
          generalize wr = w2 at *
          clear cB
          go_loopw [9] (fun iw wr => ∃ i : Nat, i ≤ ns.length ∧ iw = .int .i64 i ∧ Below w2.heap.size w2 wr) (fun iw _ => ns.length - (intOf iw).toNat)
          case atStart => exact ⟨0, by omega, rfl, Below.refl _ _⟩
          case round =>
            obtain ⟨i, hi1, rfl, hbr⟩ := hrel
            by_cases hlt : i < ns.length
            · have hlt' : (i : Int) < (ns.length : Int) := by omega
              have hi0 : (0 : Int) ≤ (i : Int) := by omega
              have HJ : Hid (P2 49 23 mkN bk w1 wr B b (.slice adi ns.length cpi) (.slice aa ns.length ca) vs us ns ns.length) := HI.out.eq hbr
              obtain ⟨n, hn⟩ : ∃ n, ns[i]? = some n := ⟨_, List.getElem?_eq_getElem hlt⟩
              have hnb : n ≤ 5000000000000 := HM.out n (List.mem_of_getElem? hn)
              obtain ⟨g0, c0, v0, ef, hv0, _⟩ := rowS_at HJ.out.row i hlt
              simp only [Value.slice.injEq] at ef
              obtain ⟨rfl, _, rfl⟩ := ef
              obtain ⟨g1, c1, u1, ef, hu1, _⟩ := rowS_at HJ.out.all i hlt
              simp only [Value.slice.injEq] at ef
              obtain ⟨rfl, _, rfl⟩ := ef
              have HV : Hid (vs[i]? = some v0 ∧ us[i]? = some u1 ∧ ns[i]? = some n) := ⟨hv0, hu1, hn⟩
              have HRv : ∀ W, P2 49 23 mkN bk w1 W B b (.slice (some ⟨g0, 0, none⟩) ns.length cpi) (.slice (some ⟨g1, 0, none⟩) ns.length ca) vs us ns ns.length → RdI W v0 n (-9000 - (i : Int), 0) := fun W hW => hW.read i v0 n hlt HV.out.1 HV.out.2.2
              have HRu : ∀ W, P2 49 23 mkN bk w1 W B b (.slice (some ⟨g0, 0, none⟩) ns.length cpi) (.slice (some ⟨g1, 0, none⟩) ns.length ca) vs us ns ns.length → RdI W u1 (n + 20) (-9000 - (i : Int), 0) := fun W hW => rd_own (hW.grown i u1 n HV.out.2.1 HV.out.2.2)
              have HCv : ∀ W, P2 49 23 mkN bk w1 W B b (.slice (some ⟨g0, 0, none⟩) ns.length cpi) (.slice (some ⟨g1, 0, none⟩) ns.length ca) vs us ns ns.length → W.cell? ⟨b, 4, none⟩ = some (.slice (some ⟨g0, 0, none⟩) ns.length cpi) ∧ W.cell? ⟨g0, i, none⟩ = some v0 ∧ W.cell? ⟨g1, i, none⟩ = some u1 := fun W hW => by
                obtain ⟨_, _, x, ef, hx, cx⟩ := rowS_at hW.row i hlt
                simp only [Value.slice.injEq, Option.some.injEq, Addr.mk.injEq, and_true, true_and] at ef
                obtain ⟨rfl, rfl⟩ := ef
                obtain ⟨_, _, z, ef, hz, cz⟩ := rowS_at hW.all i hlt
                simp only [Value.slice.injEq, Option.some.injEq, Addr.mk.injEq, and_true, true_and] at ef
                obtain ⟨rfl, rfl⟩ := ef
                rw [HV.out.1] at hx
                rw [HV.out.2.1] at hz
                cases hx
                cases hz
                exact ⟨HBK.out _ hW.book, cx, cz⟩
              have HRv : Hid (∀ W, P2 49 23 mkN bk w1 W B b (.slice (some ⟨g0, 0, none⟩) ns.length cpi) (.slice (some ⟨g1, 0, none⟩) ns.length ca) vs us ns ns.length → RdI W v0 n (-9000 - (i : Int), 0)) := HRv
              have HRu : Hid (∀ W, P2 49 23 mkN bk w1 W B b (.slice (some ⟨g0, 0, none⟩) ns.length cpi) (.slice (some ⟨g1, 0, none⟩) ns.length ca) vs us ns ns.length → RdI W u1 (n + 20) (-9000 - (i : Int), 0)) := HRu
              have HCv : Hid (∀ W, P2 49 23 mkN bk w1 W B b (.slice (some ⟨g0, 0, none⟩) ns.length cpi) (.slice (some ⟨g1, 0, none⟩) ns.length ca) vs us ns ns.length → W.cell? ⟨b, 4, none⟩ = some (.slice (some ⟨g0, 0, none⟩) ns.length cpi) ∧ W.cell? ⟨g0, i, none⟩ = some v0 ∧ W.cell? ⟨g1, i, none⟩ = some u1) := HCv
              obtain ⟨av, cv, hvf⟩ := (HRv.out _ HJ.out).form
              obtain ⟨au, cu, huf⟩ := (HRu.out _ HJ.out).form
              subst hvf huf
              have hqq : ((-9000 - (i : Int)) != (-9000 - (i : Int))) = false := by simp
              clear hn hv0 hu1 HJ
              go_wp2_with fail
              go_loopw [10] (fun kw wr => ∃ k : Nat, k ≤ n + 20 ∧ kw = .int .i64 k ∧ Below w2.heap.size w2 wr) (fun kw _ => n + 20 - (intOf kw).toNat)
              case atStart => exact ⟨0, by omega, rfl, hbr⟩
              case round =>
                clear hbr
                obtain ⟨k, hk, rfl, hbr⟩ := hrel
                have HJ : P2 49 23 mkN bk w1 wr B b (.slice (some ⟨g0, 0, none⟩) ns.length cpi) (.slice (some ⟨g1, 0, none⟩) ns.length ca) vs us ns ns.length := HI.out.eq hbr
                obtain ⟨cB, cV, cU⟩ := HCv.out _ HJ
                by_cases hkt : k < n + 20
                · have hkt' : (k : Int) < ((n + 20 : Nat) : Int) := by omega
                  have hk0 : (0 : Int) ≤ (k : Int) := by omega
                  obtain ⟨g3, c3, ef, cR, cR2, _⟩ := (HRu.out _ HJ).at k hkt
                  simp only [Value.slice.injEq] at ef
                  obtain ⟨rfl, _, rfl⟩ := ef
                  clear HJ
                  go_wp2_with fail
                  go_roundw
                  case rel => exact ⟨k + 1, by omega, by go_num, hbr⟩
                  case measure => simp [intOf]; omega
                · obtain rfl : k = n + 20 := by omega
                  have hkt' : ¬ (((n + 20 : Nat) : Int) < ((n + 20 : Nat) : Int)) := by omega
                  clear HJ
                  go_wp2_with fail
                  go_loopw [11] (fun kw wr => ∃ k : Nat, k ≤ n ∧ kw = .int .i64 k ∧ Below w2.heap.size w2 wr) (fun kw _ => n - (intOf kw).toNat)
                  case atStart => exact ⟨0, by omega, rfl, hbr⟩
                  case round =>
                    clear hbr cB cV cU hkt hkt' hk
                    obtain ⟨k, hk, rfl, hbr⟩ := hrel
                    have HJ : P2 49 23 mkN bk w1 wr B b (.slice (some ⟨g0, 0, none⟩) ns.length cpi) (.slice (some ⟨g1, 0, none⟩) ns.length ca) vs us ns ns.length := HI.out.eq hbr
                    obtain ⟨cB, cV, cU⟩ := HCv.out _ HJ
                    by_cases hkt : k < n
                    · have hkt' : (k : Int) < (n : Int) := by omega
                      have hk0 : (0 : Int) ≤ (k : Int) := by omega
                      obtain ⟨g3, c3, ef, cR, cR2, _⟩ := (HRv.out _ HJ).at k hkt
                      simp only [Value.slice.injEq] at ef
                      obtain ⟨rfl, _, rfl⟩ := ef
                      clear HJ
                      go_wp2_with fail
                      go_roundw
                      case rel => exact ⟨k + 1, by omega, by go_num, hbr⟩
                      case measure => simp [intOf]; omega
                    · obtain rfl : k = n := by omega
                      have hkt' : ¬ ((k : Int) < (k : Int)) := by omega
                      clear HJ
                      go_wp2_with fail
                      go_roundw
                      case rel => exact ⟨i + 1, by omega, by go_num, hbr⟩
                      case measure => simp [intOf]; omega
            · obtain rfl : i = ns.length := by omega
              have hlt' : ¬ ((ns.length : Int) < (ns.length : Int)) := by omega
              have HE : Hid (BookAt wr b bk ∧ KB 49 B w wr) := ⟨(HI.out.eq hbr).book, HBw2.out.then (Nat.le_trans hBb HBw2.out.below.size) hbr⟩
              go_wp2_with fail
              go_ret
              exact ⟨rfl, HE.out.1, HE.out.2⟩
end Go.Proofs.YtojobiefambkoaaGreatDoor.Bk
