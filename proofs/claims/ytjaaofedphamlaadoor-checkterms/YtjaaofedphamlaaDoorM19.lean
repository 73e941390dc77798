/- The contract of the reference's goal, where a place may stand. Goals: the two ways to tell one agree; the reference's IsGoal. Guards: the two ways to tell one agree. Contract of the reference's IsGuard. Contract of SameCells. Contract of HandCells. Contracts of HandTerm, KeptCells, KeptTerm. The contract of CheckTerms. -/
import Derived.Test.YtjaaofedphamlaaDoorM18
import Derived.Test.YtjaaofedphamlaaDoorM10
import Derived.Test.YtjaaofedphamlaaDoorM11
namespace Go.Proofs.YtjaaofedphamlaaDoor
open Go.RowKit
set_option maxRecDepth 100000 in
set_option maxHeartbeats 2000000 in
theorem k35f (l : List C) (v : Value) (w : World) (h : TermAt w v l) (hr : rightB l = true) :
    Calls Tryd.prog 35 #[v, .bool false] w fun e w' => e = .returned (.bool (refGoal0 l)) ∧ Below w.heap.size w w' := by
  have h1 : 0 < l.length := (right_len hr).1
  have HT : Hid (TermAt w v l) := h
  have Ht := fun W (hW : Below w.heap.size w W) => c29 l v tTrue 0 W (HT.out.below hW)
  have He := fun W (hW : Below w.heap.size w W) => c29 l v tEq 2 W (HT.out.below hW)
  have Hi := fun W (hW : Below w.heap.size w W) => c29 l v tIs 2 W (HT.out.below hW)
  have Hc := fun W (hW : Below w.heap.size w W) => k51 l v W (HT.out.below hW) h1
  have Ha := fun W (hW : Below w.heap.size w W) => c27 l v W (HT.out.below hW)
  have HG : Hid (refGoal0 l = (isB l tTrue 0 || isB l tEq 2 || callS l || (bif isB l tIs 2 then sumAll (rightL l) else (isB l tAt 2 && refGoal1 (leftL l) && placeS (headC (rightL l)))))) := rfl
  have Hat := fun W (hW : Below w.heap.size w W) => c29 l v tAt 2 W (HT.out.below hW)
  have HAt : Hid (isB l tAt 2 = true → ∀ W u, RowAt W u (argsL l) → ∃ b o cap x y by_ oy cy, u = .slice (some ⟨b, o, none⟩) 2 cap ∧ W.cell? ⟨b, o, none⟩ = some x ∧ (∀ W2, Below W.heap.size W W2 → W2.cell? ⟨b, o + 1, none⟩ = some y) ∧ TermAt W x (leftL l) ∧ y = .slice (some ⟨by_, oy, none⟩) (rightL l).length cy ∧ 0 < (rightL l).length ∧ rightB (leftL l) = true ∧ (∀ W2, Below W.heap.size W W2 → W2.cell? ⟨by_, oy, none⟩ = some (.int .u8 (headC (rightL l)).k) ∧ W2.cell? ⟨by_, oy + 1, none⟩ = some (.string (headC (rightL l)).t) ∧ W2.cell? ⟨by_, oy + 2, none⟩ = some (.int .i64 (headC (rightL l)).n) ∧ W2.cell? ⟨by_, oy + 3, none⟩ = some (.int .i64 (headC (rightL l)).vn) ∧ W2.cell? ⟨by_, oy + 4, none⟩ = some (.int .i64 (headC (rightL l)).vk))) := fun hh W u hR => by
    obtain ⟨_, e1, e2, _⟩ := isB_two tAt hh
    obtain ⟨m, hm1, hml, he, ha⟩ := two_parts hr h1 e1 e2
    have hlen : (argsL l).length = 2 := by rw [ha]; rfl
    obtain ⟨b, o, cap, x, hu, hc, ht, _⟩ := row_at hR 0 (by omega)
    obtain ⟨b', o', cap', y, hu', hc', ht', hb'⟩ := row_at hR 1 (by omega)
    rw [hlen] at hu hu'
    rw [hu] at hu'
    simp only [Value.slice.injEq, Option.some.injEq, Addr.mk.injEq, and_true, true_and] at hu'
    obtain ⟨⟨rfl, rfl⟩, rfl⟩ := hu'
    have hx0 : (argsL l)[0] = leftL l := by
      unfold leftL
      rw [List.getElem?_eq_getElem (by omega)]; rfl
    have hx : (argsL l)[1] = rightL l := by
      unfold rightL
      rw [List.getElem?_eq_getElem (by omega)]; rfl
    rw [hx0] at ht
    rw [hx] at ht'
    have hrr := left_right hr h1 e1 e2
    have hl2 : 0 < (rightL l).length := (right_len hrr.2).1
    rw [Nat.add_zero] at hc
    obtain ⟨_, hty⟩ := ht'
    rcases hty with ⟨e, _⟩ | ⟨by_, oy, cy, ey, _, _, hry, hby⟩
    · rw [e] at hl2; simp at hl2
    refine ⟨b, o, cap, x, y, by_, oy, cy, hu, hc, fun W2 hW2 => (hW2.cell (p := ⟨b, o + 1, none⟩) hb').trans hc', ht, ey, hl2, hrr.1, fun W2 hW2 => ?_⟩
    obtain ⟨p0, p1, p2, p3, p4⟩ := term_cells (range_below hry hby hW2) 0 hl2
    simp only [Nat.zero_mul, Nat.add_zero] at p0 p1 p2 p3 p4
    rw [headC_get hl2]
    exact ⟨p0, p1, p2, p3, p4⟩
  have HI : Hid (isB l tIs 2 = true → ∀ W u, RowAt W u (argsL l) → ∃ b o cap x, u = .slice (some ⟨b, o, none⟩) 2 cap ∧ W.cell? ⟨b, o + 1, none⟩ = some x ∧ Calls Tryd.prog 27 #[x] W fun e w' => e = .returned (.bool (sumAll (rightL l))) ∧ Below W.heap.size W w') := fun hh W u hR => by
    obtain ⟨_, e1, e2, _⟩ := isB_two tIs hh
    obtain ⟨m, hm1, hml, he, ha⟩ := two_parts hr h1 e1 e2
    have hlen : (argsL l).length = 2 := by rw [ha]; rfl
    obtain ⟨b, o, cap, x, hu, hc, ht, _⟩ := row_at hR 1 (by omega)
    rw [hlen] at hu
    have hx : (argsL l)[1] = rightL l := by
      unfold rightL
      rw [List.getElem?_eq_getElem (by omega)]; rfl
    rw [hx] at ht
    exact ⟨b, o, cap, x, hu, hc, k27 _ (rightL l) x W (Nat.le_refl _) ht (left_right hr h1 e1 e2).2⟩
  clear hr h
  obtain ⟨adv, cpv, hv⟩ := HT.out.form
  subst hv
  generalize sumAll (rightL l) = sr at *
  generalize callS l = cl at *
  simp only [tTrue, tEq, tIs, tAt] at Ht He Hi HI HG Hat HAt
  generalize isB l ⟨#[116, 114, 117, 101]⟩ 0 = b1 at *
  generalize isB l ⟨#[61]⟩ 2 = b2 at *
  generalize isB l ⟨#[58, 61]⟩ 2 = b3 at *
  generalize isB l ⟨#[64]⟩ 2 = b4 at *
  cases b1
  · cases b2
    · cases cl
      · cases b3
        · cases b4
          · go_enter Tryd.func35, Tryd.ntmps35
            go_wp2_with fail
            refine (Ht _ (Below.refl _ _)).mono ?_
            rintro e w' ⟨rfl, hw'⟩
            obtain rfl := hw'.symm
            go_wp2_with fail
            refine (He _ (Below.refl _ _)).mono ?_
            rintro e w' ⟨rfl, hw'⟩
            obtain rfl := hw'.symm
            go_wp2_with fail
            refine (Hc _ (Below.refl _ _)).mono ?_
            rintro e w1 ⟨rfl, hb1⟩
            go_wp2_with fail
            refine (Ha _ hb1).mono ?_
            rintro e w2 ⟨u, rfl, hR, hb2⟩
            have hb2' := hb1.trans (hb2.mono hb1.size)
            go_wp2_with fail
            refine (Hi _ hb2').mono ?_
            rintro e w' ⟨rfl, hw'⟩
            obtain rfl := hw'.symm
            go_wp2_with fail
            refine (Hat _ hb2').mono ?_
            rintro e w' ⟨rfl, hw'⟩
            obtain rfl := hw'.symm
            go_wp2_with fail
            go_ret
            exact ⟨by rw [HG.out]; rfl, hb2'⟩
          · go_enter Tryd.func35, Tryd.ntmps35
            go_wp2_with fail
            refine (Ht _ (Below.refl _ _)).mono ?_
            rintro e w' ⟨rfl, hw'⟩
            obtain rfl := hw'.symm
            go_wp2_with fail
            refine (He _ (Below.refl _ _)).mono ?_
            rintro e w' ⟨rfl, hw'⟩
            obtain rfl := hw'.symm
            go_wp2_with fail
            refine (Hc _ (Below.refl _ _)).mono ?_
            rintro e w1 ⟨rfl, hb1⟩
            go_wp2_with fail
            refine (Ha _ hb1).mono ?_
            rintro e w2 ⟨u, rfl, hR, hb2⟩
            have hb2' := hb1.trans (hb2.mono hb1.size)
            obtain ⟨b, o, cap, x, y, by_, oy, cy, rfl, hcx, hcy, htx, hyf, hl2, hrl, hpc⟩ := HAt.out trivial _ _ hR
            have H35 := k35t (leftL l) x w2 htx hrl
            have hl2' : (0 : Int) < ((rightL l).length : Int) := by omega
            have HPC : Hid (∀ W2, Below w2.heap.size w2 W2 → _) := hpc
            have HCY : Hid (∀ W2, Below w2.heap.size w2 W2 → _) := hcy
            clear htx hrl hpc hcy
            subst hyf
            generalize headC (rightL l) = pc at *
            cases hg1 : refGoal1 (leftL l)
            · rw [hg1] at HG H35
              go_wp2_with fail
              refine (Hi _ hb2').mono ?_
              rintro e w' ⟨rfl, hw'⟩
              obtain rfl := hw'.symm
              go_wp2_with fail
              refine (Hat _ hb2').mono ?_
              rintro e w' ⟨rfl, hw'⟩
              obtain rfl := hw'.symm
              go_wp2_with fail
              refine H35.mono ?_
              rintro e w3 ⟨rfl, hb3⟩
              go_wp2_with fail
              go_ret
              exact ⟨by rw [HG.out]; rfl, hb2'.trans (hb3.mono hb2'.size)⟩
            · rw [hg1] at HG H35
              have HP : Hid (placeS pc = ((pc.k == 4) || ((pc.k == 1) && decide (0 ≤ pc.n) && decide (pc.n < 4)))) := rfl
              go_wp2_with fail
              refine (Hi _ hb2').mono ?_
              rintro e w' ⟨rfl, hw'⟩
              obtain rfl := hw'.symm
              go_wp2_with fail
              refine (Hat _ hb2').mono ?_
              rintro e w' ⟨rfl, hw'⟩
              obtain rfl := hw'.symm
              go_wp2_with fail
              refine H35.mono ?_
              rintro e w3 ⟨rfl, hb3⟩
              have hb3' : Hid (Below w.heap.size w w3) := hb2'.trans (hb3.mono hb2'.size)
              have cy1 := HCY.out _ hb3
              obtain ⟨p0, p1, p2, p3, p4⟩ := HPC.out _ hb3
              have hba : ∀ ob : Obj, Hid (Below w.heap.size w (w3.alloc ob)) := fun ob => hb3'.out.alloc hb3'.out.size ob
              cases hk4 : (pc.k == 4)
              · cases hk1 : (pc.k == 1)
                · rw [hk4, hk1] at HP
                  go_wp2_with fail
                  go_ret
                  exact ⟨by rw [HG.out, HP.out]; rfl, (hba _).out⟩
                · rw [hk4, hk1] at HP
                  by_cases g0 : 0 ≤ pc.n
                  · by_cases g4 : pc.n < 4
                    · rw [decide_eq_true g0, decide_eq_true g4] at HP
                      go_wp2_with fail
                      go_ret
                      exact ⟨by rw [HG.out, HP.out]; rfl, (hba _).out⟩
                    · rw [decide_eq_true g0, decide_eq_false g4] at HP
                      go_wp2_with fail
                      go_ret
                      exact ⟨by rw [HG.out, HP.out]; first | rfl | (simp [g4]), (hba _).out⟩
                  · rw [decide_eq_false g0] at HP
                    go_wp2_with fail
                    go_ret
                    exact ⟨by rw [HG.out, HP.out]; rfl, (hba _).out⟩
              · rw [hk4] at HP
                go_wp2_with fail
                go_ret
                exact ⟨by rw [HG.out, HP.out]; rfl, (hba _).out⟩
        · go_enter Tryd.func35, Tryd.ntmps35
          go_wp2_with fail
          refine (Ht _ (Below.refl _ _)).mono ?_
          rintro e w' ⟨rfl, hw'⟩
          obtain rfl := hw'.symm
          go_wp2_with fail
          refine (He _ (Below.refl _ _)).mono ?_
          rintro e w' ⟨rfl, hw'⟩
          obtain rfl := hw'.symm
          go_wp2_with fail
          refine (Hc _ (Below.refl _ _)).mono ?_
          rintro e w1 ⟨rfl, hb1⟩
          go_wp2_with fail
          refine (Ha _ hb1).mono ?_
          rintro e w2 ⟨u, rfl, hR, hb2⟩
          have hb2' := hb1.trans (hb2.mono hb1.size)
          obtain ⟨b, o, cap, x, rfl, hcx, H27⟩ := HI.out trivial _ _ hR
          go_wp2_with fail
          refine (Hi _ hb2').mono ?_
          rintro e w' ⟨rfl, hw'⟩
          obtain rfl := hw'.symm
          go_wp2_with fail
          refine H27.mono ?_
          rintro e w3 ⟨rfl, hb3⟩
          go_wp2_with fail
          go_ret
          exact ⟨by rw [HG.out]; rfl, hb2'.trans (hb3.mono hb2'.size)⟩
      · go_enter Tryd.func35, Tryd.ntmps35
        go_wp2_with fail
        refine (Ht _ (Below.refl _ _)).mono ?_
        rintro e w' ⟨rfl, hw'⟩
        obtain rfl := hw'.symm
        go_wp2_with fail
        refine (He _ (Below.refl _ _)).mono ?_
        rintro e w' ⟨rfl, hw'⟩
        obtain rfl := hw'.symm
        go_wp2_with fail
        refine (Hc _ (Below.refl _ _)).mono ?_
        rintro e w1 ⟨rfl, hb1⟩
        go_wp2_with fail
        go_ret
        exact ⟨by rw [HG.out]; rfl, hb1⟩
    · go_enter Tryd.func35, Tryd.ntmps35
      go_wp2_with fail
      refine (Ht _ (Below.refl _ _)).mono ?_
      rintro e w' ⟨rfl, hw'⟩
      obtain rfl := hw'.symm
      go_wp2_with fail
      refine (He _ (Below.refl _ _)).mono ?_
      rintro e w' ⟨rfl, hw'⟩
      obtain rfl := hw'.symm
      go_wp2_with fail
      go_ret
      exact ⟨by rw [HG.out]; rfl, Below.refl _ _⟩
  · go_enter Tryd.func35, Tryd.ntmps35
    go_wp2_with fail
    refine (Ht _ (Below.refl _ _)).mono ?_
    rintro e w' ⟨rfl, hw'⟩
    obtain rfl := hw'.symm
    go_wp2_with fail
    go_ret
    exact ⟨by rw [HG.out]; rfl, Below.refl _ _⟩
end Go.Proofs.YtjaaofedphamlaaDoor
namespace Go.Proofs.YtjaaofedphamlaaDoor
open Go.RowKit
theorem sign_not_name {t : List UInt8} (h : isSignB t = true) : isNameB t = false := by
  have h' : t ∈ signs := by
    unfold isSignB at h
    simpa using h
  revert t
  have H : ∀ t ∈ signs, isNameB t = false := by decide
  intro t _ ht
  exact H t ht
theorem bare_eq {l : List C} (hr : rightB l = true) : bareS l = refGoal1 l := by
  have h1 : 0 < l.length := (right_len hr).1
  have hok := right_cell hr _ (List.getElem_mem h1)
  unfold refGoal1 plainG isTrueS callS
  rw [headC_get h1, isB_get h1, isB_get h1, isB_get h1]
  have hb : bareS l = if l[0].t.toList == [61] then true else if l[0].t.toList == [58, 61] then sumAll (rightL l) else ((l[0].k == 2 || l[0].k == 3) && isNameB l[0].t.data.toList) := by
    match l, h1 with
    | c :: r, _ => rfl
  rw [hb]
  generalize sumAll (rightL l) = s
  generalize l[0] = c at *
  rw [← ByteArray.toList_eq]
  have e1 : tTrue.toList = [116, 114, 117, 101] := by rw [ByteArray.toList_eq]; rfl
  have e2 : tEq.toList = [61] := by rw [ByteArray.toList_eq]; rfl
  have e3 : tIs.toList = [58, 61] := by rw [ByteArray.toList_eq]; rfl
  rw [e1, e2, e3]
  have n1 : isNameB [61] = false := by decide
  have n2 : isNameB [58, 61] = false := by decide
  rcases ok_kinds hok with hk | hk | hk | hk
  · rw [ok_var hok (.inl hk), hk]; simp
  · obtain ⟨hn, hm⟩ := ok_atom hok hk
    rw [hk, hn]
    generalize c.t.toList = T at *
    have x1 : T ≠ [61] := fun h => by rw [h, n1] at hm; cases hm
    have x2 : T ≠ [58, 61] := fun h => by rw [h, n2] at hm; cases hm
    rw [hm]
    simp [x1, x2]
  · rcases ok_struct hok hk with ⟨hm, hn⟩ | ⟨hm, hn⟩
    · rw [hk]
      generalize c.t.toList = T at *
      have x1 : T ≠ [61] := fun h => by rw [h, n1] at hm; cases hm
      have x2 : T ≠ [58, 61] := fun h => by rw [h, n2] at hm; cases hm
      rw [hm]
      simp [x1, x2]
    · have hx := sign_not_name hm
      rw [hk, hn]
      generalize c.t.toList = T at *
      rw [hx]
      by_cases x1 : T = [61]
      · subst x1; simp
      · by_cases x2 : T = [58, 61]
        · subst x2; simp
        · simp [x1, x2]
  · rw [ok_var hok (.inr hk), hk]; simp
theorem goal_eq {l : List C} (hr : rightB l = true) : refGoal0 l = goalS l := by
  have h1 : 0 < l.length := (right_len hr).1
  have hok := right_cell hr _ (List.getElem_mem h1)
  have hb := bare_eq hr
  have e4 : tAt.toList = [64] := by rw [ByteArray.toList_eq]; rfl
  have hA : isB l tAt 2 = (l[0].t.toList == [64]) := by
    rw [isB_get h1, e4]
    by_cases hT : l[0].t.toList = [64]
    · have hs' : isSignB l[0].t.data.toList = true := by
        rw [← ByteArray.toList_eq, hT]; decide
      obtain ⟨e1, e2⟩ := sign_cell hok hs'
      rw [hT, e1, e2]; rfl
    · simp [hT]
  unfold refGoal0 goalS
  rw [hA, headC_get h1]
  by_cases hT : l[0].t.toList = [64]
  · have hs' : isSignB l[0].t.data.toList = true := by
      rw [← ByteArray.toList_eq, hT]; decide
    obtain ⟨e1, e2⟩ := sign_cell hok hs'
    obtain ⟨hl, _⟩ := left_right hr h1 e1 e2
    have hbl := bare_eq hl
    have hp : plainG l = false ∧ isB l tIs 2 = false := by
      unfold plainG isTrueS callS
      rw [headC_get h1, isB_get h1, isB_get h1, isB_get h1, hT, e1, e2]
      rw [← ByteArray.toList_eq, hT]
      have a1 : tTrue.toList = [116, 114, 117, 101] := by rw [ByteArray.toList_eq]; rfl
      have a2 : tEq.toList = [61] := by rw [ByteArray.toList_eq]; rfl
      have a3 : tIs.toList = [58, 61] := by rw [ByteArray.toList_eq]; rfl
      rw [a1, a2, a3]
      decide
    rw [hp.1, hp.2, hT, ← hbl]
    have hz : (headC (leftL l)).t.toList = [64] → bareS (leftL l) = false := by
      intro hz
      have g1 : 0 < (leftL l).length := (right_len hl).1
      generalize leftL l = m at *
      match m, g1 with
      | c :: r, _ =>
        have hz' : c.t.toList = [64] := hz
        unfold bareS hasNameS
        simp only [← ByteArray.toList_eq, hz']
        have : isNameB [64] = false := by decide
        rw [this]; simp
    by_cases hq : (headC (leftL l)).t.toList = [64]
    · rw [hz hq]; simp
    · have hq' : ((headC (leftL l)).t.toList == [64]) = false := by simpa using hq
      rw [hq']; simp
  · have : (l[0].t.toList == [64]) = false := by simpa using hT
    rw [this, hb]
    unfold refGoal1
    cases isB l tIs 2 <;> simp
set_option maxRecDepth 100000 in
theorem k13 (l : List C) (v : Value) (w : World) (h : TermAt w v l) :
    Calls Tryd.prog 13 #[v] w fun e w' => e = .returned (.bool (isGoalS l)) ∧ Below w.heap.size w w' := by
  have H26 := c23 l v w h
  cases hr : rightB l
  · have e : isGoalS l = false := by unfold isGoalS; rw [hr]; rfl
    rw [e]
    rw [hr] at H26
    go_enter Tryd.func13, Tryd.ntmps13
    go_wp2_with fail
    refine H26.mono ?_
    rintro e w' ⟨rfl, hb⟩
    go_wp2_with fail
    go_ret
    exact ⟨rfl, hb⟩
  · have e : isGoalS l = refGoal0 l := by unfold isGoalS; rw [hr, goal_eq hr]; rfl
    have H27 := fun W (hW : Below w.heap.size w W) => k35f l v W (h.below hW) hr
    rw [e]
    rw [hr] at H26
    generalize refGoal0 l = b at *
    clear e hr
    go_enter Tryd.func13, Tryd.ntmps13
    go_wp2_with fail
    refine H26.mono ?_
    rintro e w' ⟨rfl, hb⟩
    go_wp2_with fail
    refine (H27 _ hb).mono ?_
    rintro e w'' ⟨rfl, hb2⟩
    go_wp2_with fail
    go_ret
    exact ⟨rfl, hb.trans (hb2.mono hb.size)⟩
end Go.Proofs.YtjaaofedphamlaaDoor
namespace Go.Proofs.YtjaaofedphamlaaDoor
open Go.RowKit
def cmp6 (T : List UInt8) : Bool := (T == [60]) || (T == [61, 60]) || (T == [62]) || (T == [62, 61]) || (T == [61, 58, 61]) || (T == [61, 92, 61])
def one4 (T : List UInt8) : Bool := (T == [105, 110, 116, 101, 103, 101, 114]) || (T == [97, 116, 111, 109]) || (T == [99, 111, 109, 112, 111, 117, 110, 100]) || (T == [107, 110, 111, 119, 110])
def eq2 (T : List UInt8) : Bool := (T == [101, 113, 117, 97, 108]) || (T == [117, 110, 108, 105, 107, 101])
theorem guardK_eq (t : ByteArray) (a b c d : Bool) : guardK t a b c d = if cmp6 t.toList then a else if one4 t.toList then b else if eq2 t.toList then c else d := by
  unfold guardK cmp6 one4 eq2
  generalize t.toList = T
  cases (T == [60])
  rotate_left
  · simp
  cases (T == [61, 60])
  rotate_left
  · simp
  cases (T == [62])
  rotate_left
  · simp
  cases (T == [62, 61])
  rotate_left
  · simp
  cases (T == [61, 58, 61])
  rotate_left
  · simp
  cases (T == [61, 92, 61])
  rotate_left
  · simp
  cases (T == [105, 110, 116, 101, 103, 101, 114])
  rotate_left
  · simp
  cases (T == [97, 116, 111, 109])
  rotate_left
  · simp
  cases (T == [99, 111, 109, 112, 111, 117, 110, 100])
  rotate_left
  · simp
  cases (T == [107, 110, 111, 119, 110])
  rotate_left
  · simp
  cases (T == [101, 113, 117, 97, 108])
  rotate_left
  · simp
  cases (T == [117, 110, 108, 105, 107, 101])
  rotate_left
  · simp
  simp
theorem cmp6_f {T : List UInt8} (h : cmp6 T = true) : isNameB T = false ∧ isSignB T = true ∧ one4 T = false ∧ eq2 T = false ∧ (T == [116, 114, 117, 101]) = false ∧ (T == []) = false := by
  simp only [cmp6, Bool.or_eq_true, beq_iff_eq] at h
  rcases h with ((((rfl | rfl) | rfl) | rfl) | rfl) | rfl <;> decide
theorem one4_f {T : List UInt8} (h : one4 T = true) : isSignB T = false ∧ cmp6 T = false ∧ eq2 T = false ∧ (T == [116, 114, 117, 101]) = false ∧ (T == []) = false := by
  simp only [one4, Bool.or_eq_true, beq_iff_eq] at h
  rcases h with ((rfl | rfl) | rfl) | rfl <;> decide
theorem eq2_f {T : List UInt8} (h : eq2 T = true) : isSignB T = false ∧ cmp6 T = false ∧ one4 T = false ∧ (T == [116, 114, 117, 101]) = false ∧ (T == []) = false := by
  simp only [eq2, Bool.or_eq_true, beq_iff_eq] at h
  rcases h with rfl | rfl <;> decide
def refGuardA (it : Bool) (T : List UInt8) (rs : List (List C)) : Bool := it || match rs with
  | [x] => one4 T && simpleS x
  | [x, y] => if cmp6 T then sumAll x && sumAll y else if eq2 T then simpleS x && simpleS y else false
  | _ => false
theorem simple_len {m : List C} (hr : rightB m = true) : 1 ≤ m.length ∧ simpleS m = decide (m.length = 1) := by
  have h1 : 0 < m.length := (right_len hr).1
  refine ⟨h1, ?_⟩
  match m, h1 with
  | c :: r, _ =>
    have hc : simpleS (c :: r) = (c.k != 3) := rfl
    rw [hc]
    by_cases hk : c.k = 3
    · have h1 : 0 < (c :: r).length := by simp
      obtain ⟨s1, s2, s3⟩ := argsL_spec (c :: r) hr h1 (by rw [headK_get h1]; exact hk)
      obtain ⟨⟨hal, hn, _⟩, _⟩ := sum_struct hr h1 hk
      simp only [List.getElem_cons_zero, List.tail_cons] at hal hn s1
      have hne : argsL (c :: r) ≠ [] := fun h => by rw [h] at hal; simp at hal; omega
      obtain ⟨a, rs, ha⟩ := List.exists_cons_of_ne_nil hne
      have : rightB a = true := arg_right hr (by rw [ha]; simp)
      have ha1 : 0 < a.length := (right_len this).1
      rw [ha] at s1
      have hl := congrArg List.length s1
      simp at hl
      rw [hk]
      have : r.length ≠ 0 := by omega
      simp
      intro h; rw [h] at this; simp at this
    · rw [right_cell1 hr hk]
      simp [hk]
theorem guard_eq {l : List C} (hr : rightB l = true) : guardS l = refGuardA (isTrueS l) (headC l).t.toList (argsL l) := by
  have h1 : 0 < l.length := (right_len hr).1
  have hok := right_cell hr _ (List.getElem_mem h1)
  unfold guardS
  rw [guardK_eq, headC_get h1]
  have hit : isTrueS l = ((l[0].t.toList == [116, 114, 117, 101]) && (((l[0].k == 3) && (l[0].n == 0)) || (l[0].k == 2))) := by
    unfold isTrueS
    rw [isB_get h1]
    have e1 : tTrue.toList = [116, 114, 117, 101] := by rw [ByteArray.toList_eq]; rfl
    rw [e1]; simp
  have hfl : flatB l = decide ((l.length : Int) = 1 + l[0].n) := by
    unfold flatB; rw [headC_get h1]; simp [BEq.beq]
  by_cases hk3 : l[0].k = 3
  · obtain ⟨⟨hal, hn1, hn8⟩, _⟩ := sum_struct hr h1 hk3
    obtain ⟨s1, _, _⟩ := argsL_spec l hr h1 (by rw [headK_get h1]; exact hk3)
    have hit0 : isTrueS l = false := by
      rw [hit, hk3]
      have : (l[0].n == 0) = false := by simp; omega
      rw [this]; simp
    have hA : ∀ a ∈ argsL l, rightB a = true := fun a ha => arg_right hr ha
    have hdr : l.drop 1 = l.tail := by simp
    have hlt : l.length = l.tail.length + 1 := by simp; omega
    rw [hit0, hdr, hfl]
    have hst := ok_struct hok hk3
    generalize isTrueS l = it at *
    generalize l[0] = c at *
    generalize c.t.toList = T at *
    generalize hlen : l.length = L at *
    rw [← s1] at hlt ⊢
    generalize argsL l = rs at *
    clear hfl hit hdr s1 hr hok
    by_cases n1 : c.n = 1
    · rw [n1] at hal
      match rs, hal with
      | [x], _ =>
        obtain ⟨hx1, hx⟩ := simple_len (hA x (by simp))
        cases hc6 : cmp6 T
        · cases h4 : one4 T
          · cases h2 : eq2 T
            · simp [refGuardA, h4]
            · simp [refGuardA, h4, n1]
          · simp only [refGuardA, h4, n1]
            simp at hlt
            rw [hx]
            have : (decide ((L : Int) = 1 + 1)) = decide (x.length = 1) := by
              by_cases h : x.length = 1
              · rw [decide_eq_true h, decide_eq_true (by omega)]
              · rw [decide_eq_false h, decide_eq_false (by omega)]
            simp
            constructor <;> intro h <;> omega
        · obtain ⟨a1, a2, a3, a4, a5, a6⟩ := cmp6_f hc6
          rcases hst with ⟨b1, _⟩ | ⟨_, b2⟩
          · rw [a1] at b1; cases b1
          · omega
    · by_cases n2 : c.n = 2
      · rw [n2] at hal
        match rs, hal with
        | [x, y], _ =>
          obtain ⟨hx1, hx⟩ := simple_len (hA x (by simp))
          obtain ⟨hy1, hy⟩ := simple_len (hA y (by simp))
          cases hc6 : cmp6 T
          · cases h4 : one4 T
            · cases h2 : eq2 T
              · simp [refGuardA, hc6, h2]
              · simp only [refGuardA, hc6, h2, n2]
                simp at hlt
                rw [hx, hy]
                have : (decide ((L : Int) = 1 + 2)) = (decide (x.length = 1) && decide (y.length = 1)) := by
                  rw [← Bool.decide_and]
                  by_cases h : x.length = 1 ∧ y.length = 1
                  · rw [decide_eq_true h, decide_eq_true (by omega)]
                  · rw [decide_eq_false h, decide_eq_false (by omega)]
                have e3 : (1 : Int) + 2 = 3 := rfl
                rw [e3] at this
                simp
                exact this
            · obtain ⟨a1, a2, a3, a4, a5⟩ := one4_f h4
              simp [refGuardA, hc6, n2, a3]
          · simp [refGuardA, hc6, sumAll_append]
      · have hr0 : refGuardA false T rs = false := by
          match rs with
          | [] => rfl
          | [x] => simp at hal; omega
          | [x, y] => simp at hal; omega
          | x :: y :: z :: r => rfl
        rw [hr0]
        have hc6 : cmp6 T = false := by
          cases hc6 : cmp6 T
          · rfl
          · obtain ⟨a1, a2, a3, a4, a5, a6⟩ := cmp6_f hc6
            rcases hst with ⟨b1, _⟩ | ⟨_, b2⟩
            · rw [a1] at b1; cases b1
            · omega
        rw [hc6]
        simp [n1, n2]
  · rw [argsL_none l (by rw [headK_get h1]; exact fun h => hk3 h.2.2)]
    have hr0 : refGuardA (isTrueS l) l[0].t.toList [] = isTrueS l := by simp [refGuardA]
    rw [hr0, hit]
    generalize sumAll (l.drop 1) = sa
    generalize flatB l = fb at *
    clear hfl hit hr0
    generalize l[0] = c at *
    rcases ok_kinds hok with hk | hk | hk | hk
    · rw [ok_var hok (.inl hk)]; simp [cmp6, one4, eq2]
    · obtain ⟨hn, hm⟩ := ok_atom hok hk
      rw [hn, hk]
      generalize c.t.toList = T at *
      cases hc6 : cmp6 T
      · cases h4 : one4 T
        · cases h2 : eq2 T
          · simp
          · obtain ⟨a1, a2, a3, a4, a5⟩ := eq2_f h2
            simp at a4; simp [a4]
        · obtain ⟨a1, a2, a3, a4, a5⟩ := one4_f h4
          simp at a4; simp [a4]
      · obtain ⟨a1, _⟩ := cmp6_f hc6
        rw [a1] at hm; cases hm
    · exact absurd hk hk3
    · rw [ok_var hok (.inr hk)]; simp [cmp6, one4, eq2]
end Go.Proofs.YtjaaofedphamlaaDoor
namespace Go.Proofs.YtjaaofedphamlaaDoor
open Go.RowKit
set_option maxRecDepth 100000 in
set_option maxHeartbeats 8000000 in
theorem k11_one (l : List C) (v : Value) (w : World) (h : TermAt w v l) (hr : rightB l = true) (hit0 : isTrueS l = false) (n1 : (argsL l).length = 1) :
    Calls Tryd.prog 11 #[v] w fun e w' => e = .returned (.bool (guardS l)) ∧ Below w.heap.size w w' := by
  have H26 := c23 l v w h
  have h1 : 0 < l.length := (right_len hr).1
  rw [hr] at H26
  have HT : Hid (TermAt w v l) := h
  have HG : Hid (guardS l = refGuardA (isTrueS l) (headC l).t.toList (argsL l)) := guard_eq hr
  rw [headC_get h1, hit0] at HG
  have Ht := fun W (hW : Below w.heap.size w W) => c29 l v tTrue 0 W (HT.out.below hW)
  have Ha := fun W (hW : Below w.heap.size w W) => c27 l v W (HT.out.below hW)
  have HSUM : Hid (∀ a ∈ argsL l, ∀ x W, TermAt W x a → Calls Tryd.prog 27 #[x] W fun e w' => e = .returned (.bool (sumAll a)) ∧ Below W.heap.size W w') := fun a ha x W hx => k27 _ a x W (Nat.le_refl _) hx (arg_right hr ha)
  have HSIM : Hid (∀ a ∈ argsL l, ∀ x W, TermAt W x a → Calls Tryd.prog 31 #[x] W fun e w' => e = .returned (.bool (simpleS a)) ∧ Below W.heap.size W w') := fun a ha x W hx => k31 a x W hx (right_len (arg_right hr ha)).1
  have HCL : Hid (∀ W, Below w.heap.size w W → ∃ b o cap, v = .slice (some ⟨b, o, none⟩) l.length cap ∧ W.cell? ⟨b, o + 1, none⟩ = some (.string l[0].t)) := fun W hW => by
    obtain ⟨_, h⟩ := HT.out.below hW
    rcases h with ⟨e, _⟩ | ⟨b, o, cap, e, _, _, h3, _⟩
    · rw [e] at h1; simp at h1
    · obtain ⟨p0, p1, p2, p3, p4⟩ := term_cells h3 0 h1
      simp only [Nat.zero_mul, Nat.add_zero] at p0 p1 p2 p3 p4
      exact ⟨b, o, cap, e, p1⟩
  have h1' : (0 : Int) < (l.length : Int) := by omega
  have hit : isTrueS l = isB l tTrue 0 := rfl
  rw [hit] at hit0
  rw [hit0] at Ht
  simp only [tTrue] at Ht
  clear hr h hit hit0
  generalize l[0] = c at *
  obtain ⟨xa, hxa⟩ : ∃ xa, argsL l = [xa] := by
    match h : argsL l, n1 with
    | [xa], _ => exact ⟨xa, rfl⟩
  have HA : Hid (∀ x W, TermAt W x xa → Calls Tryd.prog 31 #[x] W fun e w' => e = .returned (.bool (simpleS xa)) ∧ Below W.heap.size W w') := fun x W hx => HSIM.out xa (by rw [hxa]; simp) x W hx
  rw [hxa] at Ha HG
  have HG' : Hid (guardS l = (one4 c.t.toList && simpleS xa)) := by
    show guardS l = _
    rw [HG.out]; unfold refGuardA; simp
  clear HSUM HSIM n1 HG hxa
  generalize hga : guardS l = ga at *
  clear hga
  go_enter Tryd.func11, Tryd.ntmps11
  go_wp2_with fail
  refine H26.mono ?_
  rintro e w1 ⟨rfl, hb⟩
  obtain ⟨b, o, cap, rfl, _⟩ := HCL.out _ hb
  go_wp2_with fail
  refine (Ht _ hb).mono ?_
  rintro e w' ⟨rfl, hw'⟩
  obtain rfl := hw'.symm
  go_wp2_with fail
  refine (Ha _ hb).mono ?_
  rintro e w2 ⟨u, rfl, hR, hb2⟩
  have hb2' := hb.trans (hb2.mono hb.size)
  obtain ⟨b', o', cap', hv', p1⟩ := HCL.out _ hb2'
  simp only [Value.slice.injEq, Option.some.injEq, Addr.mk.injEq, and_true, true_and] at hv'
  obtain ⟨⟨rfl, rfl⟩, rfl⟩ := hv'
  obtain ⟨bu, ou, cu, x0, hu, cx0, ht0, hbu⟩ := row_at hR 0 (by simp)
  subst hu
  rw [Nat.add_zero] at cx0
  have H0 := HA.out x0 _ ht0
  clear ht0 hR
  cases q1 : (c.t.toList == [105, 110, 116, 101, 103, 101, 114])
  rotate_left
  · have hS : Hid (ga = simpleS xa) := by
      show ga = _
      rw [HG'.out]; unfold one4; simp only [q1]; simp
    go_wp2_with fail
    refine H0.mono ?_
    rintro e w3 ⟨rfl, hb3⟩
    go_wp2_with fail
    go_ret
    exact ⟨by rw [hS.out]; rfl, hb2'.trans (hb3.mono hb2'.size)⟩
  cases q2 : (c.t.toList == [97, 116, 111, 109])
  rotate_left
  · have hS : Hid (ga = simpleS xa) := by
      show ga = _
      rw [HG'.out]; unfold one4; simp only [q1, q2]; simp
    go_wp2_with fail
    refine H0.mono ?_
    rintro e w3 ⟨rfl, hb3⟩
    go_wp2_with fail
    go_ret
    exact ⟨by rw [hS.out]; rfl, hb2'.trans (hb3.mono hb2'.size)⟩
  cases q3 : (c.t.toList == [99, 111, 109, 112, 111, 117, 110, 100])
  rotate_left
  · have hS : Hid (ga = simpleS xa) := by
      show ga = _
      rw [HG'.out]; unfold one4; simp only [q1, q2, q3]; simp
    go_wp2_with fail
    refine H0.mono ?_
    rintro e w3 ⟨rfl, hb3⟩
    go_wp2_with fail
    go_ret
    exact ⟨by rw [hS.out]; rfl, hb2'.trans (hb3.mono hb2'.size)⟩
  cases q4 : (c.t.toList == [107, 110, 111, 119, 110])
  rotate_left
  · have hS : Hid (ga = simpleS xa) := by
      show ga = _
      rw [HG'.out]; unfold one4; simp only [q1, q2, q3, q4]; simp
    go_wp2_with fail
    refine H0.mono ?_
    rintro e w3 ⟨rfl, hb3⟩
    go_wp2_with fail
    go_ret
    exact ⟨by rw [hS.out]; rfl, hb2'.trans (hb3.mono hb2'.size)⟩
  have hS : Hid (ga = false) := by
    show ga = _
    rw [HG'.out]; unfold one4; simp only [q1, q2, q3, q4]; simp
  go_wp2_with fail
  go_ret
  exact ⟨by rw [hS.out]; rfl, hb2'⟩
set_option maxRecDepth 100000 in
set_option maxHeartbeats 8000000 in
theorem k11_two (l : List C) (v : Value) (w : World) (h : TermAt w v l) (hr : rightB l = true) (hit0 : isTrueS l = false) (n2 : (argsL l).length = 2) :
    Calls Tryd.prog 11 #[v] w fun e w' => e = .returned (.bool (guardS l)) ∧ Below w.heap.size w w' := by
  have H26 := c23 l v w h
  have h1 : 0 < l.length := (right_len hr).1
  rw [hr] at H26
  have HT : Hid (TermAt w v l) := h
  have HG : Hid (guardS l = refGuardA (isTrueS l) (headC l).t.toList (argsL l)) := guard_eq hr
  rw [headC_get h1, hit0] at HG
  have Ht := fun W (hW : Below w.heap.size w W) => c29 l v tTrue 0 W (HT.out.below hW)
  have Ha := fun W (hW : Below w.heap.size w W) => c27 l v W (HT.out.below hW)
  have HSUM : Hid (∀ a ∈ argsL l, ∀ x W, TermAt W x a → Calls Tryd.prog 27 #[x] W fun e w' => e = .returned (.bool (sumAll a)) ∧ Below W.heap.size W w') := fun a ha x W hx => k27 _ a x W (Nat.le_refl _) hx (arg_right hr ha)
  have HSIM : Hid (∀ a ∈ argsL l, ∀ x W, TermAt W x a → Calls Tryd.prog 31 #[x] W fun e w' => e = .returned (.bool (simpleS a)) ∧ Below W.heap.size W w') := fun a ha x W hx => k31 a x W hx (right_len (arg_right hr ha)).1
  have HCL : Hid (∀ W, Below w.heap.size w W → ∃ b o cap, v = .slice (some ⟨b, o, none⟩) l.length cap ∧ W.cell? ⟨b, o + 1, none⟩ = some (.string l[0].t)) := fun W hW => by
    obtain ⟨_, h⟩ := HT.out.below hW
    rcases h with ⟨e, _⟩ | ⟨b, o, cap, e, _, _, h3, _⟩
    · rw [e] at h1; simp at h1
    · obtain ⟨p0, p1, p2, p3, p4⟩ := term_cells h3 0 h1
      simp only [Nat.zero_mul, Nat.add_zero] at p0 p1 p2 p3 p4
      exact ⟨b, o, cap, e, p1⟩
  have h1' : (0 : Int) < (l.length : Int) := by omega
  have hit : isTrueS l = isB l tTrue 0 := rfl
  rw [hit] at hit0
  rw [hit0] at Ht
  simp only [tTrue] at Ht
  clear hr h hit hit0
  generalize l[0] = c at *
  obtain ⟨xa, xb, hxa⟩ : ∃ xa xb, argsL l = [xa, xb] := by
    match h : argsL l, n2 with
    | [xa, xb], _ => exact ⟨xa, xb, rfl⟩
  have HA : Hid (∀ x W, TermAt W x xa → Calls Tryd.prog 31 #[x] W fun e w' => e = .returned (.bool (simpleS xa)) ∧ Below W.heap.size W w') := fun x W hx => HSIM.out xa (by rw [hxa]; simp) x W hx
  have HB : Hid (∀ x W, TermAt W x xb → Calls Tryd.prog 31 #[x] W fun e w' => e = .returned (.bool (simpleS xb)) ∧ Below W.heap.size W w') := fun x W hx => HSIM.out xb (by rw [hxa]; simp) x W hx
  have HA2 : Hid (∀ x W, TermAt W x xa → Calls Tryd.prog 27 #[x] W fun e w' => e = .returned (.bool (sumAll xa)) ∧ Below W.heap.size W w') := fun x W hx => HSUM.out xa (by rw [hxa]; simp) x W hx
  have HB2 : Hid (∀ x W, TermAt W x xb → Calls Tryd.prog 27 #[x] W fun e w' => e = .returned (.bool (sumAll xb)) ∧ Below W.heap.size W w') := fun x W hx => HSUM.out xb (by rw [hxa]; simp) x W hx
  rw [hxa] at Ha HG
  have HG' : Hid (guardS l = if cmp6 c.t.toList then sumAll xa && sumAll xb else if eq2 c.t.toList then simpleS xa && simpleS xb else false) := by
    show guardS l = _
    rw [HG.out]; unfold refGuardA; simp
  clear HSUM HSIM n2 HG hxa
  generalize hga : guardS l = ga at *
  clear hga
  go_enter Tryd.func11, Tryd.ntmps11
  go_wp2_with fail
  refine H26.mono ?_
  rintro e w1 ⟨rfl, hb⟩
  obtain ⟨b, o, cap, rfl, _⟩ := HCL.out _ hb
  go_wp2_with fail
  refine (Ht _ hb).mono ?_
  rintro e w' ⟨rfl, hw'⟩
  obtain rfl := hw'.symm
  go_wp2_with fail
  refine (Ha _ hb).mono ?_
  rintro e w2 ⟨u, rfl, hR, hb2⟩
  have hb2' := hb.trans (hb2.mono hb.size)
  obtain ⟨b', o', cap', hv', p1⟩ := HCL.out _ hb2'
  simp only [Value.slice.injEq, Option.some.injEq, Addr.mk.injEq, and_true, true_and] at hv'
  obtain ⟨⟨rfl, rfl⟩, rfl⟩ := hv'
  obtain ⟨bu, ou, cu, x0, hu, cx0, ht0, hbu⟩ := row_at hR 0 (by simp)
  obtain ⟨bu', ou', cu', x1, hu', cx1, ht1, hbu'⟩ := row_at hR 1 (by simp)
  subst hu
  simp only [Value.slice.injEq, Option.some.injEq, Addr.mk.injEq, and_true, true_and] at hu'
  obtain ⟨⟨rfl, rfl⟩, rfl⟩ := hu'
  rw [Nat.add_zero] at cx0
  have HT0 : Hid (TermAt w2 x0 xa) := ht0
  have HT1 : Hid (TermAt w2 x1 xb) := ht1
  have hbu2 : Hid (bu < w2.heap.size) := hbu
  clear ht0 ht1 hR hbu hbu'
  cases q1 : (c.t.toList == [60])
  rotate_left
  · have hS : Hid (ga = (sumAll xa && sumAll xb)) := by
      show ga = _
      rw [HG'.out]; unfold cmp6 eq2; simp only [q1]; simp
    have H0 := HA2.out x0 _ HT0.out
    have H1 : Hid (∀ W, Below w2.heap.size w2 W → _) := fun W (hW : Below w2.heap.size w2 W) => HB2.out x1 W (HT1.out.below hW)
    go_wp2_with fail
    refine H0.mono ?_
    rintro e w3 ⟨rfl, hb3⟩
    have c1 : w3.cell? ⟨bu, ou + 1, none⟩ = some x1 := (hb3.cell (p := ⟨bu, ou + 1, none⟩) hbu2.out).trans cx1
    have H1' := H1.out _ hb3
    clear H0
    cases hsa : sumAll xa
    · rw [hsa] at hS
      go_wp2_with fail
      go_ret
      exact ⟨by rw [hS.out]; rfl, hb2'.trans (hb3.mono hb2'.size)⟩
    · rw [hsa] at hS
      go_wp2_with fail
      refine H1'.mono ?_
      rintro e w4 ⟨rfl, hb4⟩
      go_wp2_with fail
      go_ret
      exact ⟨by rw [hS.out]; rfl, hb2'.trans ((hb3.trans (hb4.mono hb3.size)).mono hb2'.size)⟩
  cases q2 : (c.t.toList == [61, 60])
  rotate_left
  · have hS : Hid (ga = (sumAll xa && sumAll xb)) := by
      show ga = _
      rw [HG'.out]; unfold cmp6 eq2; simp only [q1, q2]; simp
    have H0 := HA2.out x0 _ HT0.out
    have H1 : Hid (∀ W, Below w2.heap.size w2 W → _) := fun W (hW : Below w2.heap.size w2 W) => HB2.out x1 W (HT1.out.below hW)
    go_wp2_with fail
    refine H0.mono ?_
    rintro e w3 ⟨rfl, hb3⟩
    have c1 : w3.cell? ⟨bu, ou + 1, none⟩ = some x1 := (hb3.cell (p := ⟨bu, ou + 1, none⟩) hbu2.out).trans cx1
    have H1' := H1.out _ hb3
    clear H0
    cases hsa : sumAll xa
    · rw [hsa] at hS
      go_wp2_with fail
      go_ret
      exact ⟨by rw [hS.out]; rfl, hb2'.trans (hb3.mono hb2'.size)⟩
    · rw [hsa] at hS
      go_wp2_with fail
      refine H1'.mono ?_
      rintro e w4 ⟨rfl, hb4⟩
      go_wp2_with fail
      go_ret
      exact ⟨by rw [hS.out]; rfl, hb2'.trans ((hb3.trans (hb4.mono hb3.size)).mono hb2'.size)⟩
  cases q3 : (c.t.toList == [62])
  rotate_left
  · have hS : Hid (ga = (sumAll xa && sumAll xb)) := by
      show ga = _
      rw [HG'.out]; unfold cmp6 eq2; simp only [q1, q2, q3]; simp
    have H0 := HA2.out x0 _ HT0.out
    have H1 : Hid (∀ W, Below w2.heap.size w2 W → _) := fun W (hW : Below w2.heap.size w2 W) => HB2.out x1 W (HT1.out.below hW)
    go_wp2_with fail
    refine H0.mono ?_
    rintro e w3 ⟨rfl, hb3⟩
    have c1 : w3.cell? ⟨bu, ou + 1, none⟩ = some x1 := (hb3.cell (p := ⟨bu, ou + 1, none⟩) hbu2.out).trans cx1
    have H1' := H1.out _ hb3
    clear H0
    cases hsa : sumAll xa
    · rw [hsa] at hS
      go_wp2_with fail
      go_ret
      exact ⟨by rw [hS.out]; rfl, hb2'.trans (hb3.mono hb2'.size)⟩
    · rw [hsa] at hS
      go_wp2_with fail
      refine H1'.mono ?_
      rintro e w4 ⟨rfl, hb4⟩
      go_wp2_with fail
      go_ret
      exact ⟨by rw [hS.out]; rfl, hb2'.trans ((hb3.trans (hb4.mono hb3.size)).mono hb2'.size)⟩
  cases q4 : (c.t.toList == [62, 61])
  rotate_left
  · have hS : Hid (ga = (sumAll xa && sumAll xb)) := by
      show ga = _
      rw [HG'.out]; unfold cmp6 eq2; simp only [q1, q2, q3, q4]; simp
    have H0 := HA2.out x0 _ HT0.out
    have H1 : Hid (∀ W, Below w2.heap.size w2 W → _) := fun W (hW : Below w2.heap.size w2 W) => HB2.out x1 W (HT1.out.below hW)
    go_wp2_with fail
    refine H0.mono ?_
    rintro e w3 ⟨rfl, hb3⟩
    have c1 : w3.cell? ⟨bu, ou + 1, none⟩ = some x1 := (hb3.cell (p := ⟨bu, ou + 1, none⟩) hbu2.out).trans cx1
    have H1' := H1.out _ hb3
    clear H0
    cases hsa : sumAll xa
    · rw [hsa] at hS
      go_wp2_with fail
      go_ret
      exact ⟨by rw [hS.out]; rfl, hb2'.trans (hb3.mono hb2'.size)⟩
    · rw [hsa] at hS
      go_wp2_with fail
      refine H1'.mono ?_
      rintro e w4 ⟨rfl, hb4⟩
      go_wp2_with fail
      go_ret
      exact ⟨by rw [hS.out]; rfl, hb2'.trans ((hb3.trans (hb4.mono hb3.size)).mono hb2'.size)⟩
  cases q5 : (c.t.toList == [61, 58, 61])
  rotate_left
  · have hS : Hid (ga = (sumAll xa && sumAll xb)) := by
      show ga = _
      rw [HG'.out]; unfold cmp6 eq2; simp only [q1, q2, q3, q4, q5]; simp
    have H0 := HA2.out x0 _ HT0.out
    have H1 : Hid (∀ W, Below w2.heap.size w2 W → _) := fun W (hW : Below w2.heap.size w2 W) => HB2.out x1 W (HT1.out.below hW)
    go_wp2_with fail
    refine H0.mono ?_
    rintro e w3 ⟨rfl, hb3⟩
    have c1 : w3.cell? ⟨bu, ou + 1, none⟩ = some x1 := (hb3.cell (p := ⟨bu, ou + 1, none⟩) hbu2.out).trans cx1
    have H1' := H1.out _ hb3
    clear H0
    cases hsa : sumAll xa
    · rw [hsa] at hS
      go_wp2_with fail
      go_ret
      exact ⟨by rw [hS.out]; rfl, hb2'.trans (hb3.mono hb2'.size)⟩
    · rw [hsa] at hS
      go_wp2_with fail
      refine H1'.mono ?_
      rintro e w4 ⟨rfl, hb4⟩
      go_wp2_with fail
      go_ret
      exact ⟨by rw [hS.out]; rfl, hb2'.trans ((hb3.trans (hb4.mono hb3.size)).mono hb2'.size)⟩
  cases q6 : (c.t.toList == [61, 92, 61])
  rotate_left
  · have hS : Hid (ga = (sumAll xa && sumAll xb)) := by
      show ga = _
      rw [HG'.out]; unfold cmp6 eq2; simp only [q1, q2, q3, q4, q5, q6]; simp
    have H0 := HA2.out x0 _ HT0.out
    have H1 : Hid (∀ W, Below w2.heap.size w2 W → _) := fun W (hW : Below w2.heap.size w2 W) => HB2.out x1 W (HT1.out.below hW)
    go_wp2_with fail
    refine H0.mono ?_
    rintro e w3 ⟨rfl, hb3⟩
    have c1 : w3.cell? ⟨bu, ou + 1, none⟩ = some x1 := (hb3.cell (p := ⟨bu, ou + 1, none⟩) hbu2.out).trans cx1
    have H1' := H1.out _ hb3
    clear H0
    cases hsa : sumAll xa
    · rw [hsa] at hS
      go_wp2_with fail
      go_ret
      exact ⟨by rw [hS.out]; rfl, hb2'.trans (hb3.mono hb2'.size)⟩
    · rw [hsa] at hS
      go_wp2_with fail
      refine H1'.mono ?_
      rintro e w4 ⟨rfl, hb4⟩
      go_wp2_with fail
      go_ret
      exact ⟨by rw [hS.out]; rfl, hb2'.trans ((hb3.trans (hb4.mono hb3.size)).mono hb2'.size)⟩
  cases q7 : (c.t.toList == [101, 113, 117, 97, 108])
  rotate_left
  · have hS : Hid (ga = (simpleS xa && simpleS xb)) := by
      show ga = _
      rw [HG'.out]; unfold cmp6 eq2; simp only [q1, q2, q3, q4, q5, q6, q7]; simp
    have H0 := HA.out x0 _ HT0.out
    have H1 : Hid (∀ W, Below w2.heap.size w2 W → _) := fun W (hW : Below w2.heap.size w2 W) => HB.out x1 W (HT1.out.below hW)
    go_wp2_with fail
    refine H0.mono ?_
    rintro e w3 ⟨rfl, hb3⟩
    have c1 : w3.cell? ⟨bu, ou + 1, none⟩ = some x1 := (hb3.cell (p := ⟨bu, ou + 1, none⟩) hbu2.out).trans cx1
    have H1' := H1.out _ hb3
    clear H0
    cases hsa : simpleS xa
    · rw [hsa] at hS
      go_wp2_with fail
      go_ret
      exact ⟨by rw [hS.out]; rfl, hb2'.trans (hb3.mono hb2'.size)⟩
    · rw [hsa] at hS
      go_wp2_with fail
      refine H1'.mono ?_
      rintro e w4 ⟨rfl, hb4⟩
      go_wp2_with fail
      go_ret
      exact ⟨by rw [hS.out]; rfl, hb2'.trans ((hb3.trans (hb4.mono hb3.size)).mono hb2'.size)⟩
  cases q8 : (c.t.toList == [117, 110, 108, 105, 107, 101])
  rotate_left
  · have hS : Hid (ga = (simpleS xa && simpleS xb)) := by
      show ga = _
      rw [HG'.out]; unfold cmp6 eq2; simp only [q1, q2, q3, q4, q5, q6, q7, q8]; simp
    have H0 := HA.out x0 _ HT0.out
    have H1 : Hid (∀ W, Below w2.heap.size w2 W → _) := fun W (hW : Below w2.heap.size w2 W) => HB.out x1 W (HT1.out.below hW)
    go_wp2_with fail
    refine H0.mono ?_
    rintro e w3 ⟨rfl, hb3⟩
    have c1 : w3.cell? ⟨bu, ou + 1, none⟩ = some x1 := (hb3.cell (p := ⟨bu, ou + 1, none⟩) hbu2.out).trans cx1
    have H1' := H1.out _ hb3
    clear H0
    cases hsa : simpleS xa
    · rw [hsa] at hS
      go_wp2_with fail
      go_ret
      exact ⟨by rw [hS.out]; rfl, hb2'.trans (hb3.mono hb2'.size)⟩
    · rw [hsa] at hS
      go_wp2_with fail
      refine H1'.mono ?_
      rintro e w4 ⟨rfl, hb4⟩
      go_wp2_with fail
      go_ret
      exact ⟨by rw [hS.out]; rfl, hb2'.trans ((hb3.trans (hb4.mono hb3.size)).mono hb2'.size)⟩
  have hS : Hid (ga = false) := by
    show ga = _
    rw [HG'.out]; unfold cmp6 eq2; simp only [q1, q2, q3, q4, q5, q6, q7, q8]; simp
  go_wp2_with fail
  go_ret
  exact ⟨by rw [hS.out]; rfl, hb2'⟩
set_option maxRecDepth 100000 in
set_option maxHeartbeats 8000000 in
theorem k11_more (l : List C) (v : Value) (w : World) (h : TermAt w v l) (hr : rightB l = true) (hit0 : isTrueS l = false) (n1 : (argsL l).length ≠ 1) (n2 : (argsL l).length ≠ 2) :
    Calls Tryd.prog 11 #[v] w fun e w' => e = .returned (.bool (guardS l)) ∧ Below w.heap.size w w' := by
  have H26 := c23 l v w h
  have h1 : 0 < l.length := (right_len hr).1
  rw [hr] at H26
  have HT : Hid (TermAt w v l) := h
  have HG : Hid (guardS l = refGuardA (isTrueS l) (headC l).t.toList (argsL l)) := guard_eq hr
  rw [headC_get h1, hit0] at HG
  have Ht := fun W (hW : Below w.heap.size w W) => c29 l v tTrue 0 W (HT.out.below hW)
  have Ha := fun W (hW : Below w.heap.size w W) => c27 l v W (HT.out.below hW)
  have HSUM : Hid (∀ a ∈ argsL l, ∀ x W, TermAt W x a → Calls Tryd.prog 27 #[x] W fun e w' => e = .returned (.bool (sumAll a)) ∧ Below W.heap.size W w') := fun a ha x W hx => k27 _ a x W (Nat.le_refl _) hx (arg_right hr ha)
  have HSIM : Hid (∀ a ∈ argsL l, ∀ x W, TermAt W x a → Calls Tryd.prog 31 #[x] W fun e w' => e = .returned (.bool (simpleS a)) ∧ Below W.heap.size W w') := fun a ha x W hx => k31 a x W hx (right_len (arg_right hr ha)).1
  have HCL : Hid (∀ W, Below w.heap.size w W → ∃ b o cap, v = .slice (some ⟨b, o, none⟩) l.length cap ∧ W.cell? ⟨b, o + 1, none⟩ = some (.string l[0].t)) := fun W hW => by
    obtain ⟨_, h⟩ := HT.out.below hW
    rcases h with ⟨e, _⟩ | ⟨b, o, cap, e, _, _, h3, _⟩
    · rw [e] at h1; simp at h1
    · obtain ⟨p0, p1, p2, p3, p4⟩ := term_cells h3 0 h1
      simp only [Nat.zero_mul, Nat.add_zero] at p0 p1 p2 p3 p4
      exact ⟨b, o, cap, e, p1⟩
  have h1' : (0 : Int) < (l.length : Int) := by omega
  have hit : isTrueS l = isB l tTrue 0 := rfl
  rw [hit] at hit0
  rw [hit0] at Ht
  simp only [tTrue] at Ht
  clear hr h hit hit0
  generalize l[0] = c at *
  have HG' : Hid (guardS l = false) := by
    show guardS l = _
    rw [HG.out]
    match h : argsL l with
    | [] => rfl
    | [x] => rw [h] at n1; exact absurd rfl n1
    | [x, y] => rw [h] at n2; exact absurd rfl n2
    | x :: y :: z :: r => rfl
  have g1 : (((argsL l).length : Int) == 1) = false := by simp; omega
  have g2 : (((argsL l).length : Int) == 2) = false := by simp; omega
  clear HSUM HSIM n1 n2 HG
  generalize argsL l = rs at *
  generalize hga : guardS l = ga at *
  clear hga
  go_enter Tryd.func11, Tryd.ntmps11
  go_wp2_with fail
  refine H26.mono ?_
  rintro e w1 ⟨rfl, hb⟩
  obtain ⟨b, o, cap, rfl, _⟩ := HCL.out _ hb
  go_wp2_with fail
  refine (Ht _ hb).mono ?_
  rintro e w' ⟨rfl, hw'⟩
  obtain rfl := hw'.symm
  go_wp2_with fail
  refine (Ha _ hb).mono ?_
  rintro e w2 ⟨u, rfl, hR, hb2⟩
  have hb2' := hb.trans (hb2.mono hb.size)
  obtain ⟨b', o', cap', hv', p1⟩ := HCL.out _ hb2'
  simp only [Value.slice.injEq, Option.some.injEq, Addr.mk.injEq, and_true, true_and] at hv'
  obtain ⟨⟨rfl, rfl⟩, rfl⟩ := hv'
  obtain ⟨adu, cpu, hu⟩ := hR.form
  subst hu
  clear hR
  go_wp2_with fail
  go_ret
  exact ⟨by rw [HG'.out]; rfl, hb2'⟩
set_option maxRecDepth 100000 in
theorem k11 (l : List C) (v : Value) (w : World) (h : TermAt w v l) :
    Calls Tryd.prog 11 #[v] w fun e w' => e = .returned (.bool (isGuardS l)) ∧ Below w.heap.size w w' := by
  have H26 := c23 l v w h
  cases hr : rightB l
  · have e : isGuardS l = false := by unfold isGuardS; rw [hr]; rfl
    rw [e]
    rw [hr] at H26
    go_enter Tryd.func11, Tryd.ntmps11
    go_wp2_with fail
    refine H26.mono ?_
    rintro e w' ⟨rfl, hb⟩
    go_wp2_with fail
    go_ret
    exact ⟨rfl, hb⟩
  have e : isGuardS l = guardS l := by unfold isGuardS; rw [hr]; rfl
  rw [e]
  cases hit0 : isTrueS l
  · by_cases n1 : (argsL l).length = 1
    · exact k11_one l v w h hr hit0 n1
    · by_cases n2 : (argsL l).length = 2
      · exact k11_two l v w h hr hit0 n2
      · exact k11_more l v w h hr hit0 n1 n2
  rw [hr] at H26
  have HT : Hid (TermAt w v l) := h
  have hS : Hid (guardS l = true) := by
    show guardS l = _
    rw [guard_eq hr, hit0]; unfold refGuardA; simp
  have Ht := fun W (hW : Below w.heap.size w W) => c29 l v tTrue 0 W (HT.out.below hW)
  have hit : isTrueS l = isB l tTrue 0 := rfl
  rw [hit] at hit0
  rw [hit0] at Ht
  simp only [tTrue] at Ht
  obtain ⟨adv, cpv, hv⟩ := HT.out.form
  subst hv
  clear hr h hit hit0 e
  go_enter Tryd.func11, Tryd.ntmps11
  go_wp2_with fail
  refine H26.mono ?_
  rintro e w1 ⟨rfl, hb⟩
  go_wp2_with fail
  refine (Ht _ hb).mono ?_
  rintro e w' ⟨rfl, hw'⟩
  obtain rfl := hw'.symm
  go_wp2_with fail
  go_ret
  exact ⟨by rw [hS.out]; rfl, hb⟩
end Go.Proofs.YtjaaofedphamlaaDoor
namespace Go.Proofs.YtjaaofedphamlaaDoor
open Go.RowKit
attribute [local go_sem ↓] Go.wp_at_zero Go.wp_at_succ
set_option maxHeartbeats 1000000 in
theorem k52_len (n m c1 c2 : Nat) (a1 a2 : Option Addr) (w : World) (h : ((n : Int) != (m : Int)) = true) :
    Calls Tryd.prog 52 #[.slice a1 n c1, .slice a2 m c2] w fun e w' => e = .returned (.bool false) ∧ Below w.heap.size w w' := by
  go_enter Tryd.func52, Tryd.ntmps52
  go_wp2_with fail
  go_ret
  exact ⟨rfl, Below.refl _ _⟩
set_option maxHeartbeats 1000000 in
theorem k52_nil (c1 c2 : Nat) (a1 a2 : Option Addr) (w : World) :
    Calls Tryd.prog 52 #[.slice a1 0 c1, .slice a2 0 c2] w fun e w' => e = .returned (.bool true) ∧ Below w.heap.size w w' := by
  go_enter Tryd.func52, Tryd.ntmps52
  go_wp2_with fail
  refine wp_loop_rounds 1 ?_
  rw [rounds_succ]
  go_wp2_with fail
  go_ret
  exact ⟨rfl, Below.refl _ _⟩
set_option maxHeartbeats 2000000 in
theorem k52_in (l m : List C) (b1 o1 c1 b2 o2 c2 : Nat) (w : World) (hr1 : w.rangeAt b1 o1 (flat l)) (hr2 : w.rangeAt b2 o2 (flat m)) (hl : l.length = m.length) (hc : l.length ≤ maxLen) (hb1 : b1 < w.heap.size) (hb2 : b2 < w.heap.size) :
    Calls Tryd.prog 52 #[.slice (some ⟨b1, o1, none⟩) l.length c1, .slice (some ⟨b2, o2, none⟩) l.length c2] w fun e w' => e = .returned (.bool (eqT l m)) ∧ Below w.heap.size w w' := by
  unfold maxLen at hc
  have HR1 : Hid (w.rangeAt b1 o1 (flat l)) := hr1
  have HR2 : Hid (w.rangeAt b2 o2 (flat m)) := hr2
  have HL : Hid (l.length = m.length) := hl
  have hne : (((l.length : Nat) : Int) != (l.length : Int)) = false := by simp
  clear hr1 hr2 hl
  go_enter Tryd.func52, Tryd.ntmps52
  go_wp2_with fail
  go_loopw [5] (fun i wr => ∃ k : Nat, k ≤ l.length ∧ i = .int .i64 k ∧ Hid (eqUpto l m k) ∧ Below w.heap.size w wr) (fun i _ => l.length - (intOf i).toNat)
  case atStart => exact ⟨0, by omega, rfl, fun j hj => by omega, Below.refl _ _⟩
  case round =>
    obtain ⟨k, hk, rfl, HU, hbr⟩ := hrel
    by_cases hlt : k < l.length
    · have hlt' : (k : Int) < (l.length : Int) := by omega
      have hk0 : (0 : Int) ≤ (k : Int) := by omega
      have hlm : k < m.length := by rw [← HL.out]; exact hlt
      obtain ⟨p0, p1, p2, p3, p4⟩ := term_cells (range_below HR1.out hb1 hbr) k hlt
      obtain ⟨q0, q1, q2, q3, q4⟩ := term_cells (range_below HR2.out hb2 hbr) k hlm
      have hN := neq60 l[k].k l[k].t l[k].n l[k].vn l[k].vk m[k].k m[k].t m[k].n m[k].vn m[k].vk
      have e1 : eqCells l[k].k l[k].t l[k].n l[k].vn l[k].vk m[k].k m[k].t m[k].n m[k].vn m[k].vk = eqC l[k] m[k] := rfl
      rw [e1] at hN
      clear e1
      cases hq : eqC l[k] m[k]
      · have hF : Hid (eqT l m = false) := eqT_false k hlt hlm hq
        rw [hq] at hN
        clear hq
        go_wp2_with fail
        go_quiet (fail)
        go_wp2_with fail
        go_ret
        exact ⟨by rw [hF.out]; rfl, below_drewN hbr _⟩
      · have hU : Hid (eqUpto l m (k + 1)) := fun j hj h1 h2 => if e : j = k then by subst e; exact hq else HU.out j (by omega) h1 h2
        rw [hq] at hN
        clear hq
        go_wp2_with fail
        go_quiet (fail)
        go_wp2_with fail
        go_roundw
        case rel => exact ⟨k + 1, by omega, by go_num, hU, below_drewN hbr _⟩
        case measure => simp [intOf]; omega
    · have hF : Hid (eqT l m = true) := eqT_true HL.out (by rw [show l.length = k by omega]; exact HU.out)
      have hlt' : ¬ ((k : Int) < (l.length : Int)) := by omega
      go_wp2_with fail
      go_ret
      exact ⟨by rw [hF.out]; rfl, hbr⟩
theorem k52 (l m : List C) (v u : Value) (w : World) (hv : TermAt w v l) (hu : TermAt w u m) :
    Calls Tryd.prog 52 #[v, u] w fun e w' => e = .returned (.bool (eqT l m)) ∧ Below w.heap.size w w' := by
  by_cases hl : l.length = m.length
  · by_cases h0 : l.length = 0
    · obtain ⟨a1, c1, rfl⟩ := hv.form
      obtain ⟨a2, c2, rfl⟩ := hu.form
      have e1 : l = [] := List.eq_nil_of_length_eq_zero h0
      have e2 : m = [] := List.eq_nil_of_length_eq_zero (by omega)
      subst e1 e2
      exact k52_nil c1 c2 a1 a2 w
    · obtain ⟨⟨hc, _⟩, hv⟩ := hv
      obtain ⟨_, hu⟩ := hu
      rcases hv with ⟨e, _⟩ | ⟨b1, o1, c1, rfl, _, _, hr1, hb1⟩
      · rw [e] at h0; simp at h0
      rcases hu with ⟨e, _⟩ | ⟨b2, o2, c2, rfl, _, _, hr2, hb2⟩
      · rw [hl, e] at h0; simp at h0
      rw [← hl]
      exact k52_in l m b1 o1 c1 b2 o2 c2 w hr1 hr2 hl hc hb1 hb2
  · obtain ⟨a1, c1, rfl⟩ := hv.form
    obtain ⟨a2, c2, rfl⟩ := hu.form
    rw [eqT_len hl]
    exact k52_len _ _ c1 c2 a1 a2 w (by simp; omega)
end Go.Proofs.YtjaaofedphamlaaDoor
namespace Go.Proofs.YtjaaofedphamlaaDoor
open Go.RowKit
def markC (j : Nat) : C := ⟨0, ⟨#[]⟩, -700 - (j : Int), 0, 0⟩
def marks : List C := (List.range 9).map markC
def handL (l : List C) : List C := l ++ marks
theorem handL_len (l : List C) : (handL l).length = l.length + 9 := by simp [handL, marks]
theorem handL_lo (l : List C) (k : Nat) (h : k < l.length) (h' : k < (handL l).length) : (handL l)[k] = l[k] := by
  simp [handL, h]
theorem handL_hi (l : List C) (k : Nat) (h : l.length ≤ k) (h' : k < (handL l).length) : (handL l)[k] = markC (k - l.length) := by
  simp [handL, List.getElem_append, marks, Nat.not_lt.2 h]
def HandAt (l : List C) (g q k : Nat) (w : World) : Prop := ∃ xs : List Value, w.ownsRow g 54 5 (.slice (some ⟨g, 0, none⟩) q q) q xs ∧ xs.take (5 * k) = flat ((handL l).take k)
theorem HandAt.dst {l : List C} {g q k : Nat} {w : World} (h : HandAt l g q k w) (i : Nat) (hi : i < q) : (∃ y, w.cell? ⟨g, i * 5, none⟩ = some y) ∧ (∃ y, w.cell? ⟨g, i * 5 + 1, none⟩ = some y) ∧ (∃ y, w.cell? ⟨g, i * 5 + 2, none⟩ = some y) ∧ (∃ y, w.cell? ⟨g, i * 5 + 3, none⟩ = some y) ∧ (∃ y, w.cell? ⟨g, i * 5 + 4, none⟩ = some y) := by
  obtain ⟨xs, h, _⟩ := h
  have hx : ∀ j, j < q * 5 → ∃ y, w.cell? ⟨g, j, none⟩ = some y := fun j hj => by
    rw [h.cellAt j hj, List.getElem?_eq_getElem (by rw [h.1]; exact hj)]
    exact ⟨_, rfl⟩
  exact ⟨hx _ (by omega), hx _ (by omega), hx _ (by omega), hx _ (by omega), hx _ (by omega)⟩
theorem HandAt.fz {l : List C} {g q k : Nat} {w : World} (h : HandAt l g q k w) (j : Nat) : w.frozen? ⟨g, j, none⟩ = false := by
  obtain ⟨xs, h, _⟩ := h
  exact h.frozenAt j
theorem set5 (xs : List Value) (n : Nat) (a b c d e : Value) (h : n + 5 ≤ xs.length) : (((((xs.set n a).set (n + 1) b).set (n + 2) c).set (n + 3) d).set (n + 4) e).take (n + 5) = xs.take n ++ [a, b, c, d, e] := by
  have hp : (xs.take n).length = n := by rw [List.length_take]; omega
  have hd : (xs.drop n).length = xs.length - n := List.length_drop
  have hx := (List.take_append_drop n xs).symm
  generalize xs.take n = p at *
  generalize xs.drop n = r at *
  subst hx
  match r, hd with
  | [], hd => simp at hd; simp at h; omega
  | [_], hd => simp at h; omega
  | [_, _], hd => simp at h; omega
  | [_, _, _], hd => simp at h; omega
  | [_, _, _, _], hd => simp at h; omega
  | x0 :: x1 :: x2 :: x3 :: x4 :: r, _ =>
    subst hp
    simp [List.take_append]
    exact List.take_of_length_le (by omega)
theorem HandAt.put {l : List C} {g q k : Nat} {w : World} (h : HandAt l g q k w) (hq : l.length + 9 = q) (hk : k < q) (c : C) (hc : ∀ h', (handL l)[k]'h' = c) (w0 : World) (B : Nat) (hb : Below B w0 w) (hBg : B ≤ g) (hBw : B ≤ w.heap.size) :
    HandAt l g q (k + 1) (((((w.setCell ⟨g, k * 5, none⟩ (.int .u8 c.k)).setCell ⟨g, k * 5 + 1, none⟩ (.string c.t)).setCell ⟨g, k * 5 + 2, none⟩ (.int .i64 c.n)).setCell ⟨g, k * 5 + 3, none⟩ (.int .i64 c.vn)).setCell ⟨g, k * 5 + 4, none⟩ (.int .i64 c.vk)) ∧
    Below B w0 (((((w.setCell ⟨g, k * 5, none⟩ (.int .u8 c.k)).setCell ⟨g, k * 5 + 1, none⟩ (.string c.t)).setCell ⟨g, k * 5 + 2, none⟩ (.int .i64 c.n)).setCell ⟨g, k * 5 + 3, none⟩ (.int .i64 c.vn)).setCell ⟨g, k * 5 + 4, none⟩ (.int .i64 c.vk)) := by
  obtain ⟨xs, h, ht⟩ := h
  obtain ⟨h1, g1⟩ := h.stored (k * 5) (.int .u8 c.k)
  obtain ⟨h2, g2⟩ := h1.stored (k * 5 + 1) (.string c.t)
  obtain ⟨h3, g3⟩ := h2.stored (k * 5 + 2) (.int .i64 c.n)
  obtain ⟨h4, g4⟩ := h3.stored (k * 5 + 3) (.int .i64 c.vn)
  obtain ⟨h5, g5⟩ := h4.stored (k * 5 + 4) (.int .i64 c.vk)
  have hr : ∀ x, some g = some x → B ≤ x := fun x hx => by cases hx; exact hBg
  have b1 := hb.grown g1 hBw hr
  have z1 := g1.size
  have b2 := b1.grown g2 (by omega) hr
  have z2 := g2.size
  have b3 := b2.grown g3 (by omega) hr
  have z3 := g3.size
  have b4 := b3.grown g4 (by omega) hr
  have z4 := g4.size
  have b5 := b4.grown g5 (by omega) hr
  refine ⟨⟨_, h5, ?_⟩, b5⟩
  have hl := h.1
  have e5 : 5 * (k + 1) = k * 5 + 5 := by omega
  rw [e5, set5 _ _ _ _ _ _ _ (by omega), show k * 5 = 5 * k by omega, ht]
  have hkl : k < (handL l).length := by rw [handL_len]; omega
  rw [List.take_succ_eq_append_getElem hkl, flat_append, hc hkl]
  simp [flat, C.vals]
theorem HandAt.range {l : List C} {g q : Nat} {w : World} (h : HandAt l g q q w) (hq : l.length + 9 = q) : w.rangeAt g 0 (flat (handL l)) ∧ g < w.heap.size := by
  obtain ⟨xs, h, ht⟩ := h
  have hl := h.1
  rw [List.take_of_length_le (by omega), List.take_of_length_le (by rw [handL_len]; omega)] at ht
  subst ht
  refine ⟨fun j v hv => ?_, (h.lt g rfl).2⟩
  have hj := (List.getElem?_eq_some_iff.1 hv).1
  rw [Nat.zero_add, h.cellAt j (by omega)]
  exact hv
set_option maxRecDepth 100000 in
set_option maxHeartbeats 2000000 in
theorem k21 (l : List C) (v : Value) (w : World) (h : TermAt w v l) (hB : 48 * l.length ≤ 140737488355328) :
    Calls Tryd.prog 21 #[v] w fun e w' => ∃ g, e = .returned (.slice (some ⟨g, 0, none⟩) l.length (l.length + 9)) ∧ w'.rangeAt g 0 (flat (handL l)) ∧ g < w'.heap.size ∧ Below w.heap.size w w' := by
  obtain ⟨i0, hi, hz0, hs0, hby⟩ := info60
  have HT : Hid (TermAt w v l) := h
  obtain ⟨adv, cpv, hv⟩ := h.form
  subst hv
  have HF : Hid (0 < l.length → ∃ b o, adv = some ⟨b, o, none⟩ ∧ w.rangeAt b o (flat l) ∧ b < w.heap.size) := fun h0 => by
    rcases HT.out.2 with ⟨rfl, _⟩ | ⟨b, o, cap, hv, _, _, h3, h4⟩
    · simp at h0
    · simp only [Value.slice.injEq] at hv
      exact ⟨b, o, hv.1, h3, h4⟩
  clear h
  generalize hq : l.length + 9 = q at *
  go_enter Tryd.func21, Tryd.ntmps21
  go_wp2_with (at_make; go_loud (refine wpList_make_full _ rfl _ _ 22 rfl w.heap.size 54 i0 (.agg #[.int .u8 0, .string ⟨#[]⟩, .int .i64 0, .int .i64 0, .int .i64 0]) 5 Tryd.underlying22 hi hz0 hs0 .i64 .i64 _ _ q rfl rfl (by go_num) (by go_num) (by rw [hby]; omega) (by unfold maxLen; omega) (Nat.le_refl _) ?_))
  intro w1 hown1 hgrow1
  have hbw1 : Hid (Below w.heap.size w w1) := (Below.refl _ _).grown hgrow1 (Nat.le_refl _) (fun g hg => by cases hg)
  have HO1 : Hid (HandAt l w.heap.size q 0 w1) := ⟨_, hown1, by simp [flat]⟩
  clear hown1 hgrow1
  have hq' : (l.length : Int) ≤ (q : Int) := by omega
  have hqm : q ≤ 9223372036854775807 := by omega
  go_wp2_with fail
  go_loopw [4] (fun i wr => ∃ k : Nat, k ≤ l.length ∧ i = .int .i64 k ∧ Hid (HandAt l w.heap.size q k wr) ∧ Below w.heap.size w wr) (fun i _ => l.length - (intOf i).toNat)
  case atStart => exact ⟨0, by omega, rfl, HO1, hbw1.out⟩
  case round =>
    obtain ⟨k, hk, rfl, HO, hbr⟩ := hrel
    by_cases hlt : k < l.length
    · have hlt' : (k : Int) < (l.length : Int) := by omega
      have hltq : (k : Int) < (q : Int) := by omega
      have hk0 : (0 : Int) ≤ (k : Int) := by omega
      obtain ⟨b, o, rfl, h3, h4⟩ := HF.out (by omega)
      obtain ⟨p0, p1, p2, p3, p4⟩ := term_cells (range_below h3 h4 hbr) k hlt
      obtain ⟨⟨y0, d0⟩, ⟨y1, d1⟩, ⟨y2, d2⟩, ⟨y3, d3⟩, ⟨y4, d4⟩⟩ := HO.out.dst k (by omega)
      have fz := HO.out.fz
      clear h3 h4
      have HP0 := HO.out.put hq (by omega) l[k] (fun h' => handL_lo l k hlt h') w w.heap.size hbr (Nat.le_refl _) hbr.size
      have HP : Hid (_ ∧ _) := HP0
      clear HP0
      go_wp2_with fail
      go_roundw
      case rel => exact ⟨k + 1, by omega, by go_num, HP.out.1, HP.out.2⟩
      case measure => simp [intOf]; omega
    · have hlt' : ¬ ((k : Int) < (l.length : Int)) := by omega
      have hkl : k = l.length := by omega
      clear hlt hlt' hk
      subst hkl
      go_wp2_with fail
      go_loopw [5] (fun i wr => ∃ k : Nat, l.length ≤ k ∧ k ≤ q ∧ i = .int .i64 k ∧ Hid (HandAt l w.heap.size q k wr) ∧ Below w.heap.size w wr) (fun i _ => q - (intOf i).toNat)
      case atStart => exact ⟨l.length, by omega, by omega, rfl, HO, hbr⟩
      case round =>
        obtain ⟨k, hkl, hk, rfl, HO, hbr⟩ := hrel
        by_cases hlt : k < q
        · have hlt' : (k : Int) < (q : Int) := by omega
          have hk0 : (0 : Int) ≤ (k : Int) := by omega
          obtain ⟨⟨y0, d0⟩, ⟨y1, d1⟩, ⟨y2, d2⟩, ⟨y3, d3⟩, ⟨y4, d4⟩⟩ := HO.out.dst k hlt
          have fz := HO.out.fz
          have hmk : markC (k - l.length) = ⟨0, ⟨#[]⟩, -700 - (k : Int) + (l.length : Int), 0, 0⟩ := by
            unfold markC; congr 1; omega
          have HP0 := HO.out.put hq hlt _ (fun h' => (handL_hi l k hkl h').trans hmk) w w.heap.size hbr (Nat.le_refl _) hbr.size
          have HP : Hid (_ ∧ _) := HP0
          clear HP0 hmk
          go_wp2_with fail
          go_roundw
          case rel => exact ⟨k + 1, by omega, by omega, by go_num, HP.out.1, HP.out.2⟩
          case measure => simp [intOf]; omega
        · have hlt' : ¬ ((k : Int) < (q : Int)) := by omega
          have hl0 : (0 : Int) ≤ (l.length : Int) := by omega
          have hkq : k = q := by omega
          clear hlt hlt' hk
          obtain ⟨hR, hG⟩ := (hkq ▸ HO.out : HandAt l w.heap.size q q wr).range hq
          go_wp2_with fail
          go_ret
          exact ⟨w.heap.size, rfl, hR, hG, hbr⟩
end Go.Proofs.YtjaaofedphamlaaDoor
namespace Go.Proofs.YtjaaofedphamlaaDoor
open Go.RowKit
attribute [local go_sem ↓] Go.wp_at_zero Go.wp_at_succ
set_option maxRecDepth 100000 in
theorem k6 (l : List C) (v : Value) (w : World) (h : TermAt w v l) (hB : 48 * l.length ≤ 140737488355328) :
    Calls Tryd.prog 6 #[v] w fun e w' => ∃ g, e = .returned (.slice (some ⟨g, 0, none⟩) l.length (l.length + 9)) ∧ w'.rangeAt g 0 (flat (handL l)) ∧ g < w'.heap.size ∧ Below w.heap.size w w' := by
  have H := k21 l v w h hB
  go_enter Tryd.func6, Tryd.ntmps6
  go_wp2_with fail
  refine H.mono ?_
  rintro e w' ⟨g, rfl, hR, hG, hb⟩
  go_wp2_with fail
  go_ret
  exact ⟨g, rfl, hR, hG, hb⟩
theorem hand_term {l : List C} {w : World} {g : Nat} (hr : w.rangeAt g 0 (flat (handL l))) (hg : g < w.heap.size) (htx : ∀ c ∈ l, c.t.size ≤ maxLen) (hB : 48 * l.length ≤ 140737488355328) :
    TermAt w (.slice (some ⟨g, 0, none⟩) l.length (l.length + 9)) l := by
  refine ⟨⟨by unfold maxLen; omega, htx⟩, .inr ⟨g, 0, l.length + 9, rfl, by omega, by unfold maxLen; omega, fun j v hv => hr j v ?_, hg⟩⟩
  unfold handL
  rw [flat_append, List.getElem?_append_left (List.getElem?_eq_some_iff.1 hv).1]
  exact hv
set_option maxRecDepth 100000 in
set_option maxHeartbeats 2000000 in
theorem k36 (l : List C) (v : Value) (g : Nat) (w : World) (h : TermAt w v l) (hr : w.rangeAt g 0 (flat (handL l))) (hg : g < w.heap.size) (hB : 48 * l.length ≤ 140737488355328) :
    Calls Tryd.prog 36 #[.slice (some ⟨g, 0, none⟩) l.length (l.length + 9), v] w fun e w' => e = .returned (.bool true) ∧ Below w.heap.size w w' := by
  have H52 := k52 l l _ v w (hand_term hr hg h.1.2 hB) h
  rw [eqT_refl] at H52
  have HR : Hid (w.rangeAt g 0 (flat (handL l))) := hr
  obtain ⟨adv, cpv, hv⟩ := h.form
  subst hv
  clear h hr
  generalize hq : l.length + 9 = q at *
  have hq' : (l.length : Int) + 9 = (q : Int) := by omega
  have hqm : (q : Int) ≤ 9223372036854775807 := by omega
  go_enter Tryd.func36, Tryd.ntmps36
  go_wp2_with fail
  refine H52.mono ?_
  rintro e w1 ⟨rfl, hb1⟩
  have hgw : g < w1.heap.size := Nat.lt_of_lt_of_le hg hb1.size
  have HR1 : Hid (w1.rangeAt g 0 (flat (handL l))) := range_below HR.out hg hb1
  go_wp2_with fail
  go_loopw [6] (fun i wr => ∃ k : Nat, l.length ≤ k ∧ k ≤ q ∧ i = .int .i64 k ∧ Below w.heap.size w wr) (fun i _ => q - (intOf i).toNat)
  case atStart => exact ⟨l.length, by omega, by omega, rfl, hb1⟩
  case round =>
    obtain ⟨k, hkl, hk, rfl, hbr⟩ := hrel
    by_cases hlt : k < q
    · have hlt' : (k : Int) < (q : Int) := by omega
      have hk0 : (0 : Int) ≤ (k : Int) := by omega
      have hkh : k < (handL l).length := by rw [handL_len]; omega
      obtain ⟨p0, p1, p2, p3, p4⟩ := term_cells (range_below HR.out hg hbr) k hkh
      have hmk : (handL l)[k] = ⟨0, ⟨#[]⟩, -700 - (k : Int) + (l.length : Int), 0, 0⟩ := by
        rw [handL_hi l k hkl hkh]
        unfold markC; congr 1; omega
      rw [hmk] at p0 p1 p2 p3 p4
      simp only [Nat.zero_add] at p0 p1 p2 p3 p4
      have hN := neq60 0 ⟨#[]⟩ (-700 - (k : Int) + (l.length : Int)) 0 0 0 ⟨#[]⟩ (-700 - (k : Int) + (l.length : Int)) 0 0
      have e1 : eqCells 0 ⟨#[]⟩ (-700 - (k : Int) + (l.length : Int)) 0 0 0 ⟨#[]⟩ (-700 - (k : Int) + (l.length : Int)) 0 0 = true := by simp [eqCells]
      rw [e1] at hN
      clear e1 hmk
      go_wp2_with fail
      go_roundw
      case rel => exact ⟨k + 1, by omega, by omega, by go_num, hbr⟩
      case measure => simp [intOf]; omega
    · have hlt' : ¬ ((k : Int) < (q : Int)) := by omega
      go_wp2_with fail
      go_ret
      exact ⟨rfl, hbr⟩
set_option maxRecDepth 100000 in
theorem k14 (l : List C) (v : Value) (g : Nat) (w : World) (h : TermAt w v l) (hr : w.rangeAt g 0 (flat (handL l))) (hg : g < w.heap.size) (hB : 48 * l.length ≤ 140737488355328) :
    Calls Tryd.prog 14 #[.slice (some ⟨g, 0, none⟩) l.length (l.length + 9), v] w fun e w' => e = .returned (.bool true) ∧ Below w.heap.size w w' := by
  have H := k36 l v g w h hr hg hB
  obtain ⟨adv, cpv, hv⟩ := h.form
  subst hv
  go_enter Tryd.func14, Tryd.ntmps14
  go_wp2_with fail
  refine H.mono ?_
  rintro e w' ⟨rfl, hb⟩
  go_wp2_with fail
  go_ret
  exact ⟨rfl, hb⟩
end Go.Proofs.YtjaaofedphamlaaDoor
namespace Go.Proofs.YtjaaofedphamlaaDoor
open Go.RowKit
theorem handin_term {w : World} {l : List C} {g : Nat} (h0 : l.length ≤ 1000000000000000 ∧ ∀ c ∈ l, c.t.size ≤ maxLen) (hr : w.rangeAt g 0 (flat (handL l))) (hg : g < w.heap.size) : TermAt w (.slice (some ⟨g, 0, none⟩) l.length (l.length + 9)) l := by
  refine ⟨⟨by unfold maxLen; omega, h0.2⟩, .inr ⟨g, 0, l.length + 9, rfl, by omega, by unfold maxLen; omega, ?_, hg⟩⟩
  intro j u hu
  refine hr j u ?_
  have e : flat (handL l) = flat l ++ flat marks := by unfold handL; rw [flat_append]
  rw [e, List.getElem?_append_left (List.getElem?_eq_some_iff.1 hu).1]
  exact hu
set_option maxRecDepth 100000 in
set_option maxHeartbeats 4000000 in
theorem k3 (l : List C) (v : Value) (w : World) (h : TermAt w v l) (hS : Signs w) (hB : 48 * l.length ≤ 140737488355328) :
    Calls Tryd.prog 3 #[v] w fun e w' => e = .returned (.bool true) ∧ Below w.heap.size w w' := by
  have HT : Hid (TermAt w v l) := h
  have HS : Hid (Signs w) := hS
  have HL : Hid (48 * l.length ≤ 140737488355328) := hB
  have H6 := k6 l v w h hB
  obtain ⟨ad, cap, hv⟩ := h.form
  subst hv
  clear h hS hB
  go_enter Tryd.func3, Tryd.ntmps3
  go_wp2_with fail
  refine H6.mono ?_
  rintro e w1 ⟨g, rfl, hr, hg, hb1⟩
  have HIn : Hid (∀ W, Below w1.heap.size w1 W → TermAt W (.slice (some ⟨g, 0, none⟩) l.length (l.length + 9)) l) := fun W hW => (handin_term ⟨by have := HL.out; omega, HT.out.1.2⟩ hr hg).below hW
  have HR : Hid (∀ W, Below w1.heap.size w1 W → W.rangeAt g 0 (flat (handL l)) ∧ g < W.heap.size) := fun W hW => ⟨range_below hr hg hW, Nat.lt_of_lt_of_le hg hW.size⟩
  have HT1 : Hid (∀ W, Below w1.heap.size w1 W → TermAt W (.slice ad l.length cap) l ∧ Signs W ∧ Below w.heap.size w W) := fun W hW => ⟨HT.out.below (hb1.trans (hW.mono hb1.size)), HS.out.below (hb1.trans (hW.mono hb1.size)), hb1.trans (hW.mono hb1.size)⟩
  have H7 := k7 w1 (HS.out.below hb1)
  clear hr hg H6 hb1 HS HT
  go_wp2_with fail
  refine H7.mono ?_
  rintro e w2 ⟨rfl, hb2⟩
  have H8 := k8 l _ w2 (HIn.out _ hb2) (HT1.out _ hb2).2.1
  generalize hs : isSumS l = s at *
  clear H7
  go_wp2_with fail
  refine H8.mono ?_
  rintro e w3 ⟨rfl, hb3⟩
  have hb3' := hb2.trans (hb3.mono hb2.size)
  have H9 := k9 l _ w3 (HT1.out _ hb3').1
  rw [hs] at H9
  clear H8 hb3 hb2 hs
  go_wp2_with fail
  refine H9.mono ?_
  rintro e w4 ⟨rfl, hb4⟩
  have hb4' := hb3'.trans (hb4.mono hb3'.size)
  have hq : (s == s) = true := by simp
  have H10 := k10 l _ w4 (HIn.out _ hb4') (HT1.out _ hb4').2.1
  generalize hgd : isGuardS l = gd at *
  clear H9 hb4 hb3'
  go_wp2_with fail
  refine H10.mono ?_
  rintro e w5 ⟨rfl, hb5⟩
  have hb5' := hb4'.trans (hb5.mono hb4'.size)
  have H11 := k11 l _ w5 (HT1.out _ hb5').1
  rw [hgd] at H11
  clear H10 hb5 hb4' hgd
  go_wp2_with fail
  refine H11.mono ?_
  rintro e w6 ⟨rfl, hb6⟩
  have hb6' := hb5'.trans (hb6.mono hb5'.size)
  have hq2 : (gd == gd) = true := by simp
  have H12 := k12 l _ w6 (HIn.out _ hb6') (HT1.out _ hb6').2.1
  generalize hgl : isGoalS l = gl at *
  clear H11 hb6 hb5'
  go_wp2_with fail
  refine H12.mono ?_
  rintro e w7 ⟨rfl, hb7⟩
  have hb7' := hb6'.trans (hb7.mono hb6'.size)
  have H13 := k13 l _ w7 (HT1.out _ hb7').1
  rw [hgl] at H13
  clear H12 hb7 hb6' hgl
  go_wp2_with fail
  refine H13.mono ?_
  rintro e w8 ⟨rfl, hb8⟩
  have hb8' := hb7'.trans (hb8.mono hb7'.size)
  have hq3 : (gl == gl) = true := by simp
  obtain ⟨r1, r2⟩ := HR.out _ hb8'
  have H14 := k14 l _ g w8 (HT1.out _ hb8').1 r1 r2 HL.out
  have HE : Hid (Below w.heap.size w w8) := (HT1.out _ hb8').2.2
  clear H13 hb8 hb7' r1 r2
  go_wp2_with fail
  refine H14.mono ?_
  rintro e w9 ⟨rfl, hb9⟩
  go_wp2_with fail
  go_ret
  exact ⟨rfl, HE.out.trans (hb9.mono HE.out.size)⟩
end Go.Proofs.YtjaaofedphamlaaDoor
