/- The statement DigestProves of layer 6 over this translation: it returns true. -/
import Derived.Test.YtdaoccmhehekaaaDoorLaw06
import Derived.Test.YtdaoccmhehekaaaDoorLaw06P
import Derived.Laws.AppendOwnNone
import Derived.Lib.SmallJoins
namespace Go.Proofs.YtdaoccmhehekaaaDoor
open Go.RowKit Go.PlainAid

/-- append of a slice of texts, wherever it lies, to a row of the call's own. -/
theorem wpList_append_bl {ops : Array Oper} {rest : List Oper} {o : Oper} {a : Act} {Q : Exit → Act → World → Prop} (w : World) (hgd : o.guard = none) (s x : Operand)
    (ho : o.op = .call { callee := .builtin .append, args := #[s, x], argTypes := #[27, 27] })
    (base : Nat) (v : Value) (M : List (List UInt8)) (hs : a.eval s = v) (hown : SR base v M w) (u : Value) (R : List (List UInt8)) (hx : a.eval x = u) (hu : BL u R w)
    (hz : M.length + R.length ≤ 100000) (hbase : base ≤ w.heap.size)
    (h : ∀ v' w', SR base v' (M ++ R) w' → w.grownBy w' v.ownBlock → wpList Tryd.prog ops Q rest (a.put o.dst v') w') : wpList Tryd.prog ops Q (o :: rest) a w := by
  obtain ⟨i0, hi, hz0, hz1, hz2⟩ := info_string
  rcases hu.none_or with ⟨rfl, rfl⟩ | ⟨ad, cap, rfl, _, _, hn⟩
  · refine wpList_append_own_none hgd s x 27 ho base 9 i0 1 Tryd.underlying27 hi v M.length (M.map strB) hs (by rw [hz1] at *; exact hown.row) hx ?_
    exact h v w (by rw [List.append_nil]; exact hown) ⟨rfl, rfl, rfl, Nat.le_refl _, fun _ _ _ => rfl⟩
  · refine wpList_append_own _ hgd s x 27 ho base 9 i0 (.string ⟨#[]⟩) 1 16 Tryd.underlying27 hi hz0 hz1 hz2 rfl (by decide) v M.length (M.map strB) hs hown.row ad R.length cap (R.map strB) hx (by simp) hn (fun y hy => by simp at hy; obtain ⟨q, _, rfl⟩ := hy; rfl) (by unfold maxLen; omega) (by omega) hbase ?_
    intro v' w' h1 h2 h3
    exact h v' w' ⟨by rw [List.length_append, List.map_append]; exact h1, fun e => hown.nn (h3.1 e).1⟩ h2
/-- A text is put into a row. -/
theorem SR.set {B g n cap : Nat} {L : List (List UInt8)} {w : World} (h : SR B (.slice (some ⟨g, 0, none⟩) n cap) L w) (k : Nat) (hk : k < L.length) (x : List UInt8) :
    w.frozen? ⟨g, k, none⟩ = false ∧ w.cell? ⟨g, k, none⟩ = some (strB (L.getD k [])) ∧ BL (.slice (some ⟨g, 0, none⟩) n cap) (L.set k x) (w.setCell ⟨g, k, none⟩ (strB x)) := by
  obtain ⟨g', cap', e, hB, hg, hc, hm, hx⟩ := h.open
  simp only [Value.slice.injEq, Option.some.injEq, Addr.mk.injEq] at e
  obtain ⟨⟨rfl, _⟩, rfl, rfl⟩ := e
  have hfz : w.frozen? ⟨g, k, none⟩ = false := by
    rcases h.row.2 with ⟨h0, _⟩ | ⟨g2, cap2, cur, e2, _, hg2, _⟩
    · cases h0
    · simp only [Value.slice.injEq, Option.some.injEq, Addr.mk.injEq] at e2
      obtain ⟨⟨rfl, _⟩, _, _⟩ := e2
      exact Joins.unfrozen_of_block hg2 k
  refine ⟨hfz, hx k hk, some ⟨g, 0, none⟩, cap, by rw [List.length_set], by rw [List.length_set]; exact hc, hm, (fun h => by cases h), fun j hj => ⟨g, 0, rfl, by simpa [World.setCell] using hg, ?_⟩⟩
  rw [List.length_set] at hj
  rw [Nat.zero_add, getD_setL _ _ _ _ hk]
  by_cases e : j = k
  · subst e
    rw [if_pos rfl]
    exact World.cell?_setCell_same _ _ _ (hx j hj)
  · rw [if_neg e]
    exact (World.cell?_setCell_other _ _ _ _ (fun h => e (congrArg Addr.off h).symm)).trans (hx j hj)

set_option maxHeartbeats 16000000 in
set_option maxRecDepth 100000 in
theorem lawProves_any (v : Value) (L : List (List UInt8)) (i : Int) (d : ByteArray) (w : World) (hv : BL v L w) :
    Calls Tryd.prog 8 #[v, .int .i64 i, .string d] w fun e w' => e = .returned (.bool true) ∧ Below w.heap.size w w' := by
  have c0 := Lib.hid (fun W (hW : Below w.heap.size w W) => alive_any W)
  have b0 := Below.refl w.heap.size w
  obtain ⟨x, rfl⟩ : ∃ l, S l = d := ⟨d.data.toList, rfl⟩
  have zx := S_size x
  obtain ⟨a, cap, rfl, hcap, hmax⟩ := hv.length
  cases hs : smallB L
  · have c1 := Lib.hid (fun W (hW : BL (.slice a L.length cap) L W) => small_call L _ W hW false hs)
    clear hs
    generalize L.length = n at *
    generalize x.length = q at *
    generalize S x = d at *
    go_enter Tryd.func8, Tryd.ntmps8
    go_wp2_with fail
    refine (c0.out _ (by assumption)).mono ?_
    rintro e w1 ⟨rfl, c⟩
    have b1 := b0.trans (c.mono b0.size)
    replace hv := hv.after c
    clear c b0
    go_wp2_with fail
    refine (c1.out _ hv).mono ?_
    rintro e w2 ⟨rfl, c⟩
    have b2 := b1.trans (c.mono b1.size)
    clear c b1
    go_wp2
    go_ret
    exact ⟨rfl, b2⟩
  obtain ⟨h60, h1000⟩ := small_of L hs
  have c1 := Lib.hid (fun W (hW : BL (.slice a L.length cap) L W) => small_call L _ W hW true hs)
  clear hs
  obtain ⟨n, hn⟩ : ∃ n, L.length = n := ⟨_, rfl⟩
  by_cases hx : 1000 < x.length
  · have d1 : decide ((1000 : Int) < (x.length : Int)) = true := by simp; omega
    rw [hn] at c1 hv hcap ⊢
    clear h1000 hn
    generalize x.length = q at *
    generalize S x = d at *
    go_enter Tryd.func8, Tryd.ntmps8
    go_wp2_with fail
    refine (c0.out _ (by assumption)).mono ?_
    rintro e w1 ⟨rfl, c⟩
    have b1 := b0.trans (c.mono b0.size)
    replace hv := hv.after c
    clear c b0
    go_wp2_with fail
    refine (c1.out _ hv).mono ?_
    rintro e w2 ⟨rfl, c⟩
    have b2 := b1.trans (c.mono b1.size)
    clear c b1
    go_wp2
    go_ret
    exact ⟨rfl, b2⟩
  have d1 : decide ((1000 : Int) < (x.length : Int)) = false := by simp; omega
  by_cases hi0 : i < 0
  · have d2 : decide (i < 0) = true := decide_eq_true hi0
    rw [hn] at c1 hv hcap ⊢
    clear h1000 hn
    generalize x.length = q at *
    generalize S x = d at *
    go_enter Tryd.func8, Tryd.ntmps8
    go_wp2_with fail
    refine (c0.out _ (by assumption)).mono ?_
    rintro e w1 ⟨rfl, c⟩
    have b1 := b0.trans (c.mono b0.size)
    replace hv := hv.after c
    clear c b0
    go_wp2_with fail
    refine (c1.out _ hv).mono ?_
    rintro e w2 ⟨rfl, c⟩
    have b2 := b1.trans (c.mono b1.size)
    clear c b1
    go_wp2
    go_ret
    exact ⟨rfl, b2⟩
  have d2 : decide (i < 0) = false := decide_eq_false hi0
  by_cases hin : (n : Int) ≤ i
  · have d3 : decide ((n : Int) ≤ i) = true := decide_eq_true hin
    rw [hn] at c1 hv hcap ⊢
    clear h1000 hn
    generalize x.length = q at *
    generalize S x = d at *
    go_enter Tryd.func8, Tryd.ntmps8
    go_wp2_with fail
    refine (c0.out _ (by assumption)).mono ?_
    rintro e w1 ⟨rfl, c⟩
    have b1 := b0.trans (c.mono b0.size)
    replace hv := hv.after c
    clear c b0
    go_wp2_with fail
    refine (c1.out _ hv).mono ?_
    rintro e w2 ⟨rfl, c⟩
    have b2 := b1.trans (c.mono b1.size)
    clear c b1
    go_wp2
    go_ret
    exact ⟨rfl, b2⟩
  have d3 : decide ((n : Int) ≤ i) = false := decide_eq_false hin
  obtain ⟨k, rfl⟩ : ∃ k : Nat, i = (k : Int) := ⟨i.toNat, by omega⟩
  have hk : k < L.length := by omega
  obtain ⟨h16, hpl⟩ := proofL_texts L k hk
  have hset : ∀ j, j < (L.set k x).length → ((L.set k x).getD j []).length ≤ 1000 := by
    intro j hj
    rw [List.length_set] at hj
    rw [getD_setL _ _ _ _ hk]
    split
    · omega
    · exact h1000 j hj
  have c2 := Lib.hid (fun W (hW : BL (.slice a L.length cap) L W) => pRoot L h60 h1000 _ W hW)
  have c3 := Lib.hid (fun W (hW : BL (.slice a L.length cap) L W) => pProof L h60 h1000 (k : Int) _ W hW _ _ (proofI_in L k hk))
  have c4 := Lib.hid (fun u W (hW : BL u (proofL L k) W) => pCheck (rootL L) (L.getD k []) (h1000 k hk) (k : Int) (L.length : Int) (proofL L k) (by omega) (fun j hj => by rw [h16 j hj]; decide) u W hW true (check_own L (by omega) k hk))
  have c5 := Lib.hid (fun u W (hW : BL u (proofL L k) W) => pCheck (rootL L) x (by omega) (k : Int) (L.length : Int) (proofL L k) (by omega) (fun j hj => by rw [h16 j hj]; decide) u W hW _ (check_other L (by omega) k hk x))
  have c6 := Lib.hid (fun u W (hW : BL u (L.set k x) W) => pRoot (L.set k x) (by rw [List.length_set]; exact h60) hset u W hW)
  have hq := S_eq (rootL (L.set k x)) (rootL L)
  have hSet := Lib.hid (fun (B g m cp : Nat) (W : World) (h : SR B (.slice (some ⟨g, 0, none⟩) m cp) L W) => h.set k hk x)
  have HX := Lib.hid (fun W (hW : BL (.slice a L.length cap) L W) => hW.cell (by omega))
  have hsx : strB x = .string (S x) := rfl
  rw [hsx] at hSet
  clear h16 hpl hset hsx
  obtain ⟨P, hP⟩ : ∃ P, proofL L k = P := ⟨_, rfl⟩
  rw [hP] at c3 c4 c5
  clear hP
  generalize decide (rootL (L.set k x) = rootL L) = bb at *
  generalize S (rootL (L.set k x)) = r2 at *
  generalize S (rootL L) = r1 at *
  obtain ⟨lk, hlk⟩ : ∃ y, S (L.getD k []) = y := ⟨_, rfl⟩
  rw [hlk] at c4
  have HLk := Lib.hid hlk
  clear hlk
  have i1 : (0 : Int) ≤ (k : Int) := by omega
  have i2 : (k : Int) < (n : Int) := by omega
  have HN := Lib.hid hn
  rw [hn] at c1 c2 c3 c4 c5 HX hv hcap ⊢
  clear h1000 hn
  generalize x.length = q at *
  generalize S x = d at *
  go_enter Tryd.func8, Tryd.ntmps8
  go_wp2_with fail
  refine (c0.out _ (by assumption)).mono ?_
  rintro e w1 ⟨rfl, c⟩
  have b1 := b0.trans (c.mono b0.size)
  replace hv := hv.after c
  clear c b0
  go_wp2_with fail
  refine (c1.out _ hv).mono ?_
  rintro e w2 ⟨rfl, c⟩
  have b2 := b1.trans (c.mono b1.size)
  replace hv := hv.after c
  clear c b1
  go_wp2_with fail
  refine (c2.out _ hv).mono ?_
  rintro e w3 ⟨rfl, c⟩
  have b3 := b2.trans (c.mono b2.size)
  replace hv := hv.after c
  clear c b2
  go_wp2_with fail
  refine (c3.out _ hv).mono ?_
  rintro e w4 ⟨vp, rfl, hp, c⟩
  have b4 := b3.trans (c.mono b3.size)
  replace hv := hv.after c
  clear c b3
  have ca := (Below.refl w4.heap.size w4).alloc (Nat.le_refl _) (.cells #[] 9)
  have hva := hv.after ca
  go_wp2_with (at_builtin; refine wpList_append_bl _ rfl _ _ rfl w4.heap.size (.slice (some ⟨w4.heap.size, 0, none⟩) 0 0) [] rfl (SR.empty w4) (.slice a n cap) L rfl hva (by simp; omega) (by simp) ?_; intro v5 w5 hs5 hgrow5)
  rw [List.nil_append] at hs5
  obtain ⟨g5, cp5, rfl, hB5, hg5, _⟩ := hs5.open
  have c5b : Below w4.heap.size w4 w5 := ca.grown hgrow5 (by simp) (fun j hj => by simp [Value.ownBlock] at hj; omega)
  obtain ⟨s1, s2, s3⟩ := hSet.out _ _ _ _ _ hs5
  rw [HN.out] at s3 ⊢
  clear hs5
  have c6b : Below w4.heap.size w4 (w5.setCell ⟨g5, k, none⟩ (.string d)) := c5b.setCell (p := ⟨g5, k, none⟩) hB5 _
  have hv6 := hv.after c6b
  have hp6 := hp.after c6b
  have b6 := b4.trans (c6b.mono b4.size)
  have s2' := s2
  unfold strB at s2'
  clear c5b c6b hva hv hp ca b4 s2
  have i3 : k < n := by omega
  obtain ⟨g, o, cp, he, hg, hcell⟩ := HX.out _ hv6
  obtain ⟨ra, rfl⟩ : ∃ y, a = some y := ⟨⟨g, o, none⟩, by simp only [Value.slice.injEq] at he; exact he.1⟩
  obtain rfl : ra = ⟨g, o, none⟩ := by simp only [Value.slice.injEq, Option.some.injEq] at he; exact he.1
  have hck := hcell k i3
  clear hcell he
  rw [HLk.out] at hck
  go_simp
  go_wp2_with fail
  refine (c4.out _ _ hp6).mono ?_
  rintro e w7 ⟨rfl, c⟩
  have b7 := b6.trans (c.mono b6.size)
  replace hp6 := hp6.after c
  replace s3 := s3.after c
  clear c b6 hck s1 s2'
  go_wp2_with fail
  refine (c5.out _ _ hp6).mono ?_
  rintro e w8 ⟨rfl, c⟩
  have b8 := b7.trans (c.mono b7.size)
  replace s3 := s3.after c
  clear c b7
  go_wp2_with fail
  refine (c6.out _ _ s3).mono ?_
  rintro e w9 ⟨rfl, c⟩
  have b9 := b8.trans (c.mono b8.size)
  clear c b8
  go_wp2
  go_ret
  exact ⟨rfl, b9⟩
end Go.Proofs.YtdaoccmhehekaaaDoor
