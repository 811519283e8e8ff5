import Derived.Test.YtkfboficcdiojaaD11
namespace Go.Proofs.Ytkfboficcdiojaa
open Go.RowKit Go.Arb
set_option linter.unusedVariables false
set_option linter.unusedSimpArgs false

def Se.beforeB (A : Se) (x : Int) : Bool := decide (0 < A.rankI x)
def Se.beforeA (A : Se) (x : Int) : Se := if A.beforeB x then { A with L := A.L.erase (A.seqI x) ++ [(A.seqI x).take (A.rankI x).toNat, (A.seqI x).drop (A.rankI x).toNat] } else A
def Se.joinB (A : Se) (a b : Int) : Bool := (A.hasI a && A.hasI b) && !A.sameI a b
def Se.joinA (A : Se) (a b : Int) : Se := if A.joinB a b then { A with L := (A.L.erase (A.seqI a)).erase (A.seqI b) ++ [A.seqI a ++ A.seqI b] } else A

section
variable {w w' : World} {p g n cap : Nat} {S S' : Ss} {A : Se}
/-- What a list of items that are cut in two is. -/
theorem its_cut {W : Nat → Int} {l : List Nat} {xa xb : List It} {v : Nat} {c : Int} {tl : List It} (hn : l.Nodup) (h : its W l = xa ++ xb) (hb : xb = (v + 1, c) :: tl) : xa = its W (l.take (l.idxOf v)) ∧ xb = its W (l.drop (l.idxOf v)) ∧ l.idxOf v = xa.length ∧ v ∈ l := by
  have hk : l.idxOf v = xa.length := by
    refine idx_of hn ?_
    rw [← ids_its W, h, hb, ids_append, ids_cons, List.getElem?_append_right (by simp [ids])]
    simp [ids]
  have h1 : xa = (its W l).take xa.length := by rw [h]; simp
  have h2 : xb = (its W l).drop xa.length := by rw [h]; simp
  refine ⟨?_, ?_, hk, ?_⟩
  · rw [hk]; conv => lhs; rw [h1]
    simp [its, List.map_take]
  · rw [hk]; conv => lhs; rw [h2]
    simp [its, List.map_drop]
  · have : v + 1 ∈ ids (its W l) := by rw [h, hb, ids_append, ids_cons]; simp
    exact mem_its.1 this
/-- A sequence is replaced by others of the same items. -/
theorem Inv.swap {m : List Nat} {ls : List (List Nat)} (h : Inv S A) (hm : m ∈ A.L) (hp : ls.flatten.Perm m) (hne : ∀ l ∈ ls, l ≠ []) (z : Z S') (off : ∀ u, u ∉ ids (its A.W m) → S' u = S u) (tr : ∀ l ∈ ls, ∃ r, Pt S' r (its A.W l) ∧ (S' r).up = 0) : Inv S' { A with L := A.L.erase m ++ ls } := by
  have hf := flatten_erase hm
  have hfl : A.L.flatten.Perm (A.L.erase m ++ ls).flatten := by
    rw [List.flatten_append]
    exact hf.trans ((List.perm_append_comm).trans (List.Perm.append_left _ hp.symm))
  have hnd := (hf.nodup_iff).1 h.nd
  rw [List.nodup_append] at hnd
  refine ⟨z, (hfl.nodup_iff).1 h.nd, fun l hl => ?_, fun l hl => ?_, fun t ht => ?_, fun u hu => h.lt u (hfl.mem_iff.2 hu), h.n⟩
  · rcases List.mem_append.1 hl with h' | h'
    · exact h.ne l (List.mem_of_mem_erase h')
    · exact hne l h'
  · rcases List.mem_append.1 hl with h' | h'
    · have hl' := List.mem_of_mem_erase h'
      obtain ⟨r, p', u'⟩ := h.tr l hl'
      have hd : ∀ u ∈ l, u ∉ m := fun u hu hu' => hnd.2.2 u hu' u (List.mem_flatten.2 ⟨l, h', hu⟩) rfl
      have hof : ∀ x ∈ ids (its A.W l), x ∉ ids (its A.W m) := fun x hx hy => by
        rw [ids_its] at hx hy
        obtain ⟨v1, hv1, rfl⟩ := List.mem_map.1 hx
        obtain ⟨v2, hv2, e2⟩ := List.mem_map.1 hy
        have : v2 = v1 := by omega
        subst this
        exact hd _ hv1 hv2
      refine ⟨r, p'.frame (by rw [z, h.z]) (nodup_its.2 (nodup_flatten h.nd hl')) (fun x hx => off x (hof x hx)), ?_⟩
      by_cases r0 : r = 0
      · rw [r0, z]; rfl
      · rw [off r (hof r (p'.mem r0))]; exact u'
    · exact tr l h'
  · have ht' : ∀ v ∈ A.L.flatten, v + 1 ≠ t := fun v hv => ht v (hfl.mem_iff.1 hv)
    rw [off t (fun hx => ?_)]
    · exact h.out t ht'
    · rw [ids_its] at hx
      obtain ⟨v, hv, e⟩ := List.mem_map.1 hx
      exact ht' v (List.mem_flatten.2 ⟨m, hm, hv⟩) e

set_option maxHeartbeats 1000000 in
theorem before_nil (x : Int) (w : World) : Calls Try.prog 17 #[.pointer none, .int .i64 x] w fun e w' => e = .returned (.bool false) ∧ w = w' := by
  go_enter Try.func17, Try.ntmps17
  go_wp2_with (go_at_call 33; refine (rank_nil _ _).mono ?_; rintro e w' ⟨rfl, rfl⟩)
  go_ret
  exact ⟨rfl, rfl⟩
set_option maxHeartbeats 4000000 in
theorem before_any (x : Int) (h : PA w p g n cap S A) : Calls Try.prog 17 #[.pointer (some ⟨p, 0, none⟩), .int .i64 x] w fun e w' => e = .returned (.bool (A.beforeB x)) ∧ ∃ g', Chd w w' p g g' (A.beforeA x) := by
  have R := hide (rank_any x h)
  have HH := hide h
  cases hb : A.beforeB x
  · have eA : A.beforeA x = A := by simp [Se.beforeA, hb]
    have hl : A.rankI x ≤ 0 := by simpa [Se.beforeB] using hb
    rw [eA]
    generalize A.rankI x = rk at *
    clear h hb eA
    go_enter Try.func17, Try.ntmps17
    go_wp2_with fail
    refine (unhide R).mono ?_
    rintro e w1 ⟨rfl, hb⟩
    have H1 := hide ((unhide HH).stay hb)
    clear hb
    go_wp2
    go_ret
    exact ⟨rfl, g, unhide H1⟩
  · have hl : 0 < A.rankI x := by simpa [Se.beforeB] using hb
    have hl' : ¬ A.rankI x ≤ 0 := by omega
    cases hh : A.hasI x
    · rw [Se.rankI, hh] at hl; simp at hl
    obtain ⟨v, rfl, hv⟩ := Se.hasI_true hh
    have F := hide (fun W (hW : PA W p g n cap S A) => find_any v hW)
    rw [show A.findI v = v + 1 from by simp [Se.findI, hh]] at F
    obtain ⟨r, t⟩ := h.iv.tree hv
    have CU := hide (fun W (hW : PA W p g n cap S A) => cut_any (v + 1) r _ W p g n cap A.n S hW.po h.iv.z t.pt t.nd t.up t.mem t.len)
    have hm := Se.seq_mem hv
    have er : (A.rankI v).toNat = (A.seq v).idxOf v := by rw [Se.rankI, hh]; simp
    have IV : Hid (∀ S' a b xa xb, Cut S S' (its A.W (A.seq v)) (v + 1) a b xa xb → Inv S' (A.beforeA v)) := by
      intro S' a b xa xb c
      obtain ⟨cc, tl, hd⟩ := c.hd
      obtain ⟨e1, e2, e3, e4⟩ := its_cut (nodup_flatten h.iv.nd hm.1) c.eq hd
      have eA : A.beforeA v = { A with L := A.L.erase (A.seq v) ++ [(A.seq v).take ((A.seq v).idxOf v), (A.seq v).drop ((A.seq v).idxOf v)] } := by rw [Se.beforeA, if_pos hb, Se.seqI_nat hv, er]
      rw [eA]
      refine h.iv.swap hm.1 (by simp) ?_ c.z c.off ?_
      · intro l hl
        simp at hl
        rcases hl with rfl | rfl
        · intro e
          have : ((A.seq v).take ((A.seq v).idxOf v)).length = 0 := by rw [e]; rfl
          have hlt := List.idxOf_lt_length_of_mem e4
          rw [List.length_take] at this
          omega
        · intro e
          rw [e] at e2
          rw [hd] at e2
          simp [its] at e2
      · intro l hl
        simp at hl
        rcases hl with rfl | rfl
        · refine ⟨a, by rw [← e1]; exact c.pa, ?_⟩
          by_cases a0 : a = 0
          · rw [a0, c.z]; rfl
          · exact c.ua a0
        · refine ⟨b, by rw [← e2]; exact c.pb, ?_⟩
          by_cases b0 : b = 0
          · rw [b0, c.z]; rfl
          · exact c.ub b0
    have NN := hide (And.intro (show (A.beforeA v).n = A.n by simp [Se.beforeA, hb]) (And.intro h.n0 h.nn))
    clear h hh hv t hm er hl hb
    generalize A.beforeA v = A' at *
    generalize A.rankI v = rk at *
    go_enter Try.func17, Try.ntmps17
    go_wp2_with fail
    refine (unhide R).mono ?_
    rintro e w1 ⟨rfl, hb⟩
    have H1 := hide (And.intro ((unhide HH).below hb) (Keep.ofBelow hb [g]))
    clear hb R
    go_wp2_with fail
    refine (unhide F _ (unhide H1).1).mono ?_
    rintro e w' ⟨rfl, rfl⟩
    go_wp2_with fail
    refine (unhide CU _ (unhide H1).1).mono ?_
    rintro e w2 ⟨rfl, S', a, b, xa, xb, hP, hK, hc⟩
    have X := hide (And.intro hP (And.intro ((unhide H1).2.tr hK) (unhide IV S' a b xa xb hc)))
    clear hP hK hc CU IV F
    go_wp2
    go_ret
    obtain ⟨x1, x2, x3⟩ := unhide X
    obtain ⟨y1, y2, y3⟩ := unhide NN
    refine ⟨rfl, g, ?_⟩
    exact Chd.mk ⟨n, cap, S', ⟨by rw [y1]; exact x1, x3, y2, by rw [y1]; exact y3⟩⟩ (x2.mono (by simp)) (.inl rfl)
set_option maxHeartbeats 1000000 in
theorem find_raw (v room : Nat) (h : Pool w p g n cap room S) (hv : v + 1 < n) (hh : (S (v + 1)).h ≠ 0) (hn : n ≤ 4194305) : Calls Try.prog 51 #[.pointer (some ⟨p, 0, none⟩), .int .i64 (v : Int)] w fun e w' => e = .returned (.int .i64 ((v : Int) + 1)) ∧ w = w' := by
  obtain ⟨_, c1, _, _, k1, k2⟩ := h.head
  have hnb : (n : Int) ≤ 4194305 := by omega
  have g1 : ¬ (n : Int) - 1 ≤ (v : Int) := by omega
  have g2 : (0 : Int) ≤ (v : Int) + 1 := by omega
  have g3 : (v : Int) + 1 < (n : Int) := by omega
  obtain ⟨_, _, _, e3, _⟩ := h.slot (t := v + 1) hv
  generalize (S (v + 1)).h = hh' at *
  have hh2 : ((hh' : Int) == 0) = false := by rw [beq_eq_false_iff_ne]; omega
  clear h hh
  go_enter Try.func51, Try.ntmps51
  go_wp2
  go_ret
  exact ⟨rfl, rfl⟩
end
end Go.Proofs.Ytkfboficcdiojaa
