/- PlainRoots: a node made the root leaves its tree the same nodes, weights and ways. -/
import Derived.Test.YtjnkgakajenoaaaL11
namespace Go.Proofs.Ytjnkgakajenoaaa
open Go.RowKit Go.Arb
set_option linter.unusedVariables false
set_option linter.unusedSimpArgs false
def inV (f : Nat → Int) : Nat → Value := fun x => .int .i64 (f x)
theorem inV_set (P : Nat → Int) (i : Nat) (k : Int) : (fun j => if j = i then Value.int .i64 k else inV P j) = inV (updF P i k) := by
  funext j
  by_cases e : j = i
  · simp [e, inV, updF]
  · simp [e, inV, updF]


abbrev A48 : Array Value := #[.int .i64 0, .int .i64 0, .int .i64 0, .int .i64 0, .int .i64 0, .int .i64 0, .int .i64 0, .int .i64 0, .int .i64 0, .int .i64 0, .int .i64 0, .int .i64 0, .int .i64 0, .int .i64 0, .int .i64 0, .int .i64 0, .int .i64 0, .int .i64 0, .int .i64 0, .int .i64 0, .int .i64 0, .int .i64 0, .int .i64 0, .int .i64 0, .int .i64 0, .int .i64 0, .int .i64 0, .int .i64 0, .int .i64 0, .int .i64 0]
abbrev A50 : Array Value := #[.bool false, .bool false, .bool false, .bool false, .bool false, .bool false, .bool false, .bool false, .bool false, .bool false, .bool false, .bool false, .bool false, .bool false, .bool false, .bool false, .bool false, .bool false, .bool false, .bool false, .bool false, .bool false, .bool false, .bool false, .bool false, .bool false, .bool false, .bool false, .bool false, .bool false]
def boV (f : Nat → Bool) : Nat → Value := fun x => .bool (f x)
def smP (o : Nat) (s : Sm) : Int := if o = 0 then s.c else if o = 1 then s.s else if o = 2 then s.a else s.b
def smR (f : Nat → Sm) : Nat → Value := fun o => .int .i64 (smP (o % 4) (f (o / 4)))
theorem boV_set (P : Nat → Bool) (i : Nat) (k : Bool) : (fun j => if j = i then Value.bool k else boV P j) = boV (updF P i k) := by
  funext j
  by_cases e : j = i
  · simp [e, boV, updF]
  · simp [e, boV, updF]
theorem smR_set (f : Nat → Sm) (m : Nat) (x : Sm) : (fun j => if j = m * 4 + 3 then Value.int .i64 x.b else if j = m * 4 + 2 then Value.int .i64 x.a else if j = m * 4 + 1 then Value.int .i64 x.s else if j = m * 4 then Value.int .i64 x.c else smR f j) = smR (updF f m x) := by
  funext j
  unfold smR
  by_cases h : j / 4 = m
  · have e : updF f m x (j / 4) = x := by rw [h, updF_same]
    rw [e]
    have hj : j = m * 4 + j % 4 := by omega
    have hj4 : j % 4 < 4 := by omega
    generalize j % 4 = r at *
    unfold smP
    by_cases h0 : r = 0
    · subst h0; simp [hj]
    · by_cases h1 : r = 1
      · subst h1; simp [hj]
      · by_cases h2 : r = 2
        · subst h2; simp [hj]
        · have : r = 3 := by omega
          subst this; simp [hj]
  · rw [updF_other _ _ h, if_neg (by omega), if_neg (by omega), if_neg (by omega), if_neg (by omega)]
theorem smR_at (f : Nat → Sm) (m : Nat) : smR f (m * 4) = .int .i64 (f m).c ∧ smR f (m * 4 + 1) = .int .i64 (f m).s ∧ smR f (m * 4 + 2) = .int .i64 (f m).a ∧ smR f (m * 4 + 3) = .int .i64 (f m).b := by
  have h : ∀ r, r < 4 → (m * 4 + r) / 4 = m ∧ (m * 4 + r) % 4 = r := fun r hr => by omega
  refine ⟨?_, ?_, ?_, ?_⟩ <;> unfold smR smP
  · have := h 0 (by omega); rw [Nat.add_zero] at this; simp [this]
  · have := h 1 (by omega); simp [this]
  · have := h 2 (by omega); simp [this]
  · have := h 3 (by omega); simp [this]
theorem rows3 (W : World) : (((W.alloc (.cells A48 48)).alloc (.cells Try.zeroCells49 49)).alloc (.cells A50 50)).rowIs W.heap.size 48 30 (inV fun _ => 0) ∧ (((W.alloc (.cells A48 48)).alloc (.cells Try.zeroCells49 49)).alloc (.cells A50 50)).rowIs (W.heap.size + 1) 49 120 (smR fun _ => zero) ∧ (((W.alloc (.cells A48 48)).alloc (.cells Try.zeroCells49 49)).alloc (.cells A50 50)).rowIs (W.heap.size + 1 + 1) 50 30 (boV fun _ => false) := by
  have e1 : A48 = Array.replicate 30 (.int .i64 0) := rfl
  have e2 : Try.zeroCells49 = Array.replicate 120 (.int .i64 0) := by kernel_rfl
  have e3 : A50 = Array.replicate 30 (.bool false) := rfl
  have z : ∀ o, smR (fun _ => zero) o = .int .i64 0 := fun o => by unfold smR smP zero; simp
  refine ⟨?_, ?_, ?_⟩
  · refine World.rowIs.alloc (World.rowIs.alloc ?_ _) _
    exact ⟨_, heap_alloc_new _ _, rfl, fun i hi => by rw [e1, Array.getElem?_replicate, if_pos hi]; rfl⟩
  · refine World.rowIs.alloc ?_ _
    have := heap_alloc_new (W.alloc (.cells A48 48)) (.cells Try.zeroCells49 49)
    rw [show (W.alloc (.cells A48 48)).heap.size = W.heap.size + 1 from by simp] at this
    exact ⟨_, this, by rw [e2]; simp, fun i hi => by rw [e2, Array.getElem?_replicate, if_pos hi, z]⟩
  · have := heap_alloc_new ((W.alloc (.cells A48 48)).alloc (.cells Try.zeroCells49 49)) (.cells A50 50)
    rw [show ((W.alloc (.cells A48 48)).alloc (.cells Try.zeroCells49 49)).heap.size = W.heap.size + 1 + 1 from by simp] at this
    exact ⟨_, this, rfl, fun i hi => by rw [e3, Array.getElem?_replicate, if_pos hi]; rfl⟩
theorem ob3 {w W : World} {p : Nat} {T : Tr} (h : Ob w W p T []) (o1 o2 o3 : Obj) : Ob w (((W.alloc o1).alloc o2).alloc o3) p T [W.heap.size + 1 + 1, W.heap.size + 1, W.heap.size] := by
  have := ((h.push o1).push o2).push o3
  rw [show ((W.alloc o1).alloc o2).heap.size = W.heap.size + 1 + 1 from by simp, show (W.alloc o1).heap.size = W.heap.size + 1 from by simp] at this
  exact this
theorem rowIs_kept {W W' : World} {js : List Nat} {b t n : Nat} {f : Nat → Value} (h : W.rowIs b t n f) (hk : Kept js W W') (hb : b ∈ js) : W'.rowIs b t n f := h.of_block (hk b hb)
/-- What the law has noted. -/
structure Noted (W : World) (bz bs bb : Nat) (T : Tr) (v m : Nat) (fz : Nat → Int) (fs : Nat → Sm) (fb : Nat → Bool) : Prop where
  rz : W.rowIs bz 48 30 (inV fz)
  rs : W.rowIs bs 49 120 (smR fs)
  rb : W.rowIs bb 50 30 (boV fb)
  ez : ∀ i, i < m → fz i = T.sizeI i
  es : ∀ i, i < m → fs i = T.pathI i v
  eb : ∀ i, i < m → fb i = T.sameI i v
theorem Noted.kept {W W' : World} {js : List Nat} {bz bs bb : Nat} {T : Tr} {v m : Nat} {fz : Nat → Int} {fs : Nat → Sm} {fb : Nat → Bool} (h : Noted W bz bs bb T v m fz fs fb) (hk : Kept js W W') (h1 : bz ∈ js) (h2 : bs ∈ js) (h3 : bb ∈ js) : Noted W' bz bs bb T v m fz fs fb :=
  ⟨rowIs_kept h.rz hk h1, rowIs_kept h.rs hk h2, rowIs_kept h.rb hk h3, h.ez, h.es, h.eb⟩

/-- What a round of the second loop reads. -/
structure Rd (W : World) (bz bs bb b9 j : Nat) (sz : Int) (sm : Bool) (s : Sm) : Prop where
  z : W.cell? ⟨bz, j, none⟩ = some (.int .i64 sz)
  b : W.cell? ⟨bb, j, none⟩ = some (.bool sm)
  s0 : W.cell? ⟨bs, j * 4, none⟩ = some (.int .i64 s.c)
  s1 : W.cell? ⟨bs, j * 4 + 1, none⟩ = some (.int .i64 s.s)
  s2 : W.cell? ⟨bs, j * 4 + 2, none⟩ = some (.int .i64 s.a)
  s3 : W.cell? ⟨bs, j * 4 + 3, none⟩ = some (.int .i64 s.b)
  t0 : W.cell? ⟨b9, 0, none⟩ = some (.int .i64 s.c)
  t1 : W.cell? ⟨b9, 1, none⟩ = some (.int .i64 s.s)
  t2 : W.cell? ⟨b9, 2, none⟩ = some (.int .i64 s.a)
  t3 : W.cell? ⟨b9, 3, none⟩ = some (.int .i64 s.b)
theorem cell_kept {W W' : World} {js : List Nat} {b o : Nat} (hk : Kept js W W') (hb : b ∈ js) : W'.cell? ⟨b, o, none⟩ = W.cell? ⟨b, o, none⟩ := World.cell?_of_block (w := W) (a := ⟨b, o, none⟩) (hk b hb)
theorem Rd.kept {W W' : World} {js : List Nat} {bz bs bb b9 j : Nat} {sz : Int} {sm : Bool} {s : Sm} (h : Rd W bz bs bb b9 j sz sm s) (hk : Kept js W W') (h1 : bz ∈ js) (h2 : bs ∈ js) (h3 : bb ∈ js) (h4 : b9 ∈ js) : Rd W' bz bs bb b9 j sz sm s :=
  ⟨by rw [cell_kept hk h1]; exact h.z, by rw [cell_kept hk h3]; exact h.b, by rw [cell_kept hk h2]; exact h.s0, by rw [cell_kept hk h2]; exact h.s1, by rw [cell_kept hk h2]; exact h.s2, by rw [cell_kept hk h2]; exact h.s3, by rw [cell_kept hk h4]; exact h.t0, by rw [cell_kept hk h4]; exact h.t1, by rw [cell_kept hk h4]; exact h.t2, by rw [cell_kept hk h4]; exact h.t3⟩
theorem Noted.rd {W : World} {bz bs bb b9 : Nat} {T : Tr} {v m j : Nat} {fz : Nat → Int} {fs : Nat → Sm} {fb : Nat → Bool} {s : Sm} (h : Noted W bz bs bb T v m fz fs fb) (hj : j < m) (hm : m ≤ 30) (hs : T.pathI j v = s) (hx : SumAt W b9 s) : Rd W bz bs bb b9 j (T.sizeI j) (T.sameI j v) s := by
  have q := smR_at fs j
  have e1 := h.ez j hj
  have e2 := h.es j hj
  have e3 := h.eb j hj
  rw [e2, hs] at q
  refine ⟨?_, ?_, ?_, ?_, ?_, ?_, hx.1.1, hx.1.2.1, hx.1.2.2.1, hx.1.2.2.2⟩
  · rw [h.rz.cell (show j < 30 by omega), inV, e1]
  · rw [h.rb.cell (show j < 30 by omega), boV, e3]
  · rw [h.rs.cell (show j * 4 < 120 by omega), q.1]
  · rw [h.rs.cell (show j * 4 + 1 < 120 by omega), q.2.1]
  · rw [h.rs.cell (show j * 4 + 2 < 120 by omega), q.2.2.1]
  · rw [h.rs.cell (show j * 4 + 3 < 120 by omega), q.2.2.2]

set_option maxRecDepth 100000 in
set_option maxHeartbeats 4000000 in
theorem roots_walk (x y : Option Addr) (lx cx ly cy : Nat) (us ws : List Int) (at0 : Int) (hat0 : 0 ≤ at0) (hat1 : at0 ≤ 255) (w : World) (hx : IRow .u8 w x lx us) (hy : IRow .i16 w y ly ws) (hlx : lx ≤ maxLen) (hly : ly ≤ maxLen) :
    Calls Try.prog 4 #[.slice x lx cx, .slice y ly cy, .int .u8 at0] w fun e w' => e = .returned (.bool true) ∧ Below w.heap.size w w' := by
  have LF := hide (upF_low (us := us) fun z hz => (bounds_u8 (hx.2.2 z hz)).1)
  have WF := hide (wF_fit (ws := ws) fun z hz => bounds_i16 (hy.2.2 z hz))
  have HX := hide hx
  have HY := hide hy
  have HLL := hide (And.intro hlx hly)
  have hlx' := hlx
  unfold maxLen at hlx'
  clear hx hy hlx hly
  have HEN : Hid (∃ n, min lx 30 = n) := ⟨_, rfl⟩
  obtain ⟨n, hnn⟩ := HEN.out
  have hn : n ≤ 30 := by omega
  have hnl : n ≤ lx := by omega
  have hmn : (lx ≤ 30 ∧ n = lx) ∨ (30 < lx ∧ n = 30) := by omega
  have HNN := hide (And.intro hnn hmn)
  clear hnn hmn HEN
  go_enter Try.func4, Try.ntmps4
  go_upto_region 1 with fail
  go_cut [7] (fun a w' => a = .int .i64 (n : Int) ∧ w' = w)
  case first =>
    rcases (unhide HNN).2 with ⟨h1, h2⟩ | ⟨h1, h2⟩
    · have h3 : (lx : Int) ≤ 30 := by omega
      have h4 : ¬ (30 : Int) < (lx : Int) := by omega
      have H2 := hide h2
      clear h2
      go_wp2
      go_meet
      exact ⟨by rw [unhide H2], rfl⟩
    · have h3 : ¬ (lx : Int) ≤ 30 := by omega
      have h4 : (30 : Int) < (lx : Int) := by omega
      have H2 := hide h2
      clear h2
      go_wp2
      go_meet
      exact ⟨by rw [unhide H2]; rfl, rfl⟩
  obtain ⟨rfl, hwc⟩ := hcut
  obtain rfl : w = wc := hwc.symm
  clear hwc
  go_wp2_with fail
  refine (grown_any (w := w) (js := []) n x y lx cx ly cy us ws w (Below.refl _ _) (by simp) (by omega) hnl (unhide HX) (unhide HY) (unhide HLL).2 (unhide HLL).1).mono ?_
  rintro e W0 ⟨p, rfl, h, kk⟩
  have hW := h.wf
  have hth : ∀ i, i < n → (gr n n (upF us) (wF ws)).par i ≠ -2 := fun i hi => gr_there (unhide LF) hi
  have hTn : (gr n n (upF us) (wF ws)).n = n := rfl
  have H0 := hide h
  clear h kk LF WF HX HY HLL HNN
  generalize gr n n (upF us) (wF ws) = T at *
  by_cases hn0 : n = 0
  · subst hn0
    go_wp2_with fail
    refine (awake_any _).mono ?_
    rintro e W1 ⟨rfl, hb⟩
    obtain ⟨h, k⟩ := (unhide H0).below hb
    have H1 := hide h
    clear h k hb H0
    go_wp2
    go_ret
    exact ⟨rfl, (unhide H1).bel⟩
  · obtain ⟨a, rfl⟩ := Int.eq_ofNat_of_zero_le hat0
    have hnz : ((n : Int) == 0) = false := by rw [beq_eq_false_iff_ne]; omega
    have hca : a % n < n := Nat.mod_lt _ (by omega)
    have hct := hth (a % n) hca
    have HW := hide (And.intro hW (And.intro hth (And.intro hTn hct)))
    clear hW hth hTn hct
    have hwz := (unhide H0).bel.size
    have R := hide (rows3 W0)
    replace H0 := hide (ob3 (unhide H0) (.cells A48 48) (.cells Try.zeroCells49 49) (.cells A50 50))
    go_upto_region 9 with fail
    rw [show ((a : Int) % (n : Int)) = ((a % n : Nat) : Int) from rfl]
    generalize a % n = v at *
    generalize ((W0.alloc (.cells A48 48)).alloc (.cells Try.zeroCells49 49)).alloc (.cells A50 50) = V at *
    have hbz : w.heap.size ≤ W0.heap.size := hwz
    have hbs : w.heap.size ≤ W0.heap.size + 1 := by omega
    have hbb : w.heap.size ≤ W0.heap.size + 1 + 1 := by omega
    have HNE : Hid (W0.heap.size ≠ W0.heap.size + 1 ∧ W0.heap.size ≠ W0.heap.size + 1 + 1 ∧ W0.heap.size + 1 ≠ W0.heap.size + 1 + 1) := ⟨by omega, by omega, by omega⟩
    generalize W0.heap.size + 1 + 1 = bb at *
    generalize W0.heap.size + 1 = bs at *
    generalize W0.heap.size = bz at *
    clear hwz
    go_wp2
    go_loopw [13] (fun i w' => ∃ (m : Nat) (fz : Nat → Int) (fs : Nat → Sm) (fb : Nat → Bool), m ≤ n ∧ i = .int .i64 (m : Int) ∧ Hid (Ob w w' p T [bb, bs, bz]) ∧ Hid (Noted w' bz bs bb T v m fz fs fb)) (fun i _ => n - (intOf i).toNat)
    case atStart => exact ⟨0, fun _ => 0, fun _ => zero, fun _ => false, by omega, rfl, H0, (unhide R).1, (unhide R).2.1, (unhide R).2.2, fun i hi => by omega, fun i hi => by omega, fun i hi => by omega⟩
    case round =>
      clear H0 R
      obtain ⟨m, fz, fs, fb, hm, rfl, H0, R⟩ := hrel
      by_cases hlt : m < n
      · have e1 : (m : Int) < (n : Int) := by omega
        have e2 : (0 : Int) ≤ (m : Int) := by omega
        have e30 : (m : Int) < 30 := by omega
        have R0 := hide (show Noted wr.drew bz bs bb T v m fz fs fb from ⟨(unhide R).rz, (unhide R).rs, (unhide R).rb, (unhide R).ez, (unhide R).es, (unhide R).eb⟩)
        replace H0 := hide (unhide H0).drew
        obtain ⟨n1, n2, n3⟩ := unhide HNE
        have n4 : bb ≠ bz := fun e => n2 e.symm
        go_upto_region 12 with fail
        go_region_with (first | (go_at_call 47; refine ((unhide H0).call fun _ ha => aSize _ ha).mono ?_; rintro e W1 ⟨rfl, h1, k1⟩; have H1 := hide h1; have R1 := hide ((unhide R0).kept k1 (by simp) (by simp) (by simp)); clear h1 k1) | (go_at_call 43; refine ((unhide H1).call fun _ ha => aSame _ _ ha).mono ?_; rintro e W2 ⟨rfl, h2, k2⟩; have H2 := hide h2; have R2 := hide ((unhide R1).kept k2 (by simp) (by simp) (by simp)); have dz := (unhide R2).rz.cell (show m < 30 by omega); have fz9 := (unhide R2).rz.frozen m; have db := (unhide R2).rb.cell (show m < 30 by omega); have fb9 := (unhide R2).rb.frozen m; unfold inV at dz; unfold boV at db; clear h2 k2))
        have H3 := hide (((unhide H2).store (b := bz) (by simp) hbz m (.int .i64 (T.sizeI m))).store (b := bb) (by simp) hbb m (.bool (T.sameI m v)))
        have R3 : Hid (Noted ((W2.setCell ⟨bz, m, none⟩ (.int .i64 (T.sizeI m))).setCell ⟨bb, m, none⟩ (.bool (T.sameI m v))) bz bs bb T v m (updF fz m (T.sizeI m)) fs (updF fb m (T.sameI m v))) := by
          have q := unhide R2
          refine ⟨?_, ?_, ?_, fun i hi => ?_, q.es, fun i hi => ?_⟩
          · rw [← inV_set]; exact (q.rz.set m _).setOther (a := ⟨bb, m, none⟩) n2 _
          · exact (q.rs.setOther (a := ⟨bz, m, none⟩) (fun e => n1 e.symm) _).setOther (a := ⟨bb, m, none⟩) n3 _
          · rw [← boV_set]; exact (q.rb.setOther (a := ⟨bz, m, none⟩) n4 _).set m _
          · rw [updF_other _ _ (by omega)]; exact q.ez i hi
          · rw [updF_other _ _ (by omega)]; exact q.eb i hi
        clear H0 H1 H2 R R0 R1 R2 dz fz9 db fb9
        generalize (W2.setCell ⟨bz, m, none⟩ (.int .i64 (T.sizeI m))).setCell ⟨bb, m, none⟩ (.bool (T.sameI m v)) = V3 at *
        have HEX : Hid (∃ s, T.pathI m v = s) := ⟨_, rfl⟩
        obtain ⟨⟨sc, ss, sa, sb⟩, hs⟩ := HEX.out
        clear HEX
        have HS := hide hs
        go_wp2_with fail
        refine ((unhide H3).call fun _ ha => aPath _ _ ha).mono ?_
        rw [hs]
        unfold smV
        dsimp only
        rintro e W4 ⟨rfl, h, k⟩
        have H4 := hide h
        have R4 := hide ((unhide R3).kept k (by simp) (by simp) (by simp))
        have c0 := (unhide R4).rs.cell (show m * 4 < 120 by omega)
        have c1 := (unhide R4).rs.cell (show m * 4 + 1 < 120 by omega)
        have c2 := (unhide R4).rs.cell (show m * 4 + 2 < 120 by omega)
        have c3 := (unhide R4).rs.cell (show m * 4 + 3 < 120 by omega)
        have f0 := (unhide R4).rs.frozen (m * 4)
        have f1 := (unhide R4).rs.frozen (m * 4 + 1)
        have f2 := (unhide R4).rs.frozen (m * 4 + 2)
        have f3 := (unhide R4).rs.frozen (m * 4 + 3)
        rw [(smR_at fs m).1] at c0
        rw [(smR_at fs m).2.1] at c1
        rw [(smR_at fs m).2.2.1] at c2
        rw [(smR_at fs m).2.2.2] at c3
        clear h k H3 R3 hs
        have H5 := hide (((((unhide H4).store (b := bs) (by simp) hbs (m * 4) (.int .i64 sc)).store (b := bs) (by simp) hbs (m * 4 + 1) (.int .i64 ss)).store (b := bs) (by simp) hbs (m * 4 + 2) (.int .i64 sa)).store (b := bs) (by simp) hbs (m * 4 + 3) (.int .i64 sb))
        have R5 : Hid (Noted ((((W4.setCell ⟨bs, m * 4, none⟩ (.int .i64 sc)).setCell ⟨bs, m * 4 + 1, none⟩ (.int .i64 ss)).setCell ⟨bs, m * 4 + 2, none⟩ (.int .i64 sa)).setCell ⟨bs, m * 4 + 3, none⟩ (.int .i64 sb)) bz bs bb T v (m + 1) (updF fz m (T.sizeI m)) (updF fs m ⟨sc, ss, sa, sb⟩) (updF fb m (T.sameI m v))) := by
          have q := unhide R4
          refine ⟨?_, ?_, ?_, fun i hi => ?_, fun i hi => ?_, fun i hi => ?_⟩
          · exact (((q.rz.setOther (a := ⟨bs, _, none⟩) n1 _).setOther (a := ⟨bs, _, none⟩) n1 _).setOther (a := ⟨bs, _, none⟩) n1 _).setOther (a := ⟨bs, _, none⟩) n1 _
          · rw [← smR_set]; exact (((q.rs.set (m * 4) _).set (m * 4 + 1) _).set (m * 4 + 2) _).set (m * 4 + 3) _
          · exact (((q.rb.setOther (a := ⟨bs, _, none⟩) (fun e => n3 e.symm) _).setOther (a := ⟨bs, _, none⟩) (fun e => n3 e.symm) _).setOther (a := ⟨bs, _, none⟩) (fun e => n3 e.symm) _).setOther (a := ⟨bs, _, none⟩) (fun e => n3 e.symm) _
          · by_cases e : i = m
            · subst e; rw [updF_same]
            · have := q.ez i (by omega)
              exact this
          · by_cases e : i = m
            · subst e; rw [updF_same]; exact (unhide HS).symm
            · rw [updF_other _ _ e]; exact q.es i (by omega)
          · by_cases e : i = m
            · subst e; rw [updF_same]
            · have := q.eb i (by omega)
              exact this
        clear H4 R4
        go_wp2
        go_roundw
        case rel => exact ⟨m + 1, _, _, _, by omega, by go_num, H5, R5⟩
        case measure => simp [intOf]; omega
      · have e1 : ¬ (m : Int) < (n : Int) := by omega
        have hmn : m = n := by omega
        rw [hmn] at R
        obtain ⟨hW, hth, hTn, hct⟩ := unhide HW
        have hE := hW.evert hct
        have x1 := Tr.hasI_there hct
        have x2 : T.evertI v = T.evert v := evertI_yes x1
        have hvp : (T.evert v).up v = [v] := hW.evert_up_v hct
        have hvr : (T.evert v).par v = -1 := by
          have h9 := hE.spec (v := v) (fun e => hct ((hW.evert_there hct).1 e))
          rw [hvp] at h9
          exact h9.2
        have x3 := hE.root_self hvr
        have x4 : (T.evert v).parI v = -1 := by rw [parI_nat (by omega), hvr]
        have x5 := Tr.hasI_there (T := T.evert v) (v := v) (by omega)
        have x6 : (T.evert v).evertI v = (T.evert v).evert v := evertI_yes x5
        have x7 : ((T.evert v).evert v).rootI v = v := by rw [Tr.rootI, Tr.upI_nat, hE.evert_up_v (by omega)]; rfl
        have x8 : ((T.evert v).subI v).c = T.sizeI v := by rw [← hE.size_root hvr, hW.evert_size hct hct]
        have HF : Hid (∀ j, j < n → (T.evert v).pathI j v = T.pathI j v ∧ (T.evert v).sameI j v = T.sameI j v ∧ (T.evert v).sizeI j = T.sizeI j ∧ (T.sameI j v = true → (T.evert v).rootI j = v ∧ (T.evert v).lcaI j v = v)) := fun j hj => by
          have hjt := hth j hj
          refine ⟨hW.evert_path hct hjt, hW.evert_same hct hjt, hW.evert_size hct hjt, fun hs => ?_⟩
          obtain ⟨_, _, e1, e2, _, _, t, a0, b0, cc, hm9⟩ := hW.same_true hs
          rw [← Int.ofNat_inj.1 e1, ← Int.ofNat_inj.1 e2] at hm9
          exact ⟨hW.evert_root_in hct hm9, (hW.evert_path_in hct hm9).2⟩
        clear hW hth hTn hct hE hvp hvr hmn
        generalize (T.evert v).evert v = E2 at *
        generalize T.evert v = E at *
        have HEX : Hid (∃ s, E.subI v = s) := ⟨_, rfl⟩
        obtain ⟨⟨tc, ts, ta, tb⟩, hts⟩ := HEX.out
        rw [hts] at x8
        clear HEX
        dsimp only at x8
        subst x8
        have X8 := hide (And.intro hts (And.intro x5 (And.intro x6 x7)))
        clear hts x6 x7
        go_wp2_with fail
        refine ((unhide H0).call fun _ ha => aEvert _ ha).mono ?_
        rw [x1, x2]
        rintro e W1 ⟨rfl, h, k⟩
        have H1 := hide h
        replace R := hide ((unhide R).kept k (by simp) (by simp) (by simp))
        clear h k H0 x1 x2
        go_wp2_with fail
        refine ((unhide H1).call fun _ ha => aRoot _ ha).mono ?_
        rw [x3]
        rintro e W2 ⟨rfl, h, k⟩
        have H2 := hide h
        replace R := hide ((unhide R).kept k (by simp) (by simp) (by simp))
        clear h k H1
        go_wp2_with fail
        refine ((unhide H2).call fun _ ha => aParent _ ha).mono ?_
        rw [x4]
        rintro e W3 ⟨rfl, h, k⟩
        have H3 := hide h
        replace R := hide ((unhide R).kept k (by simp) (by simp) (by simp))
        clear h k H2 x3 x4 x5
        go_wp2
        go_loopw [14] (fun i w' => ∃ j : Nat, j ≤ n ∧ i = .int .i64 (j : Int) ∧ Hid (Ob w w' p E [bb, bs, bz]) ∧ Hid (Noted w' bz bs bb T v n fz fs fb)) (fun i _ => n - (intOf i).toNat)
        case atStart => exact ⟨0, by omega, rfl, H3, R⟩
        case round =>
          clear H3 R
          obtain ⟨j, hj, rfl, H0, R⟩ := hrel
          by_cases hjn : j < n
          · have e3 : (j : Int) < (n : Int) := by omega
            have e4 : (0 : Int) ≤ (j : Int) := by omega
            have e30 : (j : Int) < 30 := by omega
            obtain ⟨y1, y2, y3, y4⟩ := unhide HF j hjn
            have HEX : Hid (∃ s, T.pathI j v = s) := ⟨_, rfl⟩
            obtain ⟨⟨sc, ss, sa, sb⟩, hs⟩ := HEX.out
            rw [hs] at y1
            clear HEX
            have HS := hide hs
            clear hs
            have HY4 := hide y4
            clear y4
            go_wp2_with fail
            refine ((unhide H0).call fun _ ha => aPath _ _ ha).mono ?_
            rw [y1, y2]
            unfold smV
            dsimp only
            rintro e W4 ⟨rfl, h, k⟩
            have R4 := (unhide R).kept k (by simp) (by simp) (by simp)
            have kp := kept_alloc h (.cells #[.int .i64 sc, .int .i64 ss, .int .i64 sa, .int .i64 sb] 34)
            have R5 := hide (R4.kept kp (by simp) (by simp) (by simp))
            have X4 := hide ((unhide R5).rd (b9 := W4.heap.size) hjn (by omega) (unhide HS) (SumAt.new W4 34 sc ss sa sb))
            have H5 := hide (h.push (.cells #[.int .i64 sc, .int .i64 ss, .int .i64 sa, .int .i64 sb] 34))
            clear h k H0 R R4 kp
            go_upto_region 20 with fail
            generalize W4.alloc (.cells #[.int .i64 sc, .int .i64 ss, .int .i64 sa, .int .i64 sb] 34) = W5 at *
            generalize W4.heap.size = b9 at *
            have R6 := hide (show Noted W5.drew bz bs bb T v n fz fs fb from ⟨(unhide R5).rz, (unhide R5).rs, (unhide R5).rb, (unhide R5).ez, (unhide R5).es, (unhide R5).eb⟩)
            have HA := hide (unhide H5).drew
            have XA := hide (show Rd W5.drew bz bs bb b9 j (T.sizeI j) (T.sameI j v) ⟨sc, ss, sa, sb⟩ from ⟨(unhide X4).z, (unhide X4).b, (unhide X4).s0, (unhide X4).s1, (unhide X4).s2, (unhide X4).s3, (unhide X4).t0, (unhide X4).t1, (unhide X4).t2, (unhide X4).t3⟩)
            clear H5 X4 R5
            cases hsm : T.sameI j v
            · rw [hsm] at XA y2
              obtain ⟨z0, z1, z2, z3, z4, z5, z6, z7, z8, z9⟩ := unhide XA
              dsimp only at z2 z3 z4 z5 z6 z7 z8 z9
              have HSM := hide hsm
              clear hsm
              refine wp_region_held_drew (S := (fun w' => w'.cell? ⟨bz, j, none⟩ = some (.int .i64 (T.sizeI j)) ∧ w'.cell? ⟨bb, j, none⟩ = some (.bool false) ∧ w'.cell? ⟨bs, j * 4, none⟩ = some (.int .i64 sc) ∧ w'.cell? ⟨bs, j * 4 + 1, none⟩ = some (.int .i64 ss) ∧ w'.cell? ⟨bs, j * 4 + 2, none⟩ = some (.int .i64 sa) ∧ w'.cell? ⟨bs, j * 4 + 3, none⟩ = some (.int .i64 sb) ∧ w'.cell? ⟨b9, 0, none⟩ = some (.int .i64 sc) ∧ w'.cell? ⟨b9, 1, none⟩ = some (.int .i64 ss) ∧ w'.cell? ⟨b9, 2, none⟩ = some (.int .i64 sa) ∧ w'.cell? ⟨b9, 3, none⟩ = some (.int .i64 sb))) (by kernel_rfl) ?_ (fun hHeld0 => ?_)
              · simp [go_sem, *]
              refine wpAnyH_take (i := 0) (oi := { dst := some 92, op := Op.move (Operand.tmp 8), type := 23, pos := "law.go:107", after := #[], guard := none }) (v := ?_) rfl (by kernel_rfl) (by kernel_rfl) (by kernel_rfl) (fun _ _ _ h => h) (Or.inl ⟨by rfl, ?_⟩) (by assumption) ?_
              rotate_left 1
              · intro w9 hSw; (try dsimp only at hSw); go_simp; try with_reducible rfl
              try simp only [Act.put, List.setIfInBounds_toArray, List.set_cons_zero, List.set_cons_succ]
              refine wpAnyH_take (i := 1) (oi := { dst := some 93, op := Op.move (Operand.tmp 14), type := 3, pos := "law.go:107", after := #[], guard := none }) (v := ?_) rfl (by kernel_rfl) (by kernel_rfl) (by kernel_rfl) (fun _ _ _ h => h) (Or.inl ⟨by rfl, ?_⟩) (by assumption) ?_
              rotate_left 1
              · intro w9 hSw; (try dsimp only at hSw); go_simp; try with_reducible rfl
              try simp only [Act.put, List.setIfInBounds_toArray, List.set_cons_zero, List.set_cons_succ]
              refine wpAnyH_take (i := 3) (oi := { dst := some 95, op := Op.move (Operand.tmp 14), type := 3, pos := "law.go:107", after := #[], guard := none }) (v := ?_) rfl (by kernel_rfl) (by kernel_rfl) (by kernel_rfl) (fun _ _ _ h => h) (Or.inl ⟨by rfl, ?_⟩) (by assumption) ?_
              rotate_left 1
              · intro w9 hSw; (try dsimp only at hSw); go_simp; try with_reducible rfl
              try simp only [Act.put, List.setIfInBounds_toArray, List.set_cons_zero, List.set_cons_succ]
              refine wpAnyH_take (i := 4) (oi := { dst := some 96, op := Op.indexAddr 48 (Operand.tmp 10) (Operand.tmp 95), type := 0, pos := "law.go:107", after := #[{ on := 3, ground := Ground.data }], guard := none }) (v := ?_) rfl (by kernel_rfl) (by kernel_rfl) (by kernel_rfl) (fun _ _ _ h => h) (Or.inl ⟨by rfl, ?_⟩) (by assumption) ?_
              rotate_left 1
              · intro w9 hSw; (try dsimp only at hSw); go_simp; try with_reducible rfl
              try simp only [Act.put, List.setIfInBounds_toArray, List.set_cons_zero, List.set_cons_succ]
              refine wpAnyH_take (i := 5) (oi := { dst := some 97, op := Op.load 3 (Operand.tmp 96), type := 3, pos := "law.go:107", after := #[{ on := 4, ground := Ground.data }], guard := none }) (v := ?_) rfl (by kernel_rfl) (by kernel_rfl) (by kernel_rfl) (fun _ _ _ h => h) (Or.inl ⟨by rfl, ?_⟩) (by assumption) ?_
              rotate_left 1
              · intro w9 hSw; (try dsimp only at hSw); go_simp; try with_reducible rfl
              try simp only [Act.put, List.setIfInBounds_toArray, List.set_cons_zero, List.set_cons_succ]
              refine wpAnyH_ready (rs := [2]) (by kernel_rfl) (by simp) ?_
              refine AllReadyH.cons (o := { dst := some 94, op := Op.call { callee := Callee.value (Operand.func 47), args := #[Operand.tmp 92, Operand.tmp 93], argTypes := #[23, 3] }, type := 3, pos := "law.go:107", after := #[{ on := 0, ground := Ground.data }, { on := 1, ground := Ground.data }], guard := none }) rfl (fun K hK => ?_) AllReadyH.nil
              go_simp
              go_at_call 47
              refine ((unhide HA).call fun _ ha => aSize _ ha).mono ?_
              rw [y3]
              rintro e w6 ⟨rfl, h6, k6⟩
              have HB := hide h6
              have RB := hide ((unhide R6).kept k6 (by simp) (by simp) (by simp))
              have XB := hide ((unhide XA).kept k6 (by simp) (by simp) (by simp) (by simp))
              obtain ⟨v0, v1, v2, v3, v4, v5, v6, v7, v8, v9⟩ := unhide XB
              dsimp only at v2 v3 v4 v5 v6 v7 v8 v9
              clear h6 k6
              first | refine hK.out _ _ ?_ (fun hHeld1 => ?_) | (go_wp2_with fail; refine hK.out _ _ ?_ (fun hHeld1 => ?_))
              · (try dsimp only); simp [go_sem, *]
              clear hK K hHeld0
              try simp only [Act.put, List.setIfInBounds_toArray, List.set_cons_zero, List.set_cons_succ]
              refine wpAnyH_take (i := 6) (oi := { dst := some 98, op := Op.binOp BinOp.neq 3 (Operand.tmp 94) (Operand.tmp 97) 3, type := 4, pos := "law.go:107", after := #[{ on := 2, ground := Ground.data }, { on := 5, ground := Ground.data }], guard := none }) (v := ?_) rfl (by kernel_rfl) (by kernel_rfl) (by kernel_rfl) (fun _ _ _ h => h) (Or.inl ⟨by rfl, ?_⟩) (by assumption) ?_
              rotate_left 1
              · intro w9 hSw; (try dsimp only at hSw); go_simp; try with_reducible rfl
              try simp only [Act.put, List.setIfInBounds_toArray, List.set_cons_zero, List.set_cons_succ]
              refine wpAnyH_take (i := 7) (oi := { dst := some 99, op := Op.move (Operand.tmp 98), type := 4, pos := "law.go:107", after := #[{ on := 6, ground := Ground.data }, { on := 2, ground := Ground.chain }], guard := none }) (v := ?_) rfl (by kernel_rfl) (by kernel_rfl) (by kernel_rfl) (fun _ _ _ h => h) (Or.inl ⟨by rfl, ?_⟩) (by assumption) ?_
              rotate_left 1
              · intro w9 hSw; (try dsimp only at hSw); go_simp; try with_reducible rfl
              try simp only [Act.put, List.setIfInBounds_toArray, List.set_cons_zero, List.set_cons_succ]
              refine wpAnyH_take (i := 8) (oi := { dst := some 100, op := Op.move (Operand.tmp 8), type := 23, pos := "law.go:107", after := #[{ on := 7, ground := Ground.guard }], guard := some (7, false) }) (v := ?_) rfl (by kernel_rfl) (by kernel_rfl) (by kernel_rfl) (fun _ _ _ h => h) (Or.inl ⟨by rfl, ?_⟩) (by assumption) ?_
              rotate_left 1
              · intro w9 hSw; (try dsimp only at hSw); go_simp; try with_reducible rfl
              try simp only [Act.put, List.setIfInBounds_toArray, List.set_cons_zero, List.set_cons_succ]
              refine wpAnyH_take (i := 9) (oi := { dst := some 101, op := Op.move (Operand.tmp 14), type := 3, pos := "law.go:107", after := #[{ on := 7, ground := Ground.guard }], guard := some (7, false) }) (v := ?_) rfl (by kernel_rfl) (by kernel_rfl) (by kernel_rfl) (fun _ _ _ h => h) (Or.inl ⟨by rfl, ?_⟩) (by assumption) ?_
              rotate_left 1
              · intro w9 hSw; (try dsimp only at hSw); go_simp; try with_reducible rfl
              try simp only [Act.put, List.setIfInBounds_toArray, List.set_cons_zero, List.set_cons_succ]
              refine wpAnyH_take (i := 10) (oi := { dst := some 102, op := Op.move (Operand.tmp 9), type := 3, pos := "law.go:107", after := #[{ on := 7, ground := Ground.guard }], guard := some (7, false) }) (v := ?_) rfl (by kernel_rfl) (by kernel_rfl) (by kernel_rfl) (fun _ _ _ h => h) (Or.inl ⟨by rfl, ?_⟩) (by assumption) ?_
              rotate_left 1
              · intro w9 hSw; (try dsimp only at hSw); go_simp; try with_reducible rfl
              try simp only [Act.put, List.setIfInBounds_toArray, List.set_cons_zero, List.set_cons_succ]
              refine wpAnyH_take (i := 12) (oi := { dst := some 104, op := Op.move (Operand.tmp 14), type := 3, pos := "law.go:107", after := #[{ on := 7, ground := Ground.guard }], guard := some (7, false) }) (v := ?_) rfl (by kernel_rfl) (by kernel_rfl) (by kernel_rfl) (fun _ _ _ h => h) (Or.inl ⟨by rfl, ?_⟩) (by assumption) ?_
              rotate_left 1
              · intro w9 hSw; (try dsimp only at hSw); go_simp; try with_reducible rfl
              try simp only [Act.put, List.setIfInBounds_toArray, List.set_cons_zero, List.set_cons_succ]
              refine wpAnyH_take (i := 13) (oi := { dst := some 105, op := Op.indexAddr 50 (Operand.tmp 12) (Operand.tmp 104), type := 0, pos := "law.go:107", after := #[{ on := 12, ground := Ground.data }, { on := 7, ground := Ground.guard }], guard := some (7, false) }) (v := ?_) rfl (by kernel_rfl) (by kernel_rfl) (by kernel_rfl) (fun _ _ _ h => h) (Or.inl ⟨by rfl, ?_⟩) (by assumption) ?_
              rotate_left 1
              · intro w9 hSw; (try dsimp only at hSw); go_simp; try with_reducible rfl
              try simp only [Act.put, List.setIfInBounds_toArray, List.set_cons_zero, List.set_cons_succ]
              refine wpAnyH_take (i := 14) (oi := { dst := some 106, op := Op.load 4 (Operand.tmp 105), type := 4, pos := "law.go:107", after := #[{ on := 13, ground := Ground.data }, { on := 7, ground := Ground.guard }], guard := some (7, false) }) (v := ?_) rfl (by kernel_rfl) (by kernel_rfl) (by kernel_rfl) (fun _ _ _ h => h) (Or.inl ⟨by rfl, ?_⟩) (by assumption) ?_
              rotate_left 1
              · intro w9 hSw; (try dsimp only at hSw); go_simp; try with_reducible rfl
              try simp only [Act.put, List.setIfInBounds_toArray, List.set_cons_zero, List.set_cons_succ]
              refine wpAnyH_ready (rs := [11]) (by kernel_rfl) (by simp) ?_
              refine AllReadyH.cons (o := { dst := some 103, op := Op.call { callee := Callee.value (Operand.func 43), args := #[Operand.tmp 100, Operand.tmp 101, Operand.tmp 102], argTypes := #[23, 3, 3] }, type := 4, pos := "law.go:107", after := #[{ on := 8, ground := Ground.data }, { on := 9, ground := Ground.data }, { on := 10, ground := Ground.data }, { on := 7, ground := Ground.chain }, { on := 7, ground := Ground.guard }], guard := some (7, false) }) rfl (fun K hK => ?_) AllReadyH.nil
              go_simp
              go_at_call 43
              refine ((unhide HB).call fun _ ha => aSame _ _ ha).mono ?_
              rw [y2]
              rintro e w7 ⟨rfl, h6, k6⟩
              have HC := hide h6
              have RC := hide ((unhide RB).kept k6 (by simp) (by simp) (by simp))
              have XC := hide ((unhide XB).kept k6 (by simp) (by simp) (by simp) (by simp))
              obtain ⟨u0, u1, u2, u3, u4, u5, u6, u7, u8, u9⟩ := unhide XC
              dsimp only at u2 u3 u4 u5 u6 u7 u8 u9
              clear h6 k6
              first | refine hK.out _ _ ?_ (fun hHeld2 => ?_) | (go_wp2_with fail; refine hK.out _ _ ?_ (fun hHeld2 => ?_))
              · (try dsimp only); simp [go_sem, *]
              clear hK K hHeld1
              try simp only [Act.put, List.setIfInBounds_toArray, List.set_cons_zero, List.set_cons_succ]
              refine wpAnyH_take (i := 15) (oi := { dst := some 107, op := Op.binOp BinOp.neq 4 (Operand.tmp 103) (Operand.tmp 106) 4, type := 4, pos := "law.go:107", after := #[{ on := 11, ground := Ground.data }, { on := 14, ground := Ground.data }, { on := 7, ground := Ground.guard }], guard := some (7, false) }) (v := ?_) rfl (by kernel_rfl) (by kernel_rfl) (by kernel_rfl) (fun _ _ _ h => h) (Or.inl ⟨by rfl, ?_⟩) (by assumption) ?_
              rotate_left 1
              · intro w9 hSw; (try dsimp only at hSw); go_simp; try with_reducible rfl
              try simp only [Act.put, List.setIfInBounds_toArray, List.set_cons_zero, List.set_cons_succ]
              refine wpAnyH_take (i := 16) (oi := { dst := some 108, op := Op.pick (Operand.tmp 99) (Operand.const (Value.bool true)) (Operand.tmp 107), type := 4, pos := "law.go:107", after := #[{ on := 7, ground := Ground.data }, { on := 15, ground := Ground.data }], guard := none }) (v := ?_) rfl (by kernel_rfl) (by kernel_rfl) (by kernel_rfl) (fun _ _ _ h => h) (Or.inl ⟨by rfl, ?_⟩) (by assumption) ?_
              rotate_left 1
              · intro w9 hSw; (try dsimp only at hSw); go_simp; try with_reducible rfl
              try simp only [Act.put, List.setIfInBounds_toArray, List.set_cons_zero, List.set_cons_succ]
              refine wpAnyH_take (i := 17) (oi := { dst := some 109, op := Op.move (Operand.tmp 108), type := 4, pos := "law.go:107", after := #[{ on := 16, ground := Ground.data }, { on := 11, ground := Ground.chain }], guard := none }) (v := ?_) rfl (by kernel_rfl) (by kernel_rfl) (by kernel_rfl) (fun _ _ _ h => h) (Or.inl ⟨by rfl, ?_⟩) (by assumption) ?_
              rotate_left 1
              · intro w9 hSw; (try dsimp only at hSw); go_simp; try with_reducible rfl
              try simp only [Act.put, List.setIfInBounds_toArray, List.set_cons_zero, List.set_cons_succ]
              refine wpAnyH_take (i := 18) (oi := { dst := some 110, op := Op.move (Operand.tmp 16), type := 4, pos := "law.go:107", after := #[{ on := 17, ground := Ground.guard }], guard := some (17, false) }) (v := ?_) rfl (by kernel_rfl) (by kernel_rfl) (by kernel_rfl) (fun _ _ _ h => h) (Or.inl ⟨by rfl, ?_⟩) (by assumption) ?_
              rotate_left 1
              · intro w9 hSw; (try dsimp only at hSw); go_simp; try with_reducible rfl
              try simp only [Act.put, List.setIfInBounds_toArray, List.set_cons_zero, List.set_cons_succ]
              refine wpAnyH_take (i := 19) (oi := { dst := some 111, op := Op.move (Operand.tmp 14), type := 3, pos := "law.go:107", after := #[{ on := 17, ground := Ground.guard }], guard := some (17, false) }) (v := ?_) rfl (by kernel_rfl) (by kernel_rfl) (by kernel_rfl) (fun _ _ _ h => h) (Or.inl ⟨by rfl, ?_⟩) (by assumption) ?_
              rotate_left 1
              · intro w9 hSw; (try dsimp only at hSw); go_simp; try with_reducible rfl
              try simp only [Act.put, List.setIfInBounds_toArray, List.set_cons_zero, List.set_cons_succ]
              refine wpAnyH_take (i := 20) (oi := { dst := some 112, op := Op.indexAddr 50 (Operand.tmp 12) (Operand.tmp 111), type := 0, pos := "law.go:107", after := #[{ on := 19, ground := Ground.data }, { on := 17, ground := Ground.guard }], guard := some (17, false) }) (v := ?_) rfl (by kernel_rfl) (by kernel_rfl) (by kernel_rfl) (fun _ _ _ h => h) (Or.inl ⟨by rfl, ?_⟩) (by assumption) ?_
              rotate_left 1
              · intro w9 hSw; (try dsimp only at hSw); go_simp; try with_reducible rfl
              try simp only [Act.put, List.setIfInBounds_toArray, List.set_cons_zero, List.set_cons_succ]
              refine wpAnyH_take (i := 21) (oi := { dst := some 113, op := Op.load 4 (Operand.tmp 112), type := 4, pos := "law.go:107", after := #[{ on := 20, ground := Ground.data }, { on := 17, ground := Ground.guard }], guard := some (17, false) }) (v := ?_) rfl (by kernel_rfl) (by kernel_rfl) (by kernel_rfl) (fun _ _ _ h => h) (Or.inl ⟨by rfl, ?_⟩) (by assumption) ?_
              rotate_left 1
              · intro w9 hSw; (try dsimp only at hSw); go_simp; try with_reducible rfl
              try simp only [Act.put, List.setIfInBounds_toArray, List.set_cons_zero, List.set_cons_succ]
              refine wpAnyH_take (i := 22) (oi := { dst := some 114, op := Op.binOp BinOp.neq 4 (Operand.tmp 110) (Operand.tmp 113) 4, type := 4, pos := "law.go:107", after := #[{ on := 18, ground := Ground.data }, { on := 21, ground := Ground.data }, { on := 17, ground := Ground.guard }], guard := some (17, false) }) (v := ?_) rfl (by kernel_rfl) (by kernel_rfl) (by kernel_rfl) (fun _ _ _ h => h) (Or.inl ⟨by rfl, ?_⟩) (by assumption) ?_
              rotate_left 1
              · intro w9 hSw; (try dsimp only at hSw); go_simp; try with_reducible rfl
              try simp only [Act.put, List.setIfInBounds_toArray, List.set_cons_zero, List.set_cons_succ]
              refine wpAnyH_take (i := 23) (oi := { dst := some 115, op := Op.pick (Operand.tmp 109) (Operand.const (Value.bool true)) (Operand.tmp 114), type := 4, pos := "law.go:107", after := #[{ on := 17, ground := Ground.data }, { on := 22, ground := Ground.data }], guard := none }) (v := ?_) rfl (by kernel_rfl) (by kernel_rfl) (by kernel_rfl) (fun _ _ _ h => h) (Or.inl ⟨by rfl, ?_⟩) (by assumption) ?_
              rotate_left 1
              · intro w9 hSw; (try dsimp only at hSw); go_simp; try with_reducible rfl
              try simp only [Act.put, List.setIfInBounds_toArray, List.set_cons_zero, List.set_cons_succ]
              refine wpAnyH_take (i := 24) (oi := { dst := some 116, op := Op.move (Operand.tmp 115), type := 4, pos := "law.go:107", after := #[{ on := 23, ground := Ground.data }, { on := 17, ground := Ground.chain }], guard := none }) (v := ?_) rfl (by kernel_rfl) (by kernel_rfl) (by kernel_rfl) (fun _ _ _ h => h) (Or.inl ⟨by rfl, ?_⟩) (by assumption) ?_
              rotate_left 1
              · intro w9 hSw; (try dsimp only at hSw); go_simp; try with_reducible rfl
              try simp only [Act.put, List.setIfInBounds_toArray, List.set_cons_zero, List.set_cons_succ]
              refine wpAnyH_take (i := 25) (oi := { dst := some 117, op := Op.load 34 (Operand.tmp 15), type := 34, pos := "law.go:107", after := #[{ on := 24, ground := Ground.guard }], guard := some (24, false) }) (v := ?_) rfl (by kernel_rfl) (by kernel_rfl) (by kernel_rfl) (fun _ _ _ h => h) (Or.inl ⟨by rfl, ?_⟩) (by assumption) ?_
              rotate_left 1
              · intro w9 hSw; (try dsimp only at hSw); go_simp; try with_reducible rfl
              try simp only [Act.put, List.setIfInBounds_toArray, List.set_cons_zero, List.set_cons_succ]
              refine wpAnyH_take (i := 26) (oi := { dst := some 118, op := Op.move (Operand.tmp 14), type := 3, pos := "law.go:107", after := #[{ on := 24, ground := Ground.guard }], guard := some (24, false) }) (v := ?_) rfl (by kernel_rfl) (by kernel_rfl) (by kernel_rfl) (fun _ _ _ h => h) (Or.inl ⟨by rfl, ?_⟩) (by assumption) ?_
              rotate_left 1
              · intro w9 hSw; (try dsimp only at hSw); go_simp; try with_reducible rfl
              try simp only [Act.put, List.setIfInBounds_toArray, List.set_cons_zero, List.set_cons_succ]
              refine wpAnyH_take (i := 27) (oi := { dst := some 119, op := Op.indexAddr 49 (Operand.tmp 11) (Operand.tmp 118), type := 0, pos := "law.go:107", after := #[{ on := 26, ground := Ground.data }, { on := 24, ground := Ground.guard }], guard := some (24, false) }) (v := ?_) rfl (by kernel_rfl) (by kernel_rfl) (by kernel_rfl) (fun _ _ _ h => h) (Or.inl ⟨by rfl, ?_⟩) (by assumption) ?_
              rotate_left 1
              · intro w9 hSw; (try dsimp only at hSw); go_simp; try with_reducible rfl
              try simp only [Act.put, List.setIfInBounds_toArray, List.set_cons_zero, List.set_cons_succ]
              refine wpAnyH_take (i := 28) (oi := { dst := some 120, op := Op.load 34 (Operand.tmp 119), type := 34, pos := "law.go:107", after := #[{ on := 27, ground := Ground.data }, { on := 24, ground := Ground.guard }], guard := some (24, false) }) (v := ?_) rfl (by kernel_rfl) (by kernel_rfl) (by kernel_rfl) (fun _ _ _ h => h) (Or.inl ⟨by rfl, ?_⟩) (by assumption) ?_
              rotate_left 1
              · intro w9 hSw; (try dsimp only at hSw); go_simp; try with_reducible rfl
              try simp only [Act.put, List.setIfInBounds_toArray, List.set_cons_zero, List.set_cons_succ]
              refine wpAnyH_take (i := 29) (oi := { dst := some 121, op := Op.binOp BinOp.neq 34 (Operand.tmp 117) (Operand.tmp 120) 34, type := 4, pos := "law.go:107", after := #[{ on := 25, ground := Ground.data }, { on := 28, ground := Ground.data }, { on := 24, ground := Ground.guard }], guard := some (24, false) }) (v := ?_) rfl (by kernel_rfl) (by kernel_rfl) (by kernel_rfl) (fun _ _ _ h => h) (Or.inl ⟨by rfl, ?_⟩) (by assumption) ?_
              rotate_left 1
              · intro w9 hSw; (try dsimp only at hSw); go_simp; try with_reducible rfl
              try simp only [Act.put, List.setIfInBounds_toArray, List.set_cons_zero, List.set_cons_succ]
              refine wpAnyH_take (i := 30) (oi := { dst := some 122, op := Op.pick (Operand.tmp 116) (Operand.const (Value.bool true)) (Operand.tmp 121), type := 4, pos := "law.go:107", after := #[{ on := 24, ground := Ground.data }, { on := 29, ground := Ground.data }], guard := none }) (v := ?_) rfl (by kernel_rfl) (by kernel_rfl) (by kernel_rfl) (fun _ _ _ h => h) (Or.inl ⟨by rfl, ?_⟩) (by assumption) ?_
              rotate_left 1
              · intro w9 hSw; (try dsimp only at hSw); go_simp; try with_reducible rfl
              try simp only [Act.put, List.setIfInBounds_toArray, List.set_cons_zero, List.set_cons_succ]
              refine wpAnyH_take (i := 31) (oi := { dst := some 123, op := Op.move (Operand.tmp 122), type := 4, pos := "law.go:107", after := #[{ on := 30, ground := Ground.data }, { on := 24, ground := Ground.chain }], guard := none }) (v := ?_) rfl (by kernel_rfl) (by kernel_rfl) (by kernel_rfl) (fun _ _ _ h => h) (Or.inl ⟨by rfl, ?_⟩) (by assumption) ?_
              rotate_left 1
              · intro w9 hSw; (try dsimp only at hSw); go_simp; try with_reducible rfl
              try simp only [Act.put, List.setIfInBounds_toArray, List.set_cons_zero, List.set_cons_succ]
              refine wpAnyH_take (i := 32) (oi := { dst := some 124, op := Op.move (Operand.tmp 14), type := 3, pos := "law.go:107", after := #[{ on := 31, ground := Ground.guard }], guard := some (31, false) }) (v := ?_) rfl (by kernel_rfl) (by kernel_rfl) (by kernel_rfl) (fun _ _ _ h => h) (Or.inl ⟨by rfl, ?_⟩) (by assumption) ?_
              rotate_left 1
              · intro w9 hSw; (try dsimp only at hSw); go_simp; try with_reducible rfl
              try simp only [Act.put, List.setIfInBounds_toArray, List.set_cons_zero, List.set_cons_succ]
              refine wpAnyH_take (i := 33) (oi := { dst := some 125, op := Op.indexAddr 50 (Operand.tmp 12) (Operand.tmp 124), type := 0, pos := "law.go:107", after := #[{ on := 32, ground := Ground.data }, { on := 31, ground := Ground.guard }], guard := some (31, false) }) (v := ?_) rfl (by kernel_rfl) (by kernel_rfl) (by kernel_rfl) (fun _ _ _ h => h) (Or.inl ⟨by rfl, ?_⟩) (by assumption) ?_
              rotate_left 1
              · intro w9 hSw; (try dsimp only at hSw); go_simp; try with_reducible rfl
              try simp only [Act.put, List.setIfInBounds_toArray, List.set_cons_zero, List.set_cons_succ]
              refine wpAnyH_take (i := 34) (oi := { dst := some 126, op := Op.load 4 (Operand.tmp 125), type := 4, pos := "law.go:107", after := #[{ on := 33, ground := Ground.data }, { on := 31, ground := Ground.guard }], guard := some (31, false) }) (v := ?_) rfl (by kernel_rfl) (by kernel_rfl) (by kernel_rfl) (fun _ _ _ h => h) (Or.inl ⟨by rfl, ?_⟩) (by assumption) ?_
              rotate_left 1
              · intro w9 hSw; (try dsimp only at hSw); go_simp; try with_reducible rfl
              try simp only [Act.put, List.setIfInBounds_toArray, List.set_cons_zero, List.set_cons_succ]
              refine wpAnyH_take (i := 35) (oi := { dst := some 127, op := Op.move (Operand.tmp 126), type := 4, pos := "law.go:107", after := #[{ on := 34, ground := Ground.data }, { on := 31, ground := Ground.chain }, { on := 31, ground := Ground.guard }], guard := some (31, false) }) (v := ?_) rfl (by kernel_rfl) (by kernel_rfl) (by kernel_rfl) (fun _ _ _ h => h) (Or.inl ⟨by rfl, ?_⟩) (by assumption) ?_
              rotate_left 1
              · intro w9 hSw; (try dsimp only at hSw); go_simp; try with_reducible rfl
              try simp only [Act.put, List.setIfInBounds_toArray, List.set_cons_zero, List.set_cons_succ]
              refine wpAnyH_take (i := 36) (oi := { dst := some 128, op := Op.move (Operand.tmp 8), type := 23, pos := "law.go:107", after := #[{ on := 35, ground := Ground.guard }], guard := some (35, true) }) (v := undef) rfl (by kernel_rfl) (by kernel_rfl) (by kernel_rfl) (fun _ _ _ h => h) (Or.inr ⟨by rfl, rfl⟩) (by assumption) ?_
              try simp only [Act.put, List.setIfInBounds_toArray, List.set_cons_zero, List.set_cons_succ]
              refine wpAnyH_take (i := 37) (oi := { dst := some 129, op := Op.move (Operand.tmp 14), type := 3, pos := "law.go:107", after := #[{ on := 35, ground := Ground.guard }], guard := some (35, true) }) (v := undef) rfl (by kernel_rfl) (by kernel_rfl) (by kernel_rfl) (fun _ _ _ h => h) (Or.inr ⟨by rfl, rfl⟩) (by assumption) ?_
              try simp only [Act.put, List.setIfInBounds_toArray, List.set_cons_zero, List.set_cons_succ]
              refine wpAnyH_take (i := 39) (oi := { dst := some 131, op := Op.move (Operand.tmp 9), type := 3, pos := "law.go:107", after := #[{ on := 35, ground := Ground.guard }], guard := some (35, true) }) (v := undef) rfl (by kernel_rfl) (by kernel_rfl) (by kernel_rfl) (fun _ _ _ h => h) (Or.inr ⟨by rfl, rfl⟩) (by assumption) ?_
              try simp only [Act.put, List.setIfInBounds_toArray, List.set_cons_zero, List.set_cons_succ]
              refine wpAnyH_take (i := 38) (oi := { dst := some 130, op := Op.call { callee := Callee.value (Operand.func 39), args := #[Operand.tmp 128, Operand.tmp 129], argTypes := #[23, 3] }, type := 3, pos := "law.go:107", after := #[{ on := 36, ground := Ground.data }, { on := 37, ground := Ground.data }, { on := 35, ground := Ground.chain }, { on := 35, ground := Ground.guard }], guard := some (35, true) }) (v := undef) rfl (by kernel_rfl) (by kernel_rfl) (by kernel_rfl) (fun _ _ _ h => h) (Or.inr ⟨by rfl, rfl⟩) (by assumption) ?_
              try simp only [Act.put, List.setIfInBounds_toArray, List.set_cons_zero, List.set_cons_succ]
              refine wpAnyH_take (i := 40) (oi := { dst := some 132, op := Op.binOp BinOp.neq 3 (Operand.tmp 130) (Operand.tmp 131) 3, type := 4, pos := "law.go:107", after := #[{ on := 38, ground := Ground.data }, { on := 39, ground := Ground.data }, { on := 35, ground := Ground.guard }], guard := some (35, true) }) (v := undef) rfl (by kernel_rfl) (by kernel_rfl) (by kernel_rfl) (fun _ _ _ h => h) (Or.inr ⟨by rfl, rfl⟩) (by assumption) ?_
              try simp only [Act.put, List.setIfInBounds_toArray, List.set_cons_zero, List.set_cons_succ]
              refine wpAnyH_take (i := 41) (oi := { dst := some 133, op := Op.move (Operand.tmp 132), type := 4, pos := "law.go:107", after := #[{ on := 40, ground := Ground.data }, { on := 38, ground := Ground.chain }, { on := 35, ground := Ground.guard }], guard := some (35, true) }) (v := undef) rfl (by kernel_rfl) (by kernel_rfl) (by kernel_rfl) (fun _ _ _ h => h) (Or.inr ⟨by rfl, rfl⟩) (by assumption) ?_
              try simp only [Act.put, List.setIfInBounds_toArray, List.set_cons_zero, List.set_cons_succ]
              refine wpAnyH_take (i := 42) (oi := { dst := some 134, op := Op.move (Operand.tmp 8), type := 23, pos := "law.go:107", after := #[{ on := 41, ground := Ground.guard }], guard := some (41, false) }) (v := undef) rfl (by kernel_rfl) (by kernel_rfl) (by kernel_rfl) (fun _ _ _ h => h) (Or.inr ⟨by rfl, rfl⟩) (by assumption) ?_
              try simp only [Act.put, List.setIfInBounds_toArray, List.set_cons_zero, List.set_cons_succ]
              refine wpAnyH_take (i := 43) (oi := { dst := some 135, op := Op.move (Operand.tmp 14), type := 3, pos := "law.go:107", after := #[{ on := 41, ground := Ground.guard }], guard := some (41, false) }) (v := undef) rfl (by kernel_rfl) (by kernel_rfl) (by kernel_rfl) (fun _ _ _ h => h) (Or.inr ⟨by rfl, rfl⟩) (by assumption) ?_
              try simp only [Act.put, List.setIfInBounds_toArray, List.set_cons_zero, List.set_cons_succ]
              refine wpAnyH_take (i := 44) (oi := { dst := some 136, op := Op.move (Operand.tmp 9), type := 3, pos := "law.go:107", after := #[{ on := 41, ground := Ground.guard }], guard := some (41, false) }) (v := undef) rfl (by kernel_rfl) (by kernel_rfl) (by kernel_rfl) (fun _ _ _ h => h) (Or.inr ⟨by rfl, rfl⟩) (by assumption) ?_
              try simp only [Act.put, List.setIfInBounds_toArray, List.set_cons_zero, List.set_cons_succ]
              refine wpAnyH_take (i := 46) (oi := { dst := some 138, op := Op.move (Operand.tmp 9), type := 3, pos := "law.go:107", after := #[{ on := 41, ground := Ground.guard }], guard := some (41, false) }) (v := undef) rfl (by kernel_rfl) (by kernel_rfl) (by kernel_rfl) (fun _ _ _ h => h) (Or.inr ⟨by rfl, rfl⟩) (by assumption) ?_
              try simp only [Act.put, List.setIfInBounds_toArray, List.set_cons_zero, List.set_cons_succ]
              refine wpAnyH_take (i := 45) (oi := { dst := some 137, op := Op.call { callee := Callee.value (Operand.func 45), args := #[Operand.tmp 134, Operand.tmp 135, Operand.tmp 136], argTypes := #[23, 3, 3] }, type := 3, pos := "law.go:107", after := #[{ on := 42, ground := Ground.data }, { on := 43, ground := Ground.data }, { on := 44, ground := Ground.data }, { on := 41, ground := Ground.chain }, { on := 41, ground := Ground.guard }], guard := some (41, false) }) (v := undef) rfl (by kernel_rfl) (by kernel_rfl) (by kernel_rfl) (fun _ _ _ h => h) (Or.inr ⟨by rfl, rfl⟩) (by assumption) ?_
              try simp only [Act.put, List.setIfInBounds_toArray, List.set_cons_zero, List.set_cons_succ]
              refine wpAnyH_take (i := 47) (oi := { dst := some 139, op := Op.binOp BinOp.neq 3 (Operand.tmp 137) (Operand.tmp 138) 3, type := 4, pos := "law.go:107", after := #[{ on := 45, ground := Ground.data }, { on := 46, ground := Ground.data }, { on := 41, ground := Ground.guard }], guard := some (41, false) }) (v := undef) rfl (by kernel_rfl) (by kernel_rfl) (by kernel_rfl) (fun _ _ _ h => h) (Or.inr ⟨by rfl, rfl⟩) (by assumption) ?_
              try simp only [Act.put, List.setIfInBounds_toArray, List.set_cons_zero, List.set_cons_succ]
              refine wpAnyH_take (i := 48) (oi := { dst := some 140, op := Op.pick (Operand.tmp 133) (Operand.const (Value.bool true)) (Operand.tmp 139), type := 4, pos := "law.go:107", after := #[{ on := 41, ground := Ground.data }, { on := 47, ground := Ground.data }, { on := 35, ground := Ground.guard }], guard := some (35, true) }) (v := undef) rfl (by kernel_rfl) (by kernel_rfl) (by kernel_rfl) (fun _ _ _ h => h) (Or.inr ⟨by rfl, rfl⟩) (by assumption) ?_
              try simp only [Act.put, List.setIfInBounds_toArray, List.set_cons_zero, List.set_cons_succ]
              refine wpAnyH_take (i := 49) (oi := { dst := some 141, op := Op.pick (Operand.tmp 127) (Operand.tmp 140) (Operand.const (Value.bool false)), type := 4, pos := "law.go:107", after := #[{ on := 35, ground := Ground.data }, { on := 48, ground := Ground.data }, { on := 31, ground := Ground.guard }], guard := some (31, false) }) (v := ?_) rfl (by kernel_rfl) (by kernel_rfl) (by kernel_rfl) (fun _ _ _ h => h) (Or.inl ⟨by rfl, ?_⟩) (by assumption) ?_
              rotate_left 1
              · intro w9 hSw; (try dsimp only at hSw); go_simp; try with_reducible rfl
              try simp only [Act.put, List.setIfInBounds_toArray, List.set_cons_zero, List.set_cons_succ]
              refine wpAnyH_take (i := 50) (oi := { dst := some 142, op := Op.pick (Operand.tmp 123) (Operand.const (Value.bool true)) (Operand.tmp 141), type := 4, pos := "law.go:107", after := #[{ on := 31, ground := Ground.data }, { on := 49, ground := Ground.data }], guard := none }) (v := ?_) rfl (by kernel_rfl) (by kernel_rfl) (by kernel_rfl) (fun _ _ _ h => h) (Or.inl ⟨by rfl, ?_⟩) (by assumption) ?_
              rotate_left 1
              · intro w9 hSw; (try dsimp only at hSw); go_simp; try with_reducible rfl
              try simp only [Act.put, List.setIfInBounds_toArray, List.set_cons_zero, List.set_cons_succ]
              refine wpAnyH_done (by kernel_rfl) ?_ _
              clear hHeld2
              clear z0 z1 z2 z3 z4 z5 z6 z7 z8 z9 v0 v1 v2 v3 v4 v5 v6 v7 v8 v9 u0 u1 u2 u3 u4 u5 u6 u7 u8 u9 XA XB XC HA HB R6 RB y1 y2 y3
              go_wp2
              go_roundw
              case rel => exact ⟨j + 1, by omega, by go_num, hide ((unhide HC).less (by simp)), RC⟩
              case measure => simp [intOf]; omega
            · rw [hsm] at XA y2
              obtain ⟨y5, y6⟩ := unhide HY4 hsm
              obtain ⟨z0, z1, z2, z3, z4, z5, z6, z7, z8, z9⟩ := unhide XA
              dsimp only at z2 z3 z4 z5 z6 z7 z8 z9
              have HSM := hide hsm
              clear hsm
              go_region_held3 (fun w' => w'.cell? ⟨bz, j, none⟩ = some (.int .i64 (T.sizeI j)) ∧ w'.cell? ⟨bb, j, none⟩ = some (.bool true) ∧ w'.cell? ⟨bs, j * 4, none⟩ = some (.int .i64 sc) ∧ w'.cell? ⟨bs, j * 4 + 1, none⟩ = some (.int .i64 ss) ∧ w'.cell? ⟨bs, j * 4 + 2, none⟩ = some (.int .i64 sa) ∧ w'.cell? ⟨bs, j * 4 + 3, none⟩ = some (.int .i64 sb) ∧ w'.cell? ⟨b9, 0, none⟩ = some (.int .i64 sc) ∧ w'.cell? ⟨b9, 1, none⟩ = some (.int .i64 ss) ∧ w'.cell? ⟨b9, 2, none⟩ = some (.int .i64 sa) ∧ w'.cell? ⟨b9, 3, none⟩ = some (.int .i64 sb))
                (simp [go_sem, *])
                (first
                  | (go_at_call 47; refine ((unhide HA).call fun _ ha => aSize _ ha).mono ?_; rw [y3]; rintro e w6 ⟨rfl, h6, k6⟩; have HB := hide h6; have RB := hide ((unhide R6).kept k6 (by simp) (by simp) (by simp)); have XB := hide ((unhide XA).kept k6 (by simp) (by simp) (by simp) (by simp)); (obtain ⟨v0, v1, v2, v3, v4, v5, v6, v7, v8, v9⟩ := unhide XB); dsimp only at v2 v3 v4 v5 v6 v7 v8 v9; clear h6 k6)
                  | (go_at_call 43; refine ((unhide HB).call fun _ ha => aSame _ _ ha).mono ?_; rw [y2]; rintro e w7 ⟨rfl, h6, k6⟩; have HC := hide h6; have RC := hide ((unhide RB).kept k6 (by simp) (by simp) (by simp)); have XC := hide ((unhide XB).kept k6 (by simp) (by simp) (by simp) (by simp)); (obtain ⟨u0, u1, u2, u3, u4, u5, u6, u7, u8, u9⟩ := unhide XC); dsimp only at u2 u3 u4 u5 u6 u7 u8 u9; clear h6 k6)
                  | (go_at_call 39; refine ((unhide HC).call fun _ ha => aRoot _ ha).mono ?_; rw [y5]; rintro e w8 ⟨rfl, h6, k6⟩; have HD := hide h6; have RD := hide ((unhide RC).kept k6 (by simp) (by simp) (by simp)); have XD := hide ((unhide XC).kept k6 (by simp) (by simp) (by simp) (by simp)); (obtain ⟨r0, r1, r2, r3, r4, r5, r6, r7, r8, r9⟩ := unhide XD); dsimp only at r2 r3 r4 r5 r6 r7 r8 r9; clear h6 k6)
                  | (go_at_call 45; refine ((unhide HD).call fun _ ha => aLca _ _ ha).mono ?_; rw [y6]; rintro e w9 ⟨rfl, h6, k6⟩; have HE := hide h6; have RE := hide ((unhide RD).kept k6 (by simp) (by simp) (by simp)); have XE := hide ((unhide XD).kept k6 (by simp) (by simp) (by simp) (by simp)); (obtain ⟨s0, s1, s2, s3, s4, s5, s6, s7, s8, s9⟩ := unhide XE); dsimp only at s2 s3 s4 s5 s6 s7 s8 s9; clear h6 k6))
              clear z0 z1 z2 z3 z4 z5 z6 z7 z8 z9 v0 v1 v2 v3 v4 v5 v6 v7 v8 v9 u0 u1 u2 u3 u4 u5 u6 u7 u8 u9 r0 r1 r2 r3 r4 r5 r6 r7 r8 r9 s0 s1 s2 s3 s4 s5 s6 s7 s8 s9 XA XB XC XD XE HA HB HC HD R6 RB RC RD y1 y2 y3 y5 y6
              go_wp2
              go_roundw
              case rel => exact ⟨j + 1, by omega, by go_num, hide ((unhide HE).less (by simp)), RE⟩
              case measure => simp [intOf]; omega
          · have e3 : ¬ (j : Int) < (n : Int) := by omega
            have e4 : (0 : Int) ≤ (v : Int) := by omega
            have e5 : (v : Int) < 30 := by omega
            obtain ⟨hts, x5, x6, x7⟩ := unhide X8
            go_wp2_with fail
            refine ((unhide H0).call fun _ ha => aSub _ ha).mono ?_
            rw [hts, x5]
            dsimp only
            rintro e W4 ⟨rfl, h, k⟩
            have H4 := hide h
            have R4 := hide ((unhide R).kept k (by simp) (by simp) (by simp))
            clear h k H0 R
            go_wp2_with fail
            refine (awake_any _).mono ?_
            rintro e W5 ⟨rfl, hb⟩
            obtain ⟨h, k⟩ := (unhide H4).below hb
            have H5 := hide h
            have R5 := hide ((unhide R4).kept k (by simp) (by simp) (by simp))
            have dz := (unhide R5).rz.cell (show v < 30 by omega)
            unfold inV at dz
            rw [(unhide R5).ez v hca] at dz
            clear h k hb H4 R4 hts
            go_wp2_with fail
            refine ((unhide H5).call fun _ ha => aEvert _ ha).mono ?_
            rw [x5, x6]
            rintro e W6 ⟨rfl, h, k⟩
            have H6 := hide h
            clear h k H5 R5 dz
            go_wp2_with fail
            refine ((unhide H6).call fun _ ha => aRoot _ ha).mono ?_
            rw [x7]
            rintro e W7 ⟨rfl, h, k⟩
            have H7 := hide h
            clear h k H6
            go_wp2_with fail
            refine ((unhide H7).call fun _ ha => aCheck ha).mono ?_
            rintro e W8 ⟨rfl, h, k⟩
            have H8 := hide h
            clear h k H7
            go_wp2
            go_ret
            exact ⟨rfl, (unhide H8).bel⟩
end Go.Proofs.Ytjnkgakajenoaaa
