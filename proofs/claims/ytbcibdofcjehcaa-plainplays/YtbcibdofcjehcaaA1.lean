/- A forest of one node, in plain mathematics. -/
import Derived.Test.YtbcibdofcjehcaaG
namespace Go.Proofs.Ytbcibdofcjehcaa
set_option linter.unusedVariables false
set_option linter.unusedSimpArgs false

theorem addI_yes {T : Tr} {v w : Int} (h : T.addB v w = true) : T.addI v w = T.add v.toNat w := by simp [Tr.addI, h]
theorem addI_no {T : Tr} {v w : Int} (h : T.addB v w = false) : T.addI v w = T := by simp [Tr.addI, h]
theorem linkI_yes {T : Tr} {c p : Int} (h : T.linkB c p = true) : T.linkI c p = T.link c.toNat p.toNat := by simp [Tr.linkI, h]
theorem linkI_no {T : Tr} {c p : Int} (h : T.linkB c p = false) : T.linkI c p = T := by simp [Tr.linkI, h]
theorem setI_no {T : Tr} {v w : Int} (h : (T.hasI v && fitB w) = false) : T.setI v w = T := by rw [Tr.setI, h]; rfl
theorem cutI_yes {T : Tr} {v : Int} (h : T.cutB v = true) : T.cutI v = T.cut v.toNat := by simp [Tr.cutI, h]
theorem cutI_no {T : Tr} {v : Int} (h : T.cutB v = false) : T.cutI v = T := by simp [Tr.cutI, h]
theorem dropI_yes {T : Tr} {v : Int} (h : T.goB v = true) : T.dropI v = T.drop v.toNat := by simp [Tr.dropI, h]
theorem dropI_no {T : Tr} {v : Int} (h : T.goB v = false) : T.dropI v = T := by simp [Tr.dropI, h]
theorem evertI_yes {T : Tr} {v : Int} (h : T.hasI v = true) : T.evertI v = T.evert v.toNat := by simp [Tr.evertI, h]
theorem evertI_no {T : Tr} {v : Int} (h : T.hasI v = false) : T.evertI v = T := by simp [Tr.evertI, h]

section
variable {n k : Nat} {x : Int}
theorem new_has (n : Nat) (v : Int) : (Tr.new n).hasI v = false := by simp [Tr.hasI, Tr.new]
theorem new_cut (n : Nat) (v : Int) : (Tr.new n).cutB v = false := by simp [Tr.cutB, Tr.parI, new_has]
theorem new_go (n : Nat) (v : Int) : (Tr.new n).goB v = false := by simp [Tr.goB, new_has]
abbrev lone (n k : Nat) (x : Int) : Tr := (Tr.new n).add k x
theorem new_add (hk : k < n) (hx : fitB x = true) : (Tr.new n).addB k x = true := by
  simp [Tr.addB, new_has, hx]
  simp [Tr.new]; exact hk
theorem lone_wf (hk : k < n) : (lone n k x).Wf := (Tr.Wf.new n).add rfl hk
theorem lone_par : (lone n k x).par k = -1 := by simp [lone, Tr.add, updF]
theorem lone_wt : (lone n k x).wt k = x := by simp [lone, Tr.add, updF]
theorem lone_other {u : Nat} (h : u ≠ k) : (lone n k x).par u = -2 := by simp [lone, Tr.add, updF, h, Tr.new]
theorem lone_has : (lone n k x).hasI k = true := by rw [Tr.hasI_nat, lone_par]; rfl
theorem lone_add : (lone n k x).addB k x = false := by simp [Tr.addB, lone_has]
theorem lone_up (hk : k < n) : (lone n k x).up k = [k] := (lone_wf hk).up_root lone_par
theorem lone_root (hk : k < n) : (lone n k x).rootI k = k := by rw [Tr.rootI, Tr.upI_nat, lone_up hk]; rfl
theorem lone_parI : (lone n k x).parI k = -1 := by simp [Tr.parI, lone_has, lone_par]
theorem lone_same (hk : k < n) : (lone n k x).sameI k k = true := by
  simp only [Tr.sameI, lone_root hk]
  simp
theorem lone_lca (hk : k < n) : (lone n k x).lcaI k k = k := by
  rw [Tr.lcaI, Tr.upI_nat, lone_up hk]; simp [lcaL, meetL]
theorem lone_path (hk : k < n) : (lone n k x).pathI k k = one x := by
  rw [Tr.pathI, Tr.wayI, Tr.upI_nat, lone_up hk]
  simp [wayL, meetL, lone_wt]
  exact ofL_one x
theorem lone_sub (hk : k < n) : (lone n k x).subI k = one x := by
  rw [Tr.subI, if_pos lone_has, Int.toNat_natCast]
  have : (lone n k x).sub k = [k] := by
    have hp : (fun u => decide (k ∈ (lone n k x).up u)) = fun u => decide (u = k) := by
      funext u
      by_cases e : u = k
      · subst e; simp [lone_up hk]
      · rw [(lone n k x).up_gone (lone_other e)]; simp [e]
    unfold Tr.sub
    rw [hp]
    have : ∀ m, k < m → (List.range m).filter (fun u => decide (u = k)) = [k] := by
      intro m
      induction m with
      | zero => intro h; omega
      | succ m ih =>
        intro h
        rw [List.range_succ, List.filter_append]
        by_cases e : m = k
        · subst e
          rw [List.filter_eq_nil_iff.2 (fun u hu => by have := List.mem_range.1 hu; simp; omega)]
          simp
        · rw [ih (by omega)]; simp [e]
    exact this n hk
  rw [this]
  simp only [List.map_cons, List.map_nil, lone_wt, ofL_one]
theorem lone_size (hk : k < n) : (lone n k x).sizeI k = 1 := by rw [Tr.sizeI, lone_root hk, lone_sub hk]; rfl
theorem lone_link (hk : k < n) : (lone n k x).linkB k k = false := by simp [Tr.linkB, lone_root hk]
theorem lone_cut : (lone n k x).cutB k = false := by simp [Tr.cutB, lone_parI]
theorem lone_evert (hk : k < n) : (lone n k x).evert k = lone n k x := by
  unfold Tr.evert
  rw [lone_up hk]
  simp only [turn]
  have : updF (lone n k x).par k (-1) = (lone n k x).par := by
    funext u
    by_cases e : u = k
    · subst e; rw [updF_same, lone_par]
    · rw [updF_other _ _ e]
  rw [this]
theorem lone_get : (lone n k x).getI k = x := by simp [Tr.getI, lone_has, lone_wt]
theorem lone_go (hk : k < n) : (lone n k x).goB k = true := by
  simp only [Tr.goB, lone_has, Int.toNat_natCast, lone_par]
  have : (lone n k x).kidB k = false := by
    rw [Tr.kidB, List.any_eq_false]
    intro u _
    by_cases e : u = k
    · subst e; rw [lone_par]; simp
    · rw [lone_other e]; simp
  rw [this]; rfl
theorem lone_drop : (lone n k x).drop k = Tr.new n := by
  simp only [lone, Tr.drop, Tr.add, Tr.new]
  congr 1
  · funext u; by_cases e : u = k <;> simp [updF, e]
  · funext u; by_cases e : u = k <;> simp [updF, e]
end
end Go.Proofs.Ytbcibdofcjehcaa
