/- tree's rowBelow and Levels, walked: level by level how many keys each node has, in memory of its own. -/
import Derived.Test.YtlefcjgemojhpahTreePD
import Derived.Test.YtlefcjgemojhpahTreeLv
namespace Go.Proofs.Ytlefcjgemojhpah.PTree
open Go Go.RowKit PPool
set_option maxRecDepth 100000
theorem wpList_app_P {ops : Array Oper} {rest : List Oper} {o : Oper} {a : Act} {w : World} {Q : Exit → Act → World → Prop} (hgd : o.guard = none) (s x : Operand)
    (ho : o.op = .call { callee := .builtin .append, args := #[s, x], argTypes := #[73, 73] })
    (v : Value) (Y : List Nat) (hs : a.eval s = v) (hown : TP.OwnPg w 0 v (Y.map pt)) (xa : Option Addr) (c n : Nat) (X : List Nat) (hn : X.length = n) (hx : a.eval x = .slice xa n c) (hX : TP.PgAt w xa (X.map pt))
    (hc : xa = none → c = 0) (h63 : Y.length + n ≤ 4000)
    (h : ∀ v' w', TP.OwnPg w' 0 v' ((Y ++ X).map pt) → Goes (ownB v) w w' (ownB v') → wpList Try.prog ops Q rest (a.put o.dst v') w') :
    wpList Try.prog ops Q (o :: rest) a w := by
  subst hn
  refine wpList_plain hgd fun K hK => ?_
  obtain ⟨v', w', hr, h2, h3⟩ := run_app_P o.type v Y hown xa c X hX hc h63
  unfold Oper.wp execOp
  simp only [ho, resolve, invoke, builtin, Sem.run_bind, Sem.run_pure, Result.andThen_ok, List.map_toArray, List.map_cons, List.map_nil, hs, hx, hr]
  exact hK _ _ (h v' w' h2 h3)
theorem own_raise {w : World} {b : Nat} {v : Value} {X : List TP.Pt} (h : TP.OwnPg w 0 v X) (hb : ∀ k, v.ownBlock = some k → b ≤ k) : TP.OwnPg w b v X := by
  refine ⟨h.1, ?_⟩
  rcases h.2 with e | ⟨g, cap, cur, hv, _, r⟩
  · exact .inl e
  · exact .inr ⟨g, cap, cur, hv, hb g (by rw [hv]; rfl), r⟩
theorem below_goes {b : Nat} {w w1 w2 : World} {v v' : Value} (hb : Below b w w1) (g : Goes (ownB v) w1 w2 (ownB v')) (hv : ∀ k, ownB v k → b ≤ k) (hs : b ≤ w1.heap.size) : Below b w w2 ∧ ∀ k, ownB v' k → b ≤ k :=
  ⟨⟨g.os.trans hb.os, g.tape.trans hb.tape, g.output.trans hb.output, Nat.le_trans hb.size g.size, fun k hk => (g.block k (by omega) fun e => by have := hv k e; omega).trans (hb.block k hk)⟩,
   fun k hk => by rcases g.grow k hk with e | e; exact hv k e; omega⟩
def csOf (M : Sto) (p : Nat) : List Nat := ((M p).map (·.cs)).getD []
set_option maxHeartbeats 2000000 in
theorem row_any (w : World) (o : Lab) (M : Sto) (hM : Mem w o M) (a : Option Addr) (c : Nat) (ps : List Nat) (hps : TP.PgAt w a (ps.map pt)) (hin : ∀ p ∈ ps, M p ≠ none) (hl : (ps.flatMap (csOf M)).length ≤ 2000) (hpl : ps.length ≤ 4000) :
    Calls Try.prog 38 #[.slice a ps.length c] w fun e w' => ∃ v, e = .returned v ∧ TP.OwnPg w' w.heap.size v ((ps.flatMap (csOf M)).map pt) ∧ Below w.heap.size w w' := by
  have HM := hid hM
  have HP := hid hps
  have HI := hid hin
  have HL := hid hl
  obtain ⟨N, hN⟩ : ∃ N, N = ps.length := ⟨_, rfl⟩
  rw [← hN] at hpl ⊢
  have HN := hid hN
  clear hM hps hin hl hN
  go_enter Try.func38, Try.ntmps38
  go_wp2_with fail
  go_loopw [3, 8] (fun v i wr => ∃ k : Nat, k ≤ N ∧ i = .int .i64 (k : Int) ∧ Hid (TP.OwnPg wr w.heap.size v (((ps.take k).flatMap (csOf M)).map pt)) ∧ Hid (Below w.heap.size w wr)) (fun _ i _ => N - (intOf i).toNat)
  case atStart => exact ⟨0, Nat.zero_le _, rfl, OwnR.nil _ _, Below.refl _ _⟩
  case round =>
    obtain ⟨k, hk, rfl, hO, hb⟩ := hrel
    by_cases hlt : k < N
    · obtain ⟨p, hp⟩ : ∃ p, ps[k]? = some p := ⟨_, List.getElem?_eq_getElem (by rw [← HN.out]; exact hlt)⟩
      obtain ⟨n, hn⟩ : ∃ n, M p = some n := by
        cases e : M p with
        | none => exact absurd e (HI.out p (List.mem_of_getElem? hp))
        | some n => exact ⟨n, rfl⟩
      have ep : (ps.map pt)[k]? = some (pt p) := by rw [List.getElem?_map, hp]; rfl
      obtain ⟨b, oo, rfl, d1⟩ := (RowAt.below HP.out hb.out) k _ ep
      obtain ⟨ae, ce, ab, cb, op⟩ := (HM.out.below hb.out).open_ hn
      have c1 := op.at_.c1
      have OB := hid op.b
      have hcs : csOf M p = n.cs := by simp [csOf, hn]
      have hT : ps.take (k + 1) = ps.take k ++ [p] := by
        rw [List.take_add_one, hp]; rfl
      have HT : Hid ((ps.take (k + 1)).flatMap (csOf M) = (ps.take k).flatMap (csOf M) ++ n.cs) := by
        show _ = _
        rw [hT, List.flatMap_append]
        simp [hcs]
      have HB : Hid (((ps.take k).flatMap (csOf M)).length + n.cs.length ≤ 4000) := by
        have h1 := congrArg List.length HT.out
        have h2 : ((ps.take (k + 1)).flatMap (csOf M)).length ≤ (ps.flatMap (csOf M)).length := by
          conv => rhs; rw [← List.take_append_drop (k + 1) ps]
          rw [List.flatMap_append, List.length_append]; omega
        have h3 := HL.out
        simp only [List.length_append] at h1
        show _ ≤ _
        omega
      have k0 : (0 : Int) ≤ (k : Int) := by omega
      have k1 : (k : Int) < (N : Int) := by omega
      simp only [pt] at d1
      obtain ⟨L, hL⟩ : ∃ L, L = n.cs.length := ⟨_, rfl⟩
      rw [← hL] at c1 OB HB
      have HLL := hid hL
      clear op hcs hT ep hp hn hL
      have OA := hid (own_none' OB.out)
      have OG := hid (TP.own_pg OB.out)
      have hge : Hid (∀ k, ownB u3 k → w.heap.size ≤ k) := fun q hq => (hO.out.lt q hq).1
      obtain ⟨va, vc, e, -⟩ := hO.out.at_
      subst e
      replace d1 : wr.cell? ⟨b, oo + k, none⟩ = some (.pointer (some ⟨p, 0, none⟩)) := d1
      have OX := hid (hO.out.lower (base' := 0) (Nat.zero_le _))
      clear hO
      generalize (ps.take k).flatMap (csOf M) = Z at *
      go_wp2_with (at_builtin; refine wpList_app_P rfl _ _ rfl _ Z rfl OX.out ab cb L n.cs HLL.out.symm rfl OG.out OA.out HB.out ?_)
      intro v' w' h1 h2
      rw [← List.map_append, ← HT.out] at h1
      obtain ⟨h3, h4⟩ := below_goes hb.out h2 (by simpa only [List.length_map] using hge.out) hb.out.size
      have R1 := hid (own_raise h1 h4)
      have R2 := hid h3
      clear h1 h2 h3 h4 OX
      go_wp2_with fail
      go_roundw
      case rel => exact ⟨k + 1, by omega, by go_num, R1, R2⟩
      case measure => simp [intOf]; omega
    · obtain rfl : k = N := by omega
      have j3 : decide ((k : Int) < (k : Int)) = false := by simp
      have HF : Hid (ps.take k = ps) := by show _ = _; rw [HN.out]; exact List.take_length
      rw [HF.out] at hO
      go_wp2_with fail
      go_ret
      exact ⟨_, rfl, hO.out, hb.out⟩
end Go.Proofs.Ytlefcjgemojhpah.PTree
