/- wait.Victims, walked: those that are taken, rising, in a row of its own; nothing that was there has turned. Conditions: how many edges there are; the library's table is as its initialiser lays it. -/
import Derived.Test.YtbgcldckgiiedacDoorWaitBest
import Derived.Test.YtbgcldckgiiedacDoorWaitWo
import Derived.Test.YtbgcldckgiiedacDoorWaitSrt
namespace Go.Proofs.YtbgcldckgiiedacDoor.PWait
open Go Go.RowKit PPool PGraph
set_option maxRecDepth 100000

def slLen : Value → Nat
  | .slice _ n _ => n
  | _ => 0
theorem in_right {n : Nat} {X : List Gr.Ed} (hn : n ≤ 60) (hl : X.length ≤ 2000) (h : Wa.In X n) : Right n X := ⟨hn, hl, fun _ he => h.ed he⟩

theorem pg_grown {w w' : World} {a : Option Addr} {X : List Gr.Ed} {own : Option Nat} (h : PgAt w a X) (hg : w.grownBy w' own) (hne : ∀ q, a = some q → own ≠ some q.block) : PgAt w' a X := fun j x hj => by
  obtain ⟨b, o, e, h1, h2⟩ := h j x hj
  have hlt := World.block_lt_of_cell? w _ h1
  have := hg.block b hlt (fun e' => hne _ e e'.symm)
  exact ⟨b, o, e, (World.cell?_of_block (a := ⟨b, o + j * 2, none⟩) this).trans h1, (World.cell?_of_block (a := ⟨b, o + j * 2 + 1, none⟩) this).trans h2⟩

set_option maxHeartbeats 4000000 in
theorem victims_any (w : World) (n : Int) (a : Option Addr) (c : Nat) (X : List Gr.Ed) (h : PgAt w a X) (hl : X.length ≤ 9223372036854775807) (hT : Tab w) :
    Calls Tryd.prog 6 #[.int .i64 n, .slice a X.length c] w fun e w' => ∃ v, e = .returned (.tuple #[v, .int .i64 (Gr.check n X)]) ∧ OwnNats w' w.heap.size v (Wa.rise (Wa.taken n X)) ∧ Below w.heap.size w w' := by
  have HC := hid (check_any w n a c X h hl)
  by_cases h0 : Gr.check n X = 0
  · obtain ⟨n, rfl, hR⟩ := Right.of h0
    have H := hid h
    have hn := hR.1
    have hX2 := hR.2.1
    have HIn := hid (right_in hR)
    have e2 : Wa.taken (n : Int) X = Wa.vic n X.length X [] := by unfold Wa.taken; rw [if_pos h0, Int.toNat_natCast]
    rw [h0] at HC ⊢
    rw [e2]
    obtain ⟨Y, hY⟩ : ∃ Y, Y = Wa.vic n X.length X [] := ⟨_, rfl⟩
    rw [← hY]
    have HY := hid hY
    have HT := hid hT
    obtain ⟨i0, hi, hz0, hz1, hz2⟩ := info_parts int_info3
    clear h h0 e2 hR hY hT
    go_enter Tryd.func6, Tryd.ntmps6
    go_wp2_with fail
    refine (HC.out).mono ?_
    rintro r w1 ⟨rfl, hb1⟩
    have P0 := hid (H.out.below hb1)
    have T0 := hid (HT.out.below hb1)
    have B0 := hid hb1
    obtain ⟨w3, hw3⟩ : ∃ w3, w3 = w1 := ⟨_, rfl⟩
    rw [← hw3] at P0 T0 B0 ⊢
    clear hb1 HC hw3
    go_wp2_with fail
    go_loopw [1, 7, 8] (fun sv tv _ wr => ∃ (X' : List Gr.Ed) (l : List Nat) (f : Nat) (a' : Option Addr) (c' : Nat) (T : Value), sv = .slice a' X'.length c' ∧ T = tv ∧ Hid (PgAt wr a' X') ∧ Hid (Wa.In X' n) ∧ X'.length ≤ f ∧ Hid (Wa.vic n f X' l = Y) ∧ l.length + X'.length ≤ 2000 ∧ Hid (OwnNats wr w3.heap.size T l) ∧ Hid (∀ q, a' = some q → T.ownBlock ≠ some q.block) ∧ Hid (Below w3.heap.size w3 wr)) (fun sv _ _ _ => slLen sv)
    case atStart => exact ⟨X, [], X.length, a, c, _, rfl, rfl, P0, HIn, Nat.le_refl _, by show _ = _; rw [HY.out], by simpa using hX2, OwnR.nil _ _, (fun q _ => by simp [Value.ownBlock]), Below.refl _ _⟩
    case round =>
      clear P0 HY H HIn hX2
      obtain ⟨X', l, f, a', c', v, rfl, rfl, hP, hI, hf, hV, hlen, hO, hS, hb⟩ := hrel
      have KB := hid (best_any wr n a' c' X' hP.out (in_right hn (by omega) hI.out) (T0.out.below hb.out))
      have HWN := fun h => Wa.vic_end (n := n) (f := f) (X := X') (l := l) h
      have HWS := fun h => Wa.worst_some (X := X') (n := n) h
      by_cases hz : Wa.worst X' n = -1
      · have HV : Hid (l = Y) := by show _ = _; rw [← hV.out, HWN hz]
        rw [hz] at KB
        have KS := hid fun W hO => sort_any W w3.heap.size v l hO (by omega)
        clear HWN HWS hz hV
        go_wp2_with fail
        refine (KB.out).mono ?_
        rintro r w4 ⟨rfl, hb4⟩
        have K2 := hid (KS.out w4 (hO.out.below hb4))
        have B4 := hid (below_tr hb.out hb4)
        have HG := hid fun b hb => ((hO.out.below hb4).lt b hb).1
        clear hb4 KB KS hO hb
        go_wp2_with fail
        refine (K2.out).mono ?_
        rintro r w5 ⟨rfl, ho5, hg5⟩
        have O5 : Hid (OwnNats w5 w3.heap.size v (Wa.rise Y)) := by show OwnNats _ _ _ _; rw [← HV.out]; exact ho5
        have B5 : Hid (Below w3.heap.size w3 w5) := B4.out.grown hg5 B4.out.size HG.out
        clear ho5 hg5 K2 B4 HG
        go_wp2_with fail
        go_ret2
        exact ⟨_, rfl, O5.out.lower B0.out.size, below_tr B0.out B5.out⟩
      · obtain ⟨k, hk, hk1, hk2⟩ := HWS hz
        rw [hk] at KB
        obtain ⟨f', hf', hV'⟩ := Wa.vic_step (l := l) hk hk2 hf
        have HL := hid (Wa.wo_less hk2)
        have HV2 : Hid (Wa.vic n f' (Wa.wo X' k) (l ++ [k]) = Y) := by show _ = _; rw [← hV', hV.out]
        have HI2 := hid (Wa.wo_in (k := (k : Int)) hI.out)
        have j1 : ((k : Int) == -1) = false := by first | (simp; done) | (simp; omega)
        have hown : Hid (∀ W, Below wr.heap.size wr W → W.ownsRow w3.heap.size 3 1 v l.length (l.map nc)) := fun W h => hO.out.below h
        have KW := hid fun W h => without_any W a' c' X' (k : Int) h (by omega)
        obtain ⟨D2, hD2⟩ : ∃ D2, D2 = l ++ [k] := ⟨_, rfl⟩
        rw [← hD2] at HV2
        have HD2 := hid hD2
        have hl2 : D2.length = l.length + 1 := by rw [hD2]; simp
        obtain ⟨av, cv, rfl, -⟩ := hO.out.at_
        clear HWN HWS hz hV hk hk2 hV' hI hD2
        go_wp2_with fail
        refine (KB.out).mono ?_
        rintro r w4 ⟨rfl, hb4⟩
        have B4 := hid (below_tr hb.out hb4)
        have hown1 : w4.ownsRow w3.heap.size 3 1 (.slice av l.length cv) l.length (l.map nc) := hown.out w4 hb4
        have P4 := hid (hP.out.below hb4)
        have hbs := B4.out.size
        clear hb4 KB hO hb hown hP
        go_wp2_with (at_builtin; refine wpList_append_own _ rfl _ _ 25 rfl w3.heap.size 3 i0 (.int .i64 0) 1 8 Tryd.underlying25 hi hz0 hz1 hz2 rfl (by decide) _ _ _ rfl (hown1.alloc _) ⟨w4.heap.size, 0, none⟩ 1 1 [nc k] rfl rfl ?c1 ?c2 ?c3 ?c4 ?c5 ?_)
        case c1 => exact cell_one_new _ _ _
        case c2 => exact nats_one [k]
        case c3 => unfold maxLen; omega
        case c4 => omega
        case c5 => simp; omega
        intro v' w5 hown' hgrow hnil
        have O5 : Hid (OwnNats w5 w3.heap.size v' D2) := by show OwnNats _ _ _ _; rw [HD2.out]; exact OwnR.grows hown'
        have B5 : Hid (Below w3.heap.size w3 w5) := (B4.out.alloc hbs _).grown hgrow (by rw [World.size_alloc]; omega) (fun b hb => (hown1.lt b hb).1)
        have K5 := hid (KW.out w5 (pg_grown (P4.out.below (bx _ _)) hgrow hS.out))
        clear hown' hgrow hnil hown1 hS KW P4 B4
        go_wp2_with fail
        refine (K5.out).mono ?_
        rintro r w6 ⟨v6, rfl, ho6, hb6⟩
        have HS6 := hid fun q hq => (O5.out.lt q hq).2
        have O6 := hid (O5.out.below hb6)
        have B6 := hid (below_tr B5.out hb6)
        obtain ⟨a6, c6, rfl, hp6, hg6, -⟩ := ho6.at_
        have P6 := hid hp6
        have S6 : Hid (∀ q, a6 = some q → v'.ownBlock ≠ some q.block) := fun q hq e => by
          have h1 := hg6 q hq
          have h2 := HS6.out _ e
          omega
        clear hb6 ho6 hp6 hg6 HS6 O5 B5 K5
        go_wp2_with fail
        go_roundw
        case rel => exact ⟨Wa.wo X' k, D2, f', a6, c6, v', rfl, rfl, P6, HI2, hf', HV2, by have := HL.out; omega, O6, S6, B6⟩
        case measure => simp only [slLen]; exact HL.out
  · have e2 : Wa.taken n X = [] := by unfold Wa.taken; exact if_neg h0
    rw [e2, Wa.rise_nil]
    generalize Gr.check n X = Y at *
    have j1 : (Y != 0) = true := by simpa using h0
    clear h h0 e2 hT
    go_enter Tryd.func6, Tryd.ntmps6
    go_wp2_with fail
    refine (HC.out).mono ?_
    rintro r w1 ⟨rfl, hb1⟩
    go_wp2_with fail
    go_ret2
    exact ⟨_, rfl, OwnR.nil _ _, hb1⟩
end Go.Proofs.YtbgcldckgiiedacDoor.PWait
