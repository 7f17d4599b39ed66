/- quirlaw.LeafSays, a part of it, walked. The page that is wanted, made. -/
import Derived.Test.YtiaddijibaclkaaLeafSaysD4
namespace Go.Proofs.Ytiaddijibaclkaa.PLeaf
open Go Go.RowKit
set_option maxRecDepth 100000

set_option maxHeartbeats 8000000 in
theorem tail16 {x0 x3 x5 x6 x7 x8 x9 x10 x11 x19 x20 x21 x22 x23 x24 x26 x27 x28 x29 x30 x31 x32 x33 x34 x35 x36 x37 x38 x39 x40 x41 x42 x43 x44 x45 x46 x47 x48 x49 x50 x51 x52 x53 x54 x55 x56 x57 x58 x59 x60 x61 x62 x63 x64 x65 x66 x67 x68 x69 x70 x71 x72 x73 x74 x75 x76 x77 x78 x79 x80 x81 x82 x83 x84 x85 x86 x87 x88 x89 x90 x91 x92 x93 x94 x95 x96 x97 x98 x99 x100 x101 x102 x103 x104 x105 x106 x107 x108 x109 x110 x111 x112 x113 x114 x115 x116 x117 x118 x119 x120 x121 x122 x123 x124 x125 x126 x127 x128 x129 x130 x131 x132 x133 x134 x135 x136 x137 x138 x139 x140 x141 x142 x143 x144 x145 x146 x147 x148 x149 x150 x151 x152 x153 x154 x155 x156 x157 x158 x159 x160 x161 x162 x163 x164 x165 x166 x167 x168 x169 x170 x171 x172 x173 x174 x175 x176 x177 x178 x179 x180 x181 x182 x183 x184 x185 x186 x187 x188 x189 x190 x191 x192 x193 x194 x195 x196 x197 x198 x199 x200 x201 x202 x203 x204 x205 x206 x207 x208 x209 x210 x211 x212 x213 x214 x215 x216 x217 x218 x219 x220 x221 x222 x223 x224 x225 x226 x227 x228 x229 x230 x231 x232 x233 x234 x235 x236 x237 x238 x239 x240 x241 x242 x243 x244 x245 x246 x247 x248 x249 x250 x251 x252 x253 x254 x255 x256 x257 x258 x259 x260 x261 x262 x263 x264 x265 x266 x267 x268 x269 x270 x271 x272 x273 x274 x275 x276 x277 x278 x279 x280 x281 x282 x283 x284 x285 x286 x287 x288 x289 x290 x291 x292 x293 x294 x295 x296 x297 x298 x299 x300 x301 x302 x303 x304 x305 x306 x307 x308 : Value}
    (w W : World) (a : Option Addr) (c : Nat) (X : List Lf.Sl) (qb rb nb : Nat) (aq : Option Addr) (cq : Nat) (Q : List Lf.Sl) (ar : Option Addr) (cr : Nat) (D : List Lf.Sl) (L : LS w W a c X qb rb nb aq cq Q ar cr D) (t : ByteArray) (ht : t.size ≤ 140737488355328) (P2 P3 : Nat) (hP : (Q, P2, P3) = Lf.put X t) (k : Int) (G1 : ByteArray) (G2 D2 : Nat) (hc : Lf.check X = 0) (hG : (G1, G2) = Lf.get X k) (hD : (D, D2) = Lf.drop X k) (hDl : D.length ≤ 40) :
    Code.wp Try.prog (fromR 16 (Try.f7.body.getD .skip)) (bodyPost Try.prog Try.f7 fun e w' => e = .returned (.bool true) ∧ Below w.heap.size w w') ⟨List.toArray (x0 :: (.string t) :: (.int .i64 k) :: x3 :: (.pointer (some ⟨w.heap.size, 0, none⟩)) :: x5 :: x6 :: x7 :: x8 :: x9 :: x10 :: x11 :: (.pointer (some ⟨qb, 0, none⟩)) :: (.int .i64 (P2 : Int)) :: (.int .i64 (P3 : Int)) :: (.string G1) :: (.int .i64 (G2 : Int)) :: (.pointer (some ⟨rb, 0, none⟩)) :: (.int .i64 (D2 : Int)) :: x19 :: x20 :: x21 :: x22 :: x23 :: x24 :: (.pointer (some ⟨nb, 0, none⟩)) :: x26 :: x27 :: x28 :: x29 :: x30 :: x31 :: x32 :: x33 :: x34 :: x35 :: x36 :: x37 :: x38 :: x39 :: x40 :: x41 :: x42 :: x43 :: x44 :: x45 :: x46 :: x47 :: x48 :: x49 :: x50 :: x51 :: x52 :: x53 :: x54 :: x55 :: x56 :: x57 :: x58 :: x59 :: x60 :: x61 :: x62 :: x63 :: x64 :: x65 :: x66 :: x67 :: x68 :: x69 :: x70 :: x71 :: x72 :: x73 :: x74 :: x75 :: x76 :: x77 :: x78 :: x79 :: x80 :: x81 :: x82 :: x83 :: x84 :: x85 :: x86 :: x87 :: x88 :: x89 :: x90 :: x91 :: x92 :: x93 :: x94 :: x95 :: x96 :: x97 :: x98 :: x99 :: x100 :: x101 :: x102 :: x103 :: x104 :: x105 :: x106 :: x107 :: x108 :: x109 :: x110 :: x111 :: x112 :: x113 :: x114 :: x115 :: x116 :: x117 :: x118 :: x119 :: x120 :: x121 :: x122 :: x123 :: x124 :: x125 :: x126 :: x127 :: x128 :: x129 :: x130 :: x131 :: x132 :: x133 :: x134 :: x135 :: x136 :: x137 :: x138 :: x139 :: x140 :: x141 :: x142 :: x143 :: x144 :: x145 :: x146 :: x147 :: x148 :: x149 :: x150 :: x151 :: x152 :: x153 :: x154 :: x155 :: x156 :: x157 :: x158 :: x159 :: x160 :: x161 :: x162 :: x163 :: x164 :: x165 :: x166 :: x167 :: x168 :: x169 :: x170 :: x171 :: x172 :: x173 :: x174 :: x175 :: x176 :: x177 :: x178 :: x179 :: x180 :: x181 :: x182 :: x183 :: x184 :: x185 :: x186 :: x187 :: x188 :: x189 :: x190 :: x191 :: x192 :: x193 :: x194 :: x195 :: x196 :: x197 :: x198 :: x199 :: x200 :: x201 :: x202 :: x203 :: x204 :: x205 :: x206 :: x207 :: x208 :: x209 :: x210 :: x211 :: x212 :: x213 :: x214 :: x215 :: x216 :: x217 :: x218 :: x219 :: x220 :: x221 :: x222 :: x223 :: x224 :: x225 :: x226 :: x227 :: x228 :: x229 :: x230 :: x231 :: x232 :: x233 :: x234 :: x235 :: x236 :: x237 :: x238 :: x239 :: x240 :: x241 :: x242 :: x243 :: x244 :: x245 :: x246 :: x247 :: x248 :: x249 :: x250 :: x251 :: x252 :: x253 :: x254 :: x255 :: x256 :: x257 :: x258 :: x259 :: x260 :: x261 :: x262 :: x263 :: x264 :: x265 :: x266 :: x267 :: x268 :: x269 :: x270 :: x271 :: x272 :: x273 :: x274 :: x275 :: x276 :: x277 :: x278 :: x279 :: x280 :: x281 :: x282 :: x283 :: x284 :: x285 :: x286 :: x287 :: x288 :: x289 :: x290 :: x291 :: x292 :: x293 :: x294 :: x295 :: x296 :: x297 :: x298 :: x299 :: x300 :: x301 :: x302 :: x303 :: x304 :: x305 :: x306 :: x307 :: x308 :: []), []⟩ W := by
  conv => arg 2; whnf
  have h40 := (Lf.check_ok hc).1
  have hlen := L.inp.len
  have L2 := hid L
  have HP := hid hP
  have HG := hid hG
  have HD := hid hD
  have c4 := L.p.cell
  obtain ⟨Yv, hYv⟩ : ∃ Yv : Int, Yv = if Lf.first X = X.length then -1 else (Lf.first X : Int) := ⟨_, rfl⟩
  have KIx := hid (index_any W a c X L.inp.at_ (by omega))
  rw [← hYv] at KIx
  have HYv := hid hYv
  have KCl := hid fun W (hW : PgIn W a X) => pgClone_any W a c X hW.at_ hW.len
  have hl' : (X.length : Int) ≤ 40 := by omega
  clear hYv L hP hG hD
  go_wp2_with fail
  refine KIx.out.mono ?_
  rintro r w13 ⟨rfl, hb⟩
  have L3 := hid (L2.out.keep hb)
  replace c4 := L3.out.p.cell
  clear hb L2 KIx
  go_wp2_with fail
  refine (KCl.out _ L3.out.inp).mono ?_
  rintro r w14 ⟨v14, rfl, ho, hb⟩
  obtain ⟨a14, c14, rfl, _⟩ := ho.at_
  have hbx := bx w14 (.cells #[.slice a14 X.length c14] 73)
  have BW := hid (below_tr hb hbx)
  have O4 := hid (ho.keepAlloc (.cells #[.slice a14 X.length c14] 73))
  have W4 := hid (Bxd.new w14 (.slice a14 X.length c14))
  have HLT : Hid (∀ q, (Value.slice a14 X.length c14).ownBlock = some q → q < w14.heap.size) := fun q hq => (ho.lt q hq).2
  have c4' := (L3.out.keep BW.out).p.cell
  have hbb : w13.heap.size ≤ w14.heap.size := hb.size
  clear hb hbx ho c4 KCl
  go_upto_if 174 with fail
  have hsz : (w14.alloc (.cells #[.slice a14 X.length c14] 73)).heap.size = w14.heap.size + 1 := World.size_alloc _ _
  have HSZ := hid hsz
  generalize w14.alloc (.cells #[.slice a14 X.length c14] 73) = W5 at *
  generalize w14.heap.size = bb at *
  clear hsz
  go_cut [26] from 173 to 183 (fun i wx => i = .int .i64 (Lf.first X : Int) ∧ ∃ g cp, Hid (WantAt w13 wx bb g cp (Lf.room X)))
  case first =>
    by_cases hf : Lf.first X = X.length
    · have hR : Lf.room X = X ++ [Lf.none'] := by unfold Lf.room; rw [if_pos hf]
      have hln : (X ++ [Lf.none']).length = X.length + 1 := by simp
      have HR := hid hR
      have HFf := hid hf
      obtain rfl : Yv = -1 := by rw [HYv.out, if_pos hf]
      obtain ⟨i0, hi, hz0, hz1, hz2⟩ := info_parts slot_info
      have W4c := W4.out.cell
      have HLN := hid hln
      clear hf hR hln HYv
      go_wp2_with (at_builtin; refine wpList_append_own_at _ rfl _ _ 71 rfl w13.heap.size 90 i0 (.agg #[.bool false, .string ⟨#[]⟩]) 2 24 Try.underlying71 hi hz0 hz1 hz2 rfl (by decide) _ _ _ rfl (O4.out.keepAlloc _) ⟨W5.heap.size, 0, none⟩ 1 1 (sc Lf.none') rfl rfl ?qc2 ?qc3 ?qc4 ?qc5 ?qc6 ?_)
      case qc2 => exact none_cells W5
      case qc3 => exact sc_one _
      case qc4 => unfold maxLen; omega
      case qc5 => omega
      case qc6 => have := HSZ.out; rw [World.size_alloc]; omega
      intro v' w5 hown hgrow _ hat
      have o5 := OwnPg.grows hown
      obtain ⟨g, cp, rfl, _⟩ := o5.some (by simp)
      rw [HLN.out] at o5 ⊢
      have hne5 : some bb ≠ (Value.slice a14 X.length c14).ownBlock := fun e => by have := HLT.out _ e.symm; omega
      have b5 : Bxd w5 bb (.slice a14 X.length c14) := (hgrow.block bb (by have := HSZ.out; rw [World.size_alloc]; omega) hne5).trans (W4.out.keep (bx _ _))
      have hgb : g ≠ bb := by
        rcases hat with e | e
        · intro e'
          subst e'
          exact hne5 e
        · have e2 := e
          simp only [Value.ownBlock, Option.some.injEq] at e2
          have := HSZ.out
          omega
      have b5' : Below w13.heap.size w13 w5 := (BW.out.alloc BW.out.size _).grown hgrow (BW.out.alloc BW.out.size _).size (fun q hq => (O4.out.lt q hq).1)
      have WA : Hid (∃ g' cp', Hid (WantAt w13 (w5.setCell ⟨bb, 0, none⟩ (.slice (some ⟨g, 0, none⟩) (X.length + 1) cp)) bb g' cp' (Lf.room X))) := by
        have := WantAt.store (v := .slice a14 X.length c14) b5' b5 o5 hgb hbb HLN.out
        rw [HR.out]
        exact ⟨g, cp, this⟩
      have FX : Hid (Value.int .i64 (X.length : Int) = .int .i64 (Lf.first X : Int)) := by show _ = _; rw [HFf.out]
      have c5 := b5.cell
      have f5 := b5.fz
      clear hown hgrow hat o5 hne5 b5 hgb b5'
      go_wp2_with fail
      go_meet
      case rel => exact ⟨FX.out, WA.out⟩
    · have hR : Lf.room X = X := by unfold Lf.room; rw [if_neg hf]
      have hfl := Lf.first_le X
      have HR := hid hR
      have eY : Yv = (Lf.first X : Int) := by rw [HYv.out, if_neg hf]
      subst eY
      have hy0 : ¬ (Lf.first X : Int) < 0 := by omega
      have hy1 : decide ((Lf.first X : Int) < 0) = false := by simp
      have WA : Hid (∃ g cp, Hid (WantAt w13 W5 bb g cp (Lf.room X))) := by
        obtain ⟨g, cp, e, _⟩ := O4.out.some (by omega)
        rw [e] at O4 W4 HLT
        rw [HR.out]
        exact ⟨g, cp, ⟨BW.out, W4.out, O4.out, fun e' => by have := HLT.out g rfl; omega, hbb⟩⟩
      clear hf hR HYv
      go_wp2_with fail
      go_meet
      case rel => exact ⟨rfl, WA.out⟩
  case rest =>
    obtain ⟨rfl, g, cp, hWA⟩ := hcut
    clear BW O4 W4 HLT HSZ HYv c4'
    obtain ⟨y, hy⟩ : ∃ y, (Lf.room X)[Lf.first X]? = some y := ⟨_, List.getElem?_eq_getElem (Lf.room_lt X)⟩
    have hFl : Lf.first X < (Lf.room X).length := Lf.room_lt X
    obtain ⟨m3, m4, m5, m6⟩ := hWA.out.own.spot hy
    have b27 := hWA.out.box.cell
    have WZ : Hid (WantAt w13 ((wc.setCell ⟨g, Lf.first X * 2, none⟩ (.bool true)).setCell ⟨g, Lf.first X * 2 + 1, none⟩ (.string t)) bb g cp (Lf.putX X t)) := hWA.out.put (Lf.first X) hFl true t
    have hrl : (Lf.putX X t).length ≤ 41 := by rw [Lf.putX_len, Lf.room_len]; split <;> omega
    have HTZ : Hid (Txs (Lf.putX X t)) := by
      show Txs _
      unfold Lf.putX Lf.room
      split
      · exact (L3.out.inp.txs.snoc Lf.none' (by show (0 : Nat) ≤ _; omega)).set _ _ ht
      · exact L3.out.inp.txs.set _ _ ht
    have HPZ : Hid ((Q, P2, P3) = if Lf.check (Lf.putX X t) = 0 then (Lf.putX X t, Lf.first X, 0) else ([], 0, 8)) := by show _ = _; rw [HP.out]; unfold Lf.put; rw [if_pos hc]
    have f0 : (0 : Int) ≤ (Lf.first X : Int) := by omega
    have f1 : (Lf.first X : Int) < ((Lf.room X).length : Int) := by omega
    clear HP hWA hy
    go_upto_region 21 with fail
    go_cut [] from 184 to 189 (fun wx => Hid (WantAt w13 wx bb g cp (Lf.putX X t)))
    case first =>
      go_wp2_with fail
      go_meet
      case rel => exact WZ
    case rest =>
      apply_assumption
      exact tail22 w w13 _ a c X qb rb nb aq cq Q ar cr D L3.out bb g cp _ hcut.out t ht _ P2 P3 HPZ.out (fun e => Lf.putX_big e) hrl HTZ.out k G1 G2 D2 hc HG.out HD.out hDl

