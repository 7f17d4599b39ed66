/- quirlaw.LeafSays, a part of it, walked. Behind a slot that is found: what Get and Drop say of it. -/
import Derived.Test.YtiaddijibaclkaaLeafSaysC
namespace Go.Proofs.Ytiaddijibaclkaa.PLeaf
open Go Go.RowKit
set_option maxRecDepth 100000

set_option maxHeartbeats 8000000 in
theorem tail29 {x0 x1 x3 x5 x6 x7 x8 x9 x10 x11 x12 x13 x14 x19 x20 x21 x22 x23 x24 x25 x26 x28 x29 x30 x31 x32 x33 x34 x35 x36 x37 x38 x39 x40 x41 x42 x43 x44 x45 x46 x47 x48 x49 x50 x51 x52 x53 x54 x55 x56 x57 x58 x59 x60 x61 x62 x63 x64 x65 x66 x67 x68 x69 x70 x71 x72 x73 x74 x75 x76 x77 x78 x79 x80 x81 x82 x83 x84 x85 x86 x87 x88 x89 x90 x91 x92 x93 x94 x95 x96 x97 x98 x99 x100 x101 x102 x103 x104 x105 x106 x107 x108 x109 x110 x111 x112 x113 x114 x115 x116 x117 x118 x119 x120 x121 x122 x123 x124 x125 x126 x127 x128 x129 x130 x131 x132 x133 x134 x135 x136 x137 x138 x139 x140 x141 x142 x143 x144 x145 x146 x147 x148 x149 x150 x151 x152 x153 x154 x155 x156 x157 x158 x159 x160 x161 x162 x163 x164 x165 x166 x167 x168 x169 x170 x171 x172 x173 x174 x175 x176 x177 x178 x179 x180 x181 x182 x183 x184 x185 x186 x187 x188 x189 x190 x191 x192 x193 x194 x195 x196 x197 x198 x199 x200 x201 x202 x203 x204 x205 x206 x207 x208 x209 x210 x211 x212 x213 x214 x215 x216 x217 x218 x219 x220 x221 x222 x223 x224 x225 x226 x227 x228 x229 x230 x231 x232 x233 x234 x235 x236 x237 x238 x239 x240 x241 x242 x243 x244 x245 x246 x247 x248 x249 x250 x251 x252 x253 x254 x255 x256 x257 x258 x259 x260 x261 x262 x263 x264 x265 x266 x267 x268 x269 x270 x271 x272 x273 x274 x275 x276 x277 x278 x279 x280 x281 x282 x283 x284 x285 x286 x287 x288 x289 x290 x291 x292 x293 x294 x295 x296 x297 x298 x299 x300 x301 x302 x303 x304 x305 x306 x307 x308 : Value}
    (w W0 W : World) (a : Option Addr) (c : Nat) (X : List Lf.Sl) (qb rb nb : Nat) (aq : Option Addr) (cq : Nat) (Q : List Lf.Sl) (ar : Option Addr) (cr : Nat) (D : List Lf.Sl) (L : LS w W0 a c X qb rb nb aq cq Q ar cr D) (hB : Below W0.heap.size W0 W) (bb : Nat) (v27 : Value) (hX : Bxd W bb v27) (hnew : W0.heap.size ≤ bb) (n : Nat) (tx : ByteArray) (hn : X[n]? = some ⟨true, tx⟩) (hD : D = Lf.trim (X.set n Lf.none')) (h40 : X.length ≤ 40) (hDl : D.length ≤ 40) :
    Code.wp Try.prog (fromR 29 (Try.f7.body.getD .skip)) (bodyPost Try.prog Try.f7 fun e w' => e = .returned (.bool true) ∧ Below w.heap.size w w') ⟨List.toArray (x0 :: x1 :: (.int .i64 (n : Int)) :: x3 :: (.pointer (some ⟨w.heap.size, 0, none⟩)) :: x5 :: x6 :: x7 :: x8 :: x9 :: x10 :: x11 :: x12 :: x13 :: x14 :: (.string tx) :: (.int .i64 0) :: (.pointer (some ⟨rb, 0, none⟩)) :: (.int .i64 0) :: x19 :: x20 :: x21 :: x22 :: x23 :: x24 :: x25 :: x26 :: (.pointer (some ⟨bb, 0, none⟩)) :: x28 :: x29 :: x30 :: x31 :: x32 :: x33 :: x34 :: x35 :: x36 :: x37 :: x38 :: x39 :: x40 :: x41 :: x42 :: x43 :: x44 :: x45 :: x46 :: x47 :: x48 :: x49 :: x50 :: x51 :: x52 :: x53 :: x54 :: x55 :: x56 :: x57 :: x58 :: x59 :: x60 :: x61 :: x62 :: x63 :: x64 :: x65 :: x66 :: x67 :: x68 :: x69 :: x70 :: x71 :: x72 :: x73 :: x74 :: x75 :: x76 :: x77 :: x78 :: x79 :: x80 :: x81 :: x82 :: x83 :: x84 :: x85 :: x86 :: x87 :: x88 :: x89 :: x90 :: x91 :: x92 :: x93 :: x94 :: x95 :: x96 :: x97 :: x98 :: x99 :: x100 :: x101 :: x102 :: x103 :: x104 :: x105 :: x106 :: x107 :: x108 :: x109 :: x110 :: x111 :: x112 :: x113 :: x114 :: x115 :: x116 :: x117 :: x118 :: x119 :: x120 :: x121 :: x122 :: x123 :: x124 :: x125 :: x126 :: x127 :: x128 :: x129 :: x130 :: x131 :: x132 :: x133 :: x134 :: x135 :: x136 :: x137 :: x138 :: x139 :: x140 :: x141 :: x142 :: x143 :: x144 :: x145 :: x146 :: x147 :: x148 :: x149 :: x150 :: x151 :: x152 :: x153 :: x154 :: x155 :: x156 :: x157 :: x158 :: x159 :: x160 :: x161 :: x162 :: x163 :: x164 :: x165 :: x166 :: x167 :: x168 :: x169 :: x170 :: x171 :: x172 :: x173 :: x174 :: x175 :: x176 :: x177 :: x178 :: x179 :: x180 :: x181 :: x182 :: x183 :: x184 :: x185 :: x186 :: x187 :: x188 :: x189 :: x190 :: x191 :: x192 :: x193 :: x194 :: x195 :: x196 :: x197 :: x198 :: x199 :: x200 :: x201 :: x202 :: x203 :: x204 :: x205 :: x206 :: x207 :: x208 :: x209 :: x210 :: x211 :: x212 :: x213 :: x214 :: x215 :: x216 :: x217 :: x218 :: x219 :: x220 :: x221 :: x222 :: x223 :: x224 :: x225 :: x226 :: x227 :: x228 :: x229 :: x230 :: x231 :: x232 :: x233 :: x234 :: x235 :: x236 :: x237 :: x238 :: x239 :: x240 :: x241 :: x242 :: x243 :: x244 :: x245 :: x246 :: x247 :: x248 :: x249 :: x250 :: x251 :: x252 :: x253 :: x254 :: x255 :: x256 :: x257 :: x258 :: x259 :: x260 :: x261 :: x262 :: x263 :: x264 :: x265 :: x266 :: x267 :: x268 :: x269 :: x270 :: x271 :: x272 :: x273 :: x274 :: x275 :: x276 :: x277 :: x278 :: x279 :: x280 :: x281 :: x282 :: x283 :: x284 :: x285 :: x286 :: x287 :: x288 :: x289 :: x290 :: x291 :: x292 :: x293 :: x294 :: x295 :: x296 :: x297 :: x298 :: x299 :: x300 :: x301 :: x302 :: x303 :: x304 :: x305 :: x306 :: x307 :: x308 :: []), []⟩ W := by
  conv => arg 2; whnf
  have hnl : n < X.length := (List.getElem?_eq_some_iff.1 hn).1
  have LW := hid (L.keep hB)
  have c4 := LW.out.p.cell
  have KCl := hid (pgClone_any W a c X LW.out.inp.at_ LW.out.inp.len)
  have HL := hid L
  have HBw := hid hB
  have HX := hid hX
  have HN := hid hn
  have HD := hid hD
  clear L hB hX hn hD
  go_wp2_with fail
  refine KCl.out.mono ?_
  rintro r w1 ⟨v1, rfl, ho, hb⟩
  obtain ⟨g, cp, rfl, hcp⟩ := ho.some (by omega)
  have x1 := HX.out.keep hb
  have xc := x1.cell
  have xf := x1.fz
  have hWl : bb < W.heap.size := HX.out.lt
  have gge := ho.ge.1
  have WS := hid (WantAt.store (w0 := W0) (v := v27) (below_tr HBw.out hb) x1 (ho.lower HBw.out.size) (by omega) hnew rfl)
  have c41 : (w1.setCell ⟨bb, 0, none⟩ (.slice (some ⟨g, 0, none⟩) X.length cp)).cell? ⟨w.heap.size, 0, none⟩ = some (.slice a X.length c) := (HL.out.keep WS.out.below).p.cell
  clear hb ho x1 KCl c4
  obtain ⟨m3, m4, m5, m6⟩ := WS.out.own.spot HN.out
  have b27 := WS.out.box.cell
  have f0 : (0 : Int) ≤ (n : Int) := by omega
  have f1 : (n : Int) < (X.length : Int) := by omega
  have WP := hid (WS.out.put n hnl false ⟨#[]⟩)
  go_upto_region 31 with fail
  generalize w1.setCell ⟨bb, 0, none⟩ (.slice (some ⟨g, 0, none⟩) X.length cp) = w2 at *
  generalize (w2.setCell ⟨g, n * 2, none⟩ (.bool false)).setCell ⟨g, n * 2 + 1, none⟩ (.string ⟨#[]⟩) = w3 at *
  have hZl : (X.set n (⟨false, ⟨#[]⟩⟩ : Lf.Sl)).length = X.length := List.length_set
  have HDZ : Hid (D = Lf.trim (X.set n ⟨false, ⟨#[]⟩⟩)) := HD.out
  generalize X.set n (⟨false, ⟨#[]⟩⟩ : Lf.Sl) = Z at *
  have b3 := WP.out.box.cell
  rw [hZl] at b3
  have HZl := hid hZl
  have HC4 := hid fun W' (h : WantAt W0 W' bb g cp Z) => (HL.out.keep h.below).p.cell
  clear m3 m4 m5 m6 b27 c41 WS HD hZl xc xf
  go_wp2_with fail
  go_loopw [28] (fun v wr => ∃ m : Nat, m ≤ X.length ∧ v = .int .i64 (m : Int) ∧ Hid (WantAt W0 wr bb g cp (Z.take m)) ∧ Hid (Lf.trim (Z.take m) = Lf.trim Z)) (fun v _ => (intOf v).toNat)
  case atStart => exact ⟨X.length, Nat.le_refl _, rfl, (by rw [← HZl.out, List.take_length]; exact WP), (by show _ = _; rw [← HZl.out, List.take_length])⟩
  case round =>
    obtain ⟨m, hm, rfl, hW, hT⟩ := hrel
    have htl : (Z.take m).length = m := by rw [List.length_take, HZl.out]; omega
    have bm := hW.out.box.cell
    rw [htl] at bm
    have HTL := hid htl
    clear htl b3
    rcases Nat.eq_zero_or_pos m with hm0 | hm0
    · subst hm0
      have hDm : D = Z.take 0 := by rw [HDZ.out, ← hT.out]; exact Lf.trim_same (by rw [List.take_zero]; rfl)
      subst hDm
      have LR := hid (HL.out.keep hW.out.below)
      have c4r := LR.out.p.cell
      have r4 := LR.out.r.cell
      rw [HTL.out] at r4
      obtain ⟨b, o, rfl, d1, d2⟩ := LR.out.inp.at_ n _ HN.out
      have htx := str_same (rfl : tx = tx)
      have SM := same_any wr ar (some ⟨g, 0, none⟩) cr cp (Z.take 0) (Z.take 0) LR.out.ra (own_pg2 hW.out.own) (by have := HTL.out; omega) (by have := HTL.out; omega)
      rw [HTL.out] at SM
      have KS := hid SM
      have hf0 : (0 : Int) ≤ (n : Int) := by omega
      clear SM hT HDZ
      go_wp2_with fail
      refine KS.out.mono ?_
      rintro r w5 ⟨q', rfl, hq', hb⟩
      obtain rfl : q' = true := by simpa using hq'
      have L5 := hid (LR.out.keep hb)
      clear hb hq' KS
      go_wp2_with fail
      go_ret
      exact ⟨rfl, L5.out.old⟩
    · obtain ⟨q, rfl⟩ : ∃ q, m = q + 1 := ⟨m - 1, by omega⟩
      obtain ⟨x, hx⟩ : ∃ x, (Z.take (q + 1))[q]? = some x := ⟨_, List.getElem?_eq_getElem (by have := HTL.out; omega)⟩
      obtain ⟨n3, n4, n5, n6⟩ := hW.out.own.spot hx
      have q0 : (0 : Int) ≤ (q : Int) := by omega
      have q1 : (q : Int) < (q : Int) + 1 := by omega
      have q2 : (0 : Int) < (q : Int) + 1 := by omega
      have q3 : (q : Int) ≤ (cp : Int) := by omega
      have HE := hid (Lf.ends_at (X := Z.take (q + 1)) (by rw [HTL.out]; exact hx))
      clear hx
      obtain ⟨u, ty⟩ := x
      simp only at n3 n4 HE
      cases u with
      | false =>
        have NT : Hid (Lf.trim (Z.take q) = Lf.trim Z) := by show _ = _; rw [trim_step (by have := HZl.out; omega) HE.out, hT.out]
        have WQ := hid (WantAt.shorter (q := q) (Y' := Z.take q) hW.out (by have := HTL.out; omega) (by have := HTL.out; omega) (by rw [List.take_take, Nat.min_eq_left (by omega)]))
        have fq := hW.out.box.fz
        clear hT
        go_wp2_with fail
        go_roundw
        case rel => exact ⟨q, by omega, by go_num, WQ, NT⟩
        case measure => simp [intOf]
      | true =>
        have hDm : D = Z.take (q + 1) := by rw [HDZ.out, ← hT.out]; exact Lf.trim_same HE.out
        subst hDm
        have LR := hid (HL.out.keep hW.out.below)
        have c4r := LR.out.p.cell
        have r4 := LR.out.r.cell
        rw [HTL.out] at r4
        obtain ⟨b, o, rfl, d1, d2⟩ := LR.out.inp.at_ n _ HN.out
        have htx := str_same (rfl : tx = tx)
        have SM := same_any wr ar (some ⟨g, 0, none⟩) cr cp (Z.take (q + 1)) (Z.take (q + 1)) LR.out.ra (own_pg2 hW.out.own) (by have := HTL.out; omega) (by have := HTL.out; omega)
        rw [HTL.out] at SM
        have KS := hid SM
        have hf0 : (0 : Int) ≤ (n : Int) := by omega
        clear SM hT HDZ
        go_wp2_with fail
        refine KS.out.mono ?_
        rintro r w5 ⟨q', rfl, hq', hb⟩
        obtain rfl : q' = true := by simpa using hq'
        have L5 := hid (LR.out.keep hb)
        clear hb hq' KS
        go_wp2_with fail
        go_ret
        exact ⟨rfl, L5.out.old⟩

