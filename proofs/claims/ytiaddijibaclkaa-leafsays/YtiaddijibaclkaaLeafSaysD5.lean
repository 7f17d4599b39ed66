/- quirlaw.LeafSays, a part of it, walked. Get and Drop. -/
import Derived.Test.YtiaddijibaclkaaLeafSaysD6
namespace Go.Proofs.Ytiaddijibaclkaa.PLeaf
open Go Go.RowKit
set_option maxRecDepth 100000

set_option maxHeartbeats 8000000 in
theorem tail27 {x0 x1 x3 x5 x6 x7 x8 x9 x10 x11 x12 x13 x14 x19 x20 x21 x22 x23 x24 x26 x28 x29 x30 x31 x32 x33 x34 x35 x36 x37 x38 x39 x40 x41 x42 x43 x44 x45 x46 x47 x48 x49 x50 x51 x52 x53 x54 x55 x56 x57 x58 x59 x60 x61 x62 x63 x64 x65 x66 x67 x68 x69 x70 x71 x72 x73 x74 x75 x76 x77 x78 x79 x80 x81 x82 x83 x84 x85 x86 x87 x88 x89 x90 x91 x92 x93 x94 x95 x96 x97 x98 x99 x100 x101 x102 x103 x104 x105 x106 x107 x108 x109 x110 x111 x112 x113 x114 x115 x116 x117 x118 x119 x120 x121 x122 x123 x124 x125 x126 x127 x128 x129 x130 x131 x132 x133 x134 x135 x136 x137 x138 x139 x140 x141 x142 x143 x144 x145 x146 x147 x148 x149 x150 x151 x152 x153 x154 x155 x156 x157 x158 x159 x160 x161 x162 x163 x164 x165 x166 x167 x168 x169 x170 x171 x172 x173 x174 x175 x176 x177 x178 x179 x180 x181 x182 x183 x184 x185 x186 x187 x188 x189 x190 x191 x192 x193 x194 x195 x196 x197 x198 x199 x200 x201 x202 x203 x204 x205 x206 x207 x208 x209 x210 x211 x212 x213 x214 x215 x216 x217 x218 x219 x220 x221 x222 x223 x224 x225 x226 x227 x228 x229 x230 x231 x232 x233 x234 x235 x236 x237 x238 x239 x240 x241 x242 x243 x244 x245 x246 x247 x248 x249 x250 x251 x252 x253 x254 x255 x256 x257 x258 x259 x260 x261 x262 x263 x264 x265 x266 x267 x268 x269 x270 x271 x272 x273 x274 x275 x276 x277 x278 x279 x280 x281 x282 x283 x284 x285 x286 x287 x288 x289 x290 x291 x292 x293 x294 x295 x296 x297 x298 x299 x300 x301 x302 x303 x304 x305 x306 x307 x308 : Value}
    (w W0 W : World) (a : Option Addr) (c : Nat) (X : List Lf.Sl) (qb rb nb : Nat) (aq : Option Addr) (cq : Nat) (Q : List Lf.Sl) (ar : Option Addr) (cr : Nat) (D : List Lf.Sl) (L : LS w W0 a c X qb rb nb aq cq Q ar cr D) (hB : Below W0.heap.size W0 W) (bb : Nat) (v27 : Value) (hX : Bxd W bb v27) (hnew : W0.heap.size ≤ bb) (k : Int) (G1 : ByteArray) (G2 D2 : Nat) (hc : Lf.check X = 0) (hG : (G1, G2) = Lf.get X k) (hD : (D, D2) = Lf.drop X k) (hDl : D.length ≤ 40) :
    Code.wp Try.prog (fromR 27 (Try.f7.body.getD .skip)) (bodyPost Try.prog Try.f7 fun e w' => e = .returned (.bool true) ∧ Below w.heap.size w w') ⟨List.toArray (x0 :: x1 :: (.int .i64 k) :: x3 :: (.pointer (some ⟨w.heap.size, 0, none⟩)) :: x5 :: x6 :: x7 :: x8 :: x9 :: x10 :: x11 :: x12 :: x13 :: x14 :: (.string G1) :: (.int .i64 (G2 : Int)) :: (.pointer (some ⟨rb, 0, none⟩)) :: (.int .i64 (D2 : Int)) :: x19 :: x20 :: x21 :: x22 :: x23 :: x24 :: (.pointer (some ⟨nb, 0, none⟩)) :: x26 :: (.pointer (some ⟨bb, 0, none⟩)) :: x28 :: x29 :: x30 :: x31 :: x32 :: x33 :: x34 :: x35 :: x36 :: x37 :: x38 :: x39 :: x40 :: x41 :: x42 :: x43 :: x44 :: x45 :: x46 :: x47 :: x48 :: x49 :: x50 :: x51 :: x52 :: x53 :: x54 :: x55 :: x56 :: x57 :: x58 :: x59 :: x60 :: x61 :: x62 :: x63 :: x64 :: x65 :: x66 :: x67 :: x68 :: x69 :: x70 :: x71 :: x72 :: x73 :: x74 :: x75 :: x76 :: x77 :: x78 :: x79 :: x80 :: x81 :: x82 :: x83 :: x84 :: x85 :: x86 :: x87 :: x88 :: x89 :: x90 :: x91 :: x92 :: x93 :: x94 :: x95 :: x96 :: x97 :: x98 :: x99 :: x100 :: x101 :: x102 :: x103 :: x104 :: x105 :: x106 :: x107 :: x108 :: x109 :: x110 :: x111 :: x112 :: x113 :: x114 :: x115 :: x116 :: x117 :: x118 :: x119 :: x120 :: x121 :: x122 :: x123 :: x124 :: x125 :: x126 :: x127 :: x128 :: x129 :: x130 :: x131 :: x132 :: x133 :: x134 :: x135 :: x136 :: x137 :: x138 :: x139 :: x140 :: x141 :: x142 :: x143 :: x144 :: x145 :: x146 :: x147 :: x148 :: x149 :: x150 :: x151 :: x152 :: x153 :: x154 :: x155 :: x156 :: x157 :: x158 :: x159 :: x160 :: x161 :: x162 :: x163 :: x164 :: x165 :: x166 :: x167 :: x168 :: x169 :: x170 :: x171 :: x172 :: x173 :: x174 :: x175 :: x176 :: x177 :: x178 :: x179 :: x180 :: x181 :: x182 :: x183 :: x184 :: x185 :: x186 :: x187 :: x188 :: x189 :: x190 :: x191 :: x192 :: x193 :: x194 :: x195 :: x196 :: x197 :: x198 :: x199 :: x200 :: x201 :: x202 :: x203 :: x204 :: x205 :: x206 :: x207 :: x208 :: x209 :: x210 :: x211 :: x212 :: x213 :: x214 :: x215 :: x216 :: x217 :: x218 :: x219 :: x220 :: x221 :: x222 :: x223 :: x224 :: x225 :: x226 :: x227 :: x228 :: x229 :: x230 :: x231 :: x232 :: x233 :: x234 :: x235 :: x236 :: x237 :: x238 :: x239 :: x240 :: x241 :: x242 :: x243 :: x244 :: x245 :: x246 :: x247 :: x248 :: x249 :: x250 :: x251 :: x252 :: x253 :: x254 :: x255 :: x256 :: x257 :: x258 :: x259 :: x260 :: x261 :: x262 :: x263 :: x264 :: x265 :: x266 :: x267 :: x268 :: x269 :: x270 :: x271 :: x272 :: x273 :: x274 :: x275 :: x276 :: x277 :: x278 :: x279 :: x280 :: x281 :: x282 :: x283 :: x284 :: x285 :: x286 :: x287 :: x288 :: x289 :: x290 :: x291 :: x292 :: x293 :: x294 :: x295 :: x296 :: x297 :: x298 :: x299 :: x300 :: x301 :: x302 :: x303 :: x304 :: x305 :: x306 :: x307 :: x308 :: []), []⟩ W := by
  conv => arg 2; whnf
  have h40 := (Lf.check_ok hc).1
  have LW := hid (L.keep hB)
  have c4 := LW.out.p.cell
  have hl' : (X.length : Int) ≤ 40 := by omega
  by_cases hh : Lf.hit X k = true
  · have hk0 : 0 ≤ k := by
      unfold Lf.hit at hh
      rw [Bool.and_eq_true, decide_eq_true_eq] at hh
      exact hh.1
    obtain ⟨n, rfl⟩ := Int.eq_ofNat_of_zero_le hk0
    have hnl : n < X.length := by
      apply Classical.byContradiction
      intro hn
      rw [Lf.hit_none (List.getElem?_eq_none (by omega))] at hh
      cases hh
    obtain ⟨x, hx⟩ : ∃ x, X[n]? = some x := ⟨_, List.getElem?_eq_getElem hnl⟩
    obtain ⟨u, tx⟩ := x
    have hu : u = true := by rw [Lf.hit_at hx] at hh; exact hh
    subst hu
    have eg : Lf.get X (n : Int) = (tx, 0) := by
      unfold Lf.get
      rw [if_pos hc, if_pos hh, Int.toNat_natCast, Lf.textAt_at hx]
    have ed : Lf.drop X (n : Int) = (Lf.trim (X.set n Lf.none'), 0) := by
      unfold Lf.drop
      rw [eg]
      rfl
    rw [eg] at hG
    rw [ed] at hD
    simp only [Prod.mk.injEq] at hG hD
    obtain ⟨rfl, rfl⟩ := hG
    obtain ⟨hD, rfl⟩ := hD
    obtain ⟨b, o, ea, d1, d2⟩ := LW.out.inp.at_ n _ hx
    have k1 : (n : Int) < (X.length : Int) := by omega
    have k2 : ¬ (X.length : Int) ≤ (n : Int) := by omega
    have HL := hid L
    have HBw := hid hB
    have HXb := hid hX
    have HN := hid hx
    have HD := hid hD
    rw [ea] at c4
    rw [ea] at HL
    clear L hB hX hx hD hh eg ed hk0 LW
    subst ea
    go_upto_if 240 with fail
    go_cut [] from 223 to 240 (fun wx => wx = W)
    case first =>
      go_wp2_with fail
      go_meet
      case rel => exact rfl
    case rest =>
      subst hcut
      apply_assumption
      exact tail29 w W0 wc _ c X qb rb nb aq cq Q ar cr D HL.out HBw.out bb v27 HXb.out hnew n G1 HN.out HD.out h40 hDl
  · have hh' : Lf.hit X k = false := by simpa using hh
    have eg : Lf.get X k = (Lf.nob, 6) := by unfold Lf.get; rw [if_pos hc, hh', if_neg (by simp)]
    have ed : Lf.drop X k = ([], 6) := by unfold Lf.drop; rw [eg, if_neg (by simp)]
    rw [eg] at hG
    rw [ed] at hD
    simp only [Prod.mk.injEq] at hG hD
    obtain ⟨rfl, rfl⟩ := hG
    obtain ⟨rfl, rfl⟩ := hD
    unfold Lf.nob
    have r4 := LW.out.r.cell
    have n4 := LW.out.n.cell
    have KS := hid (same_any W ar none cr 0 [] [] LW.out.ra (PgAt.nil _ _) (by simp) (by simp))
    clear eg ed hh
    by_cases hk0 : k < 0
    · clear hh' L hB hX
      go_wp2_with fail
      refine KS.out.mono ?_
      rintro r w5 ⟨q', rfl, hq', hb⟩
      obtain rfl : q' = true := by simpa using hq'
      have L5 := hid (LW.out.keep hb)
      clear hb hq' KS
      go_wp2_with fail
      go_ret
      exact ⟨rfl, L5.out.old⟩
    · by_cases hk1 : (X.length : Int) ≤ k
      · clear hh' L hB hX
        go_wp2_with fail
        refine KS.out.mono ?_
        rintro r w5 ⟨q', rfl, hq', hb⟩
        obtain rfl : q' = true := by simpa using hq'
        have L5 := hid (LW.out.keep hb)
        clear hb hq' KS
        go_wp2_with fail
        go_ret
        exact ⟨rfl, L5.out.old⟩
      · obtain ⟨n, rfl⟩ := Int.eq_ofNat_of_zero_le (show 0 ≤ k by omega)
        obtain ⟨x, hx⟩ : ∃ x, X[n]? = some x := ⟨_, List.getElem?_eq_getElem (by omega)⟩
        obtain ⟨u, tx⟩ := x
        have hu : u = false := by rw [Lf.hit_at hx] at hh'; exact hh'
        subst hu
        obtain ⟨b, o, rfl, d1, d2⟩ := LW.out.inp.at_ n _ hx
        have k0 : (0 : Int) ≤ (n : Int) := by omega
        have k1 : (n : Int) < (X.length : Int) := by omega
        clear hh' L hB hX hx
        go_wp2_with fail
        refine KS.out.mono ?_
        rintro r w5 ⟨q', rfl, hq', hb⟩
        obtain rfl : q' = true := by simpa using hq'
        have L5 := hid (LW.out.keep hb)
        clear hb hq' KS
        go_wp2_with fail
        go_ret
        exact ⟨rfl, L5.out.old⟩

