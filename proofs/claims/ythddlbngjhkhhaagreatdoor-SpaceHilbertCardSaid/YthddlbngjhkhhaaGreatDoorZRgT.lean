/- Neighbors in the Hilbert order of a cube, by computation. -/
import Derived.Test.YthddlbngjhkhhaaGreatDoorZPrS
import Derived.Test.YthddlbngjhkhhaaGreatDoorZSeq
import Derived.Test.YthddlbngjhkhhaaGreatDoorZSpH
import Derived.Test.YthddlbngjhkhhaaGreatDoorZBldK
import Derived.Maps.AppendAt
import Derived.Test.YthddlbngjhkhhaaGreatDoorZSpI
import Derived.Test.YthddlbngjhkhhaaGreatDoorZInvReg
import Derived.Test.YthddlbngjhkhhaaGreatDoorZSplit

/- Neighbors in the Hilbert order of a cube, by computation. -/
section
namespace Go.Proofs.YthddlbngjhkhhaaGreatDoor
open Go Go.RowKit Go.Deep Go.Shelf

/-- The numbers of the t-th coordinates in a cube of n dimensions and the side 2 ^ k. -/
def cbD (n k t j : Nat) : Nat := if j < n then t / 2 ^ (k * (n - 1 - j)) % 2 ^ k else 0
def farN (n k s t : Nat) : Nat → Nat
  | 0 => 0
  | j + 1 => farN n k s t j + ((cbD n k s j - cbD n k t j) + (cbD n k t j - cbD n k s j))
def chkH (n k : Nat) : Nat → Nat → List Nat → Bool
  | i, _, [] => i == 2 ^ (n * k)
  | i, p, t :: r => Nat.ble (t + 1) (2 ^ (n * k)) && (Nat.beq (hilN n k (cbD n k t)) i && ((bif Nat.beq i 0 then Nat.beq t 0 else Nat.beq (farN n k p t n) 1) && chkH n k (i + 1) t r))
def hilL1_0 : List Nat := [0]
set_option maxRecDepth 100000 in
theorem hil_chk1_0 : chkH 1 0 0 0 hilL1_0 = true := by kernel_rfl
def hilL1_1 : List Nat := [0, 1]
set_option maxRecDepth 100000 in
theorem hil_chk1_1 : chkH 1 1 0 0 hilL1_1 = true := by kernel_rfl
def hilL1_2 : List Nat := [0, 1, 2, 3]
set_option maxRecDepth 100000 in
theorem hil_chk1_2 : chkH 1 2 0 0 hilL1_2 = true := by kernel_rfl
def hilL1_3 : List Nat := [0, 1, 2, 3, 4, 5, 6, 7]
set_option maxRecDepth 100000 in
theorem hil_chk1_3 : chkH 1 3 0 0 hilL1_3 = true := by kernel_rfl
def hilL1_4 : List Nat := [0, 1, 2, 3, 4, 5, 6, 7, 8, 9, 10, 11, 12, 13, 14, 15]
set_option maxRecDepth 100000 in
theorem hil_chk1_4 : chkH 1 4 0 0 hilL1_4 = true := by kernel_rfl
def hilL1_5 : List Nat := [0, 1, 2, 3, 4, 5, 6, 7, 8, 9, 10, 11, 12, 13, 14, 15, 16, 17, 18, 19, 20, 21, 22, 23, 24, 25, 26, 27, 28, 29, 30, 31]
set_option maxRecDepth 100000 in
theorem hil_chk1_5 : chkH 1 5 0 0 hilL1_5 = true := by kernel_rfl
def hilL1_6 : List Nat := [0, 1, 2, 3, 4, 5, 6, 7, 8, 9, 10, 11, 12, 13, 14, 15, 16, 17, 18, 19, 20, 21, 22, 23, 24, 25, 26, 27, 28, 29, 30, 31, 32, 33, 34, 35, 36, 37, 38, 39, 40, 41, 42, 43, 44, 45, 46, 47, 48, 49, 50, 51, 52, 53, 54, 55, 56, 57, 58, 59, 60, 61, 62, 63]
set_option maxRecDepth 100000 in
theorem hil_chk1_6 : chkH 1 6 0 0 hilL1_6 = true := by kernel_rfl
def hilL2_0 : List Nat := [0]
set_option maxRecDepth 100000 in
theorem hil_chk2_0 : chkH 2 0 0 0 hilL2_0 = true := by kernel_rfl
def hilL2_1 : List Nat := [0, 1, 3, 2]
set_option maxRecDepth 100000 in
theorem hil_chk2_1 : chkH 2 1 0 0 hilL2_1 = true := by kernel_rfl
def hilL2_2 : List Nat := [0, 4, 5, 1, 2, 3, 7, 6, 10, 11, 15, 14, 13, 9, 8, 12]
set_option maxRecDepth 100000 in
theorem hil_chk2_2 : chkH 2 2 0 0 hilL2_2 = true := by kernel_rfl
def hilL2_3 : List Nat := [0, 1, 9, 8, 16, 24, 25, 17, 18, 26, 27, 19, 11, 10, 2, 3, 4, 12, 13, 5, 6, 7, 15, 14, 22, 23, 31, 30, 29, 21, 20, 28, 36, 44, 45, 37, 38, 39, 47, 46, 54, 55, 63, 62, 61, 53, 52, 60, 59, 58, 50, 51, 43, 35, 34, 42, 41, 33, 32, 40, 48, 49, 57, 56]
set_option maxRecDepth 100000 in
theorem hil_chk2_3 : chkH 2 3 0 0 hilL2_3 = true := by kernel_rfl
def hilL2_4 : List Nat := [0, 16, 17, 1, 2, 3, 19, 18, 34, 35, 51, 50, 49, 33, 32, 48, 64, 65, 81, 80, 96, 112, 113, 97, 98, 114, 115, 99, 83, 82, 66, 67, 68, 69, 85, 84, 100, 116, 117, 101, 102, 118, 119, 103, 87, 86, 70, 71, 55, 39, 38, 54, 53, 52, 36, 37, 21, 20, 4, 5, 6, 22, 23, 7, 8, 9, 25, 24, 40, 56, 57, 41, 42, 58, 59, 43, 27, 26, 10, 11, 12, 28, 29, 13, 14, 15, 31, 30, 46, 47, 63, 62, 61, 45, 44, 60, 76, 92, 93, 77, 78, 79, 95, 94, 110, 111, 127, 126, 125, 109, 108, 124, 123, 122, 106, 107, 91, 75, 74, 90, 89, 73, 72, 88, 104, 105, 121, 120, 136, 137, 153, 152, 168, 184, 185, 169, 170, 186, 187, 171, 155, 154, 138, 139, 140, 156, 157, 141, 142, 143, 159, 158, 174, 175, 191, 190, 189, 173, 172, 188, 204, 220, 221, 205, 206, 207, 223, 222, 238, 239, 255, 254, 253, 237, 236, 252, 251, 250, 234, 235, 219, 203, 202, 218, 217, 201, 200, 216, 232, 233, 249, 248, 247, 231, 230, 246, 245, 244, 228, 229, 213, 212, 196, 197, 198, 214, 215, 199, 183, 182, 166, 167, 151, 135, 134, 150, 149, 133, 132, 148, 164, 165, 181, 180, 179, 178, 162, 163, 147, 131, 130, 146, 145, 129, 128, 144, 160, 161, 177, 176, 192, 208, 209, 193, 194, 195, 211, 210, 226, 227, 243, 242, 241, 225, 224, 240]
set_option maxRecDepth 100000 in
theorem hil_chk2_4 : chkH 2 4 0 0 hilL2_4 = true := by kernel_rfl
def hilL2_5 : List Nat := [0, 1, 33, 32, 64, 96, 97, 65, 66, 98, 99, 67, 35, 34, 2, 3, 4, 36, 37, 5, 6, 7, 39, 38, 70, 71, 103, 102, 101, 69, 68, 100, 132, 164, 165, 133, 134, 135, 167, 166, 198, 199, 231, 230, 229, 197, 196, 228, 227, 226, 194, 195, 163, 131, 130, 162, 161, 129, 128, 160, 192, 193, 225, 224, 256, 288, 289, 257, 258, 259, 291, 290, 322, 323, 355, 354, 353, 321, 320, 352, 384, 385, 417, 416, 448, 480, 481, 449, 450, 482, 483, 451, 419, 418, 386, 387, 388, 389, 421, 420, 452, 484, 485, 453, 454, 486, 487, 455, 423, 422, 390, 391, 359, 327, 326, 358, 357, 356, 324, 325, 293, 292, 260, 261, 262, 294, 295, 263, 264, 296, 297, 265, 266, 267, 299, 298, 330, 331, 363, 362, 361, 329, 328, 360, 392, 393, 425, 424, 456, 488, 489, 457, 458, 490, 491, 459, 427, 426, 394, 395, 396, 397, 429, 428, 460, 492, 493, 461, 462, 494, 495, 463, 431, 430, 398, 399, 367, 335, 334, 366, 365, 364, 332, 333, 301, 300, 268, 269, 270, 302, 303, 271, 239, 238, 206, 207, 175, 143, 142, 174, 173, 141, 140, 172, 204, 205, 237, 236, 235, 203, 202, 234, 233, 232, 200, 201, 169, 168, 136, 137, 138, 170, 171, 139, 107, 75, 74, 106, 105, 104, 72, 73, 41, 40, 8, 9, 10, 42, 43, 11, 12, 13, 45, 44, 76, 108, 109, 77, 78, 110, 111, 79, 47, 46, 14, 15, 16, 48, 49, 17, 18, 19, 51, 50, 82, 83, 115, 114, 113, 81, 80, 112, 144, 145, 177, 176, 208, 240, 241, 209, 210, 242, 243, 211, 179, 178, 146, 147, 148, 149, 181, 180, 212, 244, 245, 213, 214, 246, 247, 215, 183, 182, 150, 151, 119, 87, 86, 118, 117, 116, 84, 85, 53, 52, 20, 21, 22, 54, 55, 23, 24, 25, 57, 56, 88, 120, 121, 89, 90, 122, 123, 91, 59, 58, 26, 27, 28, 60, 61, 29, 30, 31, 63, 62, 94, 95, 127, 126, 125, 93, 92, 124, 156, 188, 189, 157, 158, 159, 191, 190, 222, 223, 255, 254, 253, 221, 220, 252, 251, 250, 218, 219, 187, 155, 154, 186, 185, 153, 152, 184, 216, 217, 249, 248, 280, 281, 313, 312, 344, 376, 377, 345, 346, 378, 379, 347, 315, 314, 282, 283, 284, 316, 317, 285, 286, 287, 319, 318, 350, 351, 383, 382, 381, 349, 348, 380, 412, 444, 445, 413, 414, 415, 447, 446, 478, 479, 511, 510, 509, 477, 476, 508, 507, 506, 474, 475, 443, 411, 410, 442, 441, 409, 408, 440, 472, 473, 505, 504, 503, 471, 470, 502, 501, 500, 468, 469, 437, 436, 404, 405, 406, 438, 439, 407, 375, 374, 342, 343, 311, 279, 278, 310, 309, 277, 276, 308, 340, 341, 373, 372, 371, 370, 338, 339, 307, 275, 274, 306, 305, 273, 272, 304, 336, 337, 369, 368, 400, 432, 433, 401, 402, 403, 435, 434, 466, 467, 499, 498, 497, 465, 464, 496, 528, 560, 561, 529, 530, 531, 563, 562, 594, 595, 627, 626, 625, 593, 592, 624, 656, 657, 689, 688, 720, 752, 753, 721, 722, 754, 755, 723, 691, 690, 658, 659, 660, 661, 693, 692, 724, 756, 757, 725, 726, 758, 759, 727, 695, 694, 662, 663, 631, 599, 598, 630, 629, 628, 596, 597, 565, 564, 532, 533, 534, 566, 567, 535, 536, 537, 569, 568, 600, 632, 633, 601, 602, 634, 635, 603, 571, 570, 538, 539, 540, 572, 573, 541, 542, 543, 575, 574, 606, 607, 639, 638, 637, 605, 604, 636, 668, 700, 701, 669, 670, 671, 703, 702, 734, 735, 767, 766, 765, 733, 732, 764, 763, 762, 730, 731, 699, 667, 666, 698, 697, 665, 664, 696, 728, 729, 761, 760, 792, 793, 825, 824, 856, 888, 889, 857, 858, 890, 891, 859, 827, 826, 794, 795, 796, 828, 829, 797, 798, 799, 831, 830, 862, 863, 895, 894, 893, 861, 860, 892, 924, 956, 957, 925, 926, 927, 959, 958, 990, 991, 1023, 1022, 1021, 989, 988, 1020, 1019, 1018, 986, 987, 955, 923, 922, 954, 953, 921, 920, 952, 984, 985, 1017, 1016, 1015, 983, 982, 1014, 1013, 1012, 980, 981, 949, 948, 916, 917, 918, 950, 951, 919, 887, 886, 854, 855, 823, 791, 790, 822, 821, 789, 788, 820, 852, 853, 885, 884, 883, 882, 850, 851, 819, 787, 786, 818, 817, 785, 784, 816, 848, 849, 881, 880, 912, 944, 945, 913, 914, 915, 947, 946, 978, 979, 1011, 1010, 1009, 977, 976, 1008, 1007, 1006, 974, 975, 943, 911, 910, 942, 941, 909, 908, 940, 972, 973, 1005, 1004, 1003, 971, 970, 1002, 1001, 1000, 968, 969, 937, 936, 904, 905, 906, 938, 939, 907, 875, 843, 842, 874, 873, 872, 840, 841, 809, 808, 776, 777, 778, 810, 811, 779, 780, 781, 813, 812, 844, 876, 877, 845, 846, 878, 879, 847, 815, 814, 782, 783, 751, 719, 718, 750, 749, 748, 716, 717, 685, 684, 652, 653, 654, 686, 687, 655, 623, 622, 590, 591, 559, 527, 526, 558, 557, 525, 524, 556, 588, 589, 621, 620, 619, 618, 586, 587, 555, 523, 522, 554, 553, 521, 520, 552, 584, 585, 617, 616, 648, 680, 681, 649, 650, 651, 683, 682, 714, 715, 747, 746, 745, 713, 712, 744, 743, 711, 710, 742, 741, 740, 708, 709, 677, 676, 644, 645, 646, 678, 679, 647, 615, 614, 582, 583, 551, 519, 518, 550, 549, 517, 516, 548, 580, 581, 613, 612, 611, 610, 578, 579, 547, 515, 514, 546, 545, 513, 512, 544, 576, 577, 609, 608, 640, 672, 673, 641, 642, 643, 675, 674, 706, 707, 739, 738, 737, 705, 704, 736, 768, 769, 801, 800, 832, 864, 865, 833, 834, 866, 867, 835, 803, 802, 770, 771, 772, 804, 805, 773, 774, 775, 807, 806, 838, 839, 871, 870, 869, 837, 836, 868, 900, 932, 933, 901, 902, 903, 935, 934, 966, 967, 999, 998, 997, 965, 964, 996, 995, 994, 962, 963, 931, 899, 898, 930, 929, 897, 896, 928, 960, 961, 993, 992]
set_option maxRecDepth 100000 in
theorem hil_chk2_5 : chkH 2 5 0 0 hilL2_5 = true := by kernel_rfl
def hilL3_0 : List Nat := [0]
set_option maxRecDepth 100000 in
theorem hil_chk3_0 : chkH 3 0 0 0 hilL3_0 = true := by kernel_rfl
def hilL3_1 : List Nat := [0, 1, 3, 2, 6, 7, 5, 4]
set_option maxRecDepth 100000 in
theorem hil_chk3_1 : chkH 3 1 0 0 hilL3_1 = true := by kernel_rfl
def hilL3_2 : List Nat := [0, 4, 20, 16, 17, 21, 5, 1, 2, 3, 19, 18, 22, 23, 7, 6, 10, 11, 15, 14, 30, 31, 27, 26, 25, 9, 13, 29, 28, 12, 8, 24, 40, 56, 60, 44, 45, 61, 57, 41, 42, 43, 47, 46, 62, 63, 59, 58, 54, 55, 39, 38, 34, 35, 51, 50, 49, 53, 37, 33, 32, 36, 52, 48]
set_option maxRecDepth 100000 in
theorem hil_chk3_2 : chkH 3 2 0 0 hilL3_2 = true := by kernel_rfl
def hilL3_3 : List Nat := [0, 64, 65, 1, 9, 73, 72, 8, 16, 24, 25, 17, 81, 89, 88, 80, 144, 152, 216, 208, 209, 217, 153, 145, 137, 136, 200, 201, 193, 192, 128, 129, 130, 131, 195, 194, 202, 203, 139, 138, 146, 154, 218, 210, 211, 219, 155, 147, 83, 91, 90, 82, 18, 26, 27, 19, 11, 75, 74, 10, 2, 66, 67, 3, 4, 68, 76, 12, 13, 77, 69, 5, 6, 7, 15, 14, 78, 79, 71, 70, 134, 135, 199, 198, 206, 207, 143, 142, 141, 133, 197, 205, 204, 196, 132, 140, 148, 156, 220, 212, 213, 221, 157, 149, 150, 151, 215, 214, 222, 223, 159, 158, 94, 95, 87, 86, 22, 23, 31, 30, 29, 93, 85, 21, 20, 84, 92, 28, 36, 44, 108, 100, 101, 109, 45, 37, 38, 39, 103, 102, 110, 111, 47, 46, 54, 55, 63, 62, 126, 127, 119, 118, 117, 53, 61, 125, 124, 60, 52, 116, 180, 244, 252, 188, 189, 253, 245, 181, 182, 183, 191, 190, 254, 255, 247, 246, 238, 239, 175, 174, 166, 167, 231, 230, 229, 237, 173, 165, 164, 172, 236, 228, 227, 235, 234, 226, 162, 170, 171, 163, 99, 35, 34, 98, 106, 42, 43, 107, 115, 51, 59, 123, 122, 58, 50, 114, 178, 179, 187, 186, 250, 251, 243, 242, 241, 240, 248, 249, 185, 184, 176, 177, 113, 49, 57, 121, 120, 56, 48, 112, 104, 40, 41, 105, 97, 33, 32, 96, 160, 168, 169, 161, 225, 233, 232, 224, 288, 296, 297, 289, 353, 361, 360, 352, 416, 480, 481, 417, 425, 489, 488, 424, 432, 496, 504, 440, 441, 505, 497, 433, 369, 368, 376, 377, 313, 312, 304, 305, 306, 307, 315, 314, 378, 379, 371, 370, 434, 498, 506, 442, 443, 507, 499, 435, 427, 491, 490, 426, 418, 482, 483, 419, 355, 363, 362, 354, 290, 298, 299, 291, 292, 300, 364, 356, 357, 365, 301, 293, 294, 295, 359, 358, 366, 367, 303, 302, 310, 311, 319, 318, 382, 383, 375, 374, 373, 309, 317, 381, 380, 316, 308, 372, 436, 500, 508, 444, 445, 509, 501, 437, 438, 439, 447, 446, 510, 511, 503, 502, 494, 495, 431, 430, 422, 423, 487, 486, 485, 493, 429, 421, 420, 428, 492, 484, 476, 412, 404, 468, 469, 405, 413, 477, 478, 479, 471, 470, 406, 407, 415, 414, 350, 351, 287, 286, 278, 279, 343, 342, 341, 349, 285, 277, 276, 284, 348, 340, 332, 324, 260, 268, 269, 261, 325, 333, 334, 335, 271, 270, 262, 263, 327, 326, 390, 391, 399, 398, 462, 463, 455, 454, 453, 389, 397, 461, 460, 396, 388, 452, 451, 387, 386, 450, 458, 394, 395, 459, 467, 475, 474, 466, 402, 410, 411, 403, 339, 347, 283, 275, 274, 282, 346, 338, 330, 331, 267, 266, 258, 259, 323, 322, 321, 320, 256, 257, 265, 264, 328, 329, 337, 345, 281, 273, 272, 280, 344, 336, 400, 408, 409, 401, 465, 473, 472, 464, 456, 392, 393, 457, 449, 385, 384, 448]
set_option maxRecDepth 100000 in
theorem hil_chk3_3 : chkH 3 3 0 0 hilL3_3 = true := by kernel_rfl
def hilL4_0 : List Nat := [0]
set_option maxRecDepth 100000 in
theorem hil_chk4_0 : chkH 4 0 0 0 hilL4_0 = true := by kernel_rfl
def hilL4_1 : List Nat := [0, 1, 3, 2, 6, 7, 5, 4, 12, 13, 15, 14, 10, 11, 9, 8]
set_option maxRecDepth 100000 in
theorem hil_chk4_1 : chkH 4 1 0 0 hilL4_1 = true := by kernel_rfl
def hilL4_2 : List Nat := [0, 4, 20, 16, 80, 84, 68, 64, 65, 69, 85, 81, 17, 21, 5, 1, 2, 3, 19, 18, 82, 83, 67, 66, 70, 71, 87, 86, 22, 23, 7, 6, 10, 11, 15, 14, 78, 79, 75, 74, 90, 91, 95, 94, 30, 31, 27, 26, 25, 9, 13, 29, 93, 77, 73, 89, 88, 72, 76, 92, 28, 12, 8, 24, 40, 104, 108, 44, 60, 124, 120, 56, 57, 121, 125, 61, 45, 109, 105, 41, 42, 43, 47, 46, 62, 63, 59, 58, 122, 123, 127, 126, 110, 111, 107, 106, 102, 103, 39, 38, 54, 55, 119, 118, 114, 115, 51, 50, 34, 35, 99, 98, 97, 101, 37, 33, 49, 53, 117, 113, 112, 116, 52, 48, 32, 36, 100, 96, 160, 164, 228, 224, 240, 244, 180, 176, 177, 181, 245, 241, 225, 229, 165, 161, 162, 163, 227, 226, 242, 243, 179, 178, 182, 183, 247, 246, 230, 231, 167, 166, 170, 171, 175, 174, 190, 191, 187, 186, 250, 251, 255, 254, 238, 239, 235, 234, 233, 169, 173, 237, 253, 189, 185, 249, 248, 184, 188, 252, 236, 172, 168, 232, 216, 200, 204, 220, 156, 140, 136, 152, 153, 137, 141, 157, 221, 205, 201, 217, 218, 219, 223, 222, 158, 159, 155, 154, 138, 139, 143, 142, 206, 207, 203, 202, 198, 199, 215, 214, 150, 151, 135, 134, 130, 131, 147, 146, 210, 211, 195, 194, 193, 197, 213, 209, 145, 149, 133, 129, 128, 132, 148, 144, 208, 212, 196, 192]
set_option maxRecDepth 100000 in
theorem hil_chk4_2 : chkH 4 2 0 0 hilL4_2 = true := by kernel_rfl
theorem chk_at {n k : Nat} : ∀ {L : List Nat} {i p : Nat}, chkH n k i p L = true → i + L.length = 2 ^ (n * k) ∧ ∀ m, m < L.length → L.getD m 0 < 2 ^ (n * k) ∧ hilN n k (cbD n k (L.getD m 0)) = i + m ∧ (i + m = 0 → L.getD m 0 = 0) ∧ (i + m ≠ 0 → farN n k (if m = 0 then p else L.getD (m - 1) 0) (L.getD m 0) n = 1)
  | [], i, p, h => ⟨by simpa [chkH] using h, fun m hm => absurd hm (Nat.not_lt_zero m)⟩
  | t :: r, i, p, h => by
    rw [chkH, Bool.and_eq_true, Bool.and_eq_true, Bool.and_eq_true] at h
    obtain ⟨h1, h2, h3, h4⟩ := h
    obtain ⟨h5, h6⟩ := chk_at h4
    have h1' : t < 2 ^ (n * k) := Nat.le_of_ble_eq_true h1
    have h2' : hilN n k (cbD n k t) = i := Nat.eq_of_beq_eq_true h2
    refine ⟨by rw [List.length_cons]; omega, fun m hm => ?_⟩
    cases m with
    | zero =>
      refine ⟨h1', h2', fun h0 => ?_, fun h0 => ?_⟩
      · rw [show i = 0 by omega] at h3
        exact Nat.eq_of_beq_eq_true h3
      · have hb : Nat.beq i 0 = false := by
          cases hh : Nat.beq i 0
          · rfl
          · exact absurd (Nat.eq_of_beq_eq_true hh) (by omega)
        rw [hb] at h3
        exact Nat.eq_of_beq_eq_true h3
    | succ m =>
      have h7 := h6 m (by rw [List.length_cons] at hm; omega)
      refine ⟨h7.1, by rw [show i + (m + 1) = i + 1 + m by omega]; exact h7.2.1, fun h0 => absurd h0 (by omega), fun _ => ?_⟩
      have h8 := h7.2.2.2 (by omega)
      rw [if_neg (by omega)]
      cases m with
      | zero => exact h8
      | succ m => rw [if_neg (by omega)] at h8; exact h8
theorem chk_inv {n k : Nat} {L : List Nat} (h : chkH n k 0 0 L = true) : ∃ inv : Nat → Nat, ∀ i, i < 2 ^ (n * k) → inv i < 2 ^ (n * k) ∧ hilN n k (cbD n k (inv i)) = i ∧ (i = 0 → inv i = 0) ∧ (i ≠ 0 → farN n k (inv (i - 1)) (inv i) n = 1) := by
  obtain ⟨h1, h2⟩ := chk_at h
  refine ⟨fun i => L.getD i 0, fun i hi => ?_⟩
  obtain ⟨h3, h4, h5, h6⟩ := h2 i (by omega)
  rw [Nat.zero_add] at h4 h5 h6
  refine ⟨h3, h4, h5, fun h0 => ?_⟩
  have h7 := h6 h0
  rw [if_neg h0] at h7
  exact h7
/-- The inverse of the order, for the cubes that the law examines. -/
theorem hil_inv {n k : Nat} (h1 : 1 ≤ n) (h4 : n ≤ 4) (hk : k ≤ 6) (hnk : n * k ≤ 10) : ∃ inv : Nat → Nat, ∀ i, i < 2 ^ (n * k) → inv i < 2 ^ (n * k) ∧ hilN n k (cbD n k (inv i)) = i ∧ (i = 0 → inv i = 0) ∧ (i ≠ 0 → farN n k (inv (i - 1)) (inv i) n = 1) := by
  rcases (by omega : n = 1 ∨ n = 2 ∨ n = 3 ∨ n = 4) with rfl | rfl | rfl | rfl
  · rcases (by omega : k = 0 ∨ k = 1 ∨ k = 2 ∨ k = 3 ∨ k = 4 ∨ k = 5 ∨ k = 6) with rfl | rfl | rfl | rfl | rfl | rfl | rfl
    · exact chk_inv hil_chk1_0
    · exact chk_inv hil_chk1_1
    · exact chk_inv hil_chk1_2
    · exact chk_inv hil_chk1_3
    · exact chk_inv hil_chk1_4
    · exact chk_inv hil_chk1_5
    · exact chk_inv hil_chk1_6
  · rcases (by omega : k = 0 ∨ k = 1 ∨ k = 2 ∨ k = 3 ∨ k = 4 ∨ k = 5) with rfl | rfl | rfl | rfl | rfl | rfl
    · exact chk_inv hil_chk2_0
    · exact chk_inv hil_chk2_1
    · exact chk_inv hil_chk2_2
    · exact chk_inv hil_chk2_3
    · exact chk_inv hil_chk2_4
    · exact chk_inv hil_chk2_5
  · rcases (by omega : k = 0 ∨ k = 1 ∨ k = 2 ∨ k = 3) with rfl | rfl | rfl | rfl
    · exact chk_inv hil_chk3_0
    · exact chk_inv hil_chk3_1
    · exact chk_inv hil_chk3_2
    · exact chk_inv hil_chk3_3
  · rcases (by omega : k = 0 ∨ k = 1 ∨ k = 2) with rfl | rfl | rfl
    · exact chk_inv hil_chk4_0
    · exact chk_inv hil_chk4_1
    · exact chk_inv hil_chk4_2
theorem cnt_sub {p q : Nat → Bool} (h : ∀ t, p t = true → q t = true) : ∀ N, cntTo p N ≤ cntTo q N
  | 0 => Nat.le_refl _
  | N + 1 => by
    have ih := cnt_sub h N
    cases hp : p N
    · rw [cntTo_no hp]; exact Nat.le_trans ih (cntTo_mono q (Nat.le_succ N))
    · rw [cntTo_yes hp, cntTo_yes (h N hp)]; omega
/-- Where the keys are numbers below N, the i-th pair has the key i. -/
theorem key_is {ky : Nat → Int} {K : Nat → Nat} {N : Nat} (hK : ∀ t, t < N → ky t = (K t : Int) ∧ K t < N) (hinj : ∀ s t, s < N → t < N → ky s = ky t → s = t) {i : Nat} (hi : i < N) : K ((pairR ky N)[i]!).2 = i := by
  have hlt : ∀ j, j < N → ((pairR ky N)[j]!).2 < N := fun j hj => pairR_lt ky N j hj
  have mono : ∀ a b, a < b → b < N → K ((pairR ky N)[a]!).2 < K ((pairR ky N)[b]!).2 := fun a b hab hb => by
    have ra := rank_at hinj (show a < N by omega)
    have rb := rank_at hinj hb
    have ka := (hK _ (hlt a (by omega))).1
    have kb := (hK _ (hlt b hb)).1
    by_cases hc : K ((pairR ky N)[a]!).2 < K ((pairR ky N)[b]!).2
    · exact hc
    · exfalso
      have h9 := cnt_sub (p := fun t => decide (ky t < ky ((pairR ky N)[b]!).2)) (q := fun t => decide (ky t < ky ((pairR ky N)[a]!).2)) (fun t ht => by
        have ht' := of_decide_eq_true ht
        exact decide_eq_true (by omega)) N
      rw [ra, rb] at h9
      omega
  have up : ∀ j, j < N → j ≤ K ((pairR ky N)[j]!).2 := by
    intro j
    induction j with
    | zero => intro _; exact Nat.zero_le _
    | succ j ih =>
      intro hj
      have h1 := ih (by omega)
      have h2 := mono j (j + 1) (by omega) hj
      omega
  have down : ∀ m j, j + m + 1 = N → K ((pairR ky N)[j]!).2 ≤ j := by
    intro m
    induction m with
    | zero => intro j hj; have := (hK _ (hlt j (by omega))).2; omega
    | succ m ih =>
      intro j hj
      have h1 := ih (j + 1) (by omega)
      have h2 := mono j (j + 1) (by omega) (by omega)
      omega
  have h1 := up i hi
  have h2 := down (N - i - 1) i (by omega)
  omega
theorem cntC_pow (c : Nat) : ∀ m k, cntC (fun _ => c) k m = c ^ m
  | 0, _ => rfl
  | m + 1, k => by rw [cntC, cntC_pow c m, Nat.pow_succ, Nat.mul_comm]
theorem dig_cube {n k t j : Nat} (hj : j < n) : digC (fun _ => 2 ^ k) n t j = cbD n k t j := by
  unfold digC volC cbD
  rw [if_pos hj, cntC_pow, ← Nat.pow_mul, show n - (j + 1) = n - 1 - j by omega]
theorem vol_cube (n k : Nat) : volC (fun _ => 2 ^ k) n 0 = 2 ^ (n * k) := by
  unfold volC
  rw [cntC_pow, ← Nat.pow_mul, Nat.mul_comm, Nat.sub_zero]
theorem hilK_cube {n k wd : Nat} (lo : Nat → Int) (hw : wd = k) (t : Nat) : hilK n wd lo (fun _ => 2 ^ k) t = (hilN n k (cbD n k t) : Nat) := by
  subst hw
  unfold hilK
  congr 2
  funext j
  by_cases hj : j < n
  · rw [if_pos hj, crd_dig, dig_cube hj]
  · rw [if_neg hj]; unfold cbD; rw [if_neg hj]
theorem wd_cube {lo hi : Nat → Int} {k : Nat} (hk : k ≤ 6) : ∀ {n : Nat}, 1 ≤ n → (∀ j, j < n → hi j = lo j + (2 ^ k - 1 : Nat)) → wdTo lo hi n = k := by
  have hb : Lib.bitLen (2 ^ k - 1) = k := by
    rcases (by omega : k = 0 ∨ k = 1 ∨ k = 2 ∨ k = 3 ∨ k = 4 ∨ k = 5 ∨ k = 6) with rfl | rfl | rfl | rfl | rfl | rfl | rfl <;> decide
  have each : ∀ n, (∀ j, j < n → hi j = lo j + (2 ^ k - 1 : Nat)) → wdTo lo hi n = if n = 0 then 0 else k := by
    intro n
    induction n with
    | zero => intro _; rfl
    | succ n ih =>
      intro h
      have h1 := h n (Nat.lt_succ_self n)
      have h2 : (hi n - lo n).toNat = 2 ^ k - 1 := by
        rw [h1]
        generalize 2 ^ k - 1 = c
        omega
      rw [wdTo, ih fun j hj => h j (by omega), h2, hb, if_neg (Nat.succ_ne_zero n)]
      have h3 : (if n = 0 then 0 else k) ≤ k := by split <;> omega
      exact Nat.max_eq_right h3
  intro n hn h
  rw [each n h, if_neg (by omega)]
end Go.Proofs.YthddlbngjhkhhaaGreatDoor
end

/- What Seq gives of a cube in the Hilbert order. -/
section
namespace Go.Proofs.YthddlbngjhkhhaaGreatDoor
open Go Go.RowKit Go.Deep Go.Shelf

/-- The sum of the distances of the coordinates. -/
def farZ (f g : Nat → Int) : Nat → Int
  | 0 => 0
  | j + 1 => farZ f g j + max (f j - g j) (g j - f j)
theorem farZ_N {n k s t : Nat} {f g : Nat → Int} {lo : Nat → Int} : ∀ {m : Nat}, (∀ j, j < m → f j = lo j + (cbD n k t j : Nat) ∧ g j = lo j + (cbD n k s j : Nat)) → farZ f g m = (farN n k s t m : Nat)
  | 0, _ => rfl
  | m + 1, h => by
    obtain ⟨h1, h2⟩ := h m (Nat.lt_succ_self m)
    rw [farZ, farN, farZ_N fun j hj => h j (Nat.lt_succ_of_lt hj), h1, h2]
    generalize cbD n k t m = a
    generalize cbD n k s m = b
    generalize farN n k s t m = c
    rcases Nat.le_total a b with hab | hab
    · rw [Int.max_eq_right (by omega)]; omega
    · rw [Int.max_eq_left (by omega)]; omega
theorem farZ_b {f g : Nat → Int} : ∀ {m : Nat}, (∀ j, j < m → (-1000000 ≤ f j ∧ f j ≤ 1000000) ∧ -1000000 ≤ g j ∧ g j ≤ 1000000) → 0 ≤ farZ f g m ∧ farZ f g m ≤ 2000000 * (m : Int)
  | 0, _ => ⟨Int.le_refl _, Int.le_refl _⟩
  | m + 1, h => by
    obtain ⟨h1, h2⟩ := h m (Nat.lt_succ_self m)
    have ih := farZ_b (f := f) (g := g) (m := m) fun j hj => h j (Nat.lt_succ_of_lt hj)
    rw [farZ]
    generalize f m = a at *
    generalize g m = b at *
    generalize farZ f g m = c at *
    rcases Int.le_total (a - b) (b - a) with hab | hab
    · rw [Int.max_eq_right hab]; omega
    · rw [Int.max_eq_left hab]; omega
theorem cbD_lt (n k t j : Nat) : cbD n k t j < 2 ^ k := by
  unfold cbD
  split
  · exact Nat.mod_lt _ (Nat.two_pow_pos k)
  · exact Nat.two_pow_pos k
theorem cbD_zero (n k j : Nat) : cbD n k 0 j = 0 := by
  unfold cbD
  split
  · rw [Nat.zero_div, Nat.zero_mod]
  · rfl
set_option maxRecDepth 100000 in
theorem l_hseq (n k : Nat) (lz : Int) (h1 : 1 ≤ n) (h4 : n ≤ 4) (hk : k ≤ 6) (hnk : n * k ≤ 10) (hlz : -32768 ≤ lz ∧ lz ≤ 32767) :
    ∃ S : Nat → Nat → Int, (∀ i, i < n → S 0 i = lz - i) ∧ (∀ t, 1 ≤ t → t < 2 ^ (n * k) → farZ (S t) (S (t - 1)) n = 1) ∧ (∀ t i, i < n → -1000000 ≤ S t i ∧ S t i ≤ 1000000) ∧ ∀ (w : World) (L H : Option Addr) (c d : Nat), IntsAt w L n (fun j => lz - j) → IntsAt w H n (fun j => lz - j + (2 ^ k - 1 : Nat)) →
      Calls Tryz.prog 5 #[LayV none 0 0 none 0 0 2 0 0 0, BoxW L H n c n d] w fun e' w' => ∃ b, e' = .returned (.tuple #[.slice (some ⟨b, 0, none⟩) (2 ^ (n * k)) (2 ^ (n * k)), .int .i64 0]) ∧ ListsAt w' (some ⟨b, 0, none⟩) (2 ^ (n * k)) (fun _ => n) S ∧ Below w.heap.size w w' := by
  have hp1 : 2 ^ k ≤ 64 := Nat.pow_le_pow_right (n := 2) (by decide) hk
  have hp0 : 0 < 2 ^ k := Nat.two_pow_pos k
  have hv : volC (fun _ => 2 ^ k) n 0 = 2 ^ (n * k) := vol_cube n k
  have hv9 : 2 ^ (n * k) ≤ 1024 := Nat.pow_le_pow_right (n := 2) (by decide) hnk
  have hwd : wdTo (fun j => lz - j) (fun j => lz - (j : Int) + (2 ^ k - 1 : Nat)) n = k := wd_cube hk h1 fun j _ => rfl
  obtain ⟨inv, hinv⟩ := hil_inv h1 h4 hk hnk
  have he : ∀ j : Nat, j < n → 1 ≤ 2 ^ k ∧ lz - (j : Int) + ((2 ^ k - 1 : Nat) : Int) = lz - (j : Int) + ((2 ^ k : Nat) : Int) - 1 := fun j _ => ⟨hp0, by generalize 2 ^ k = q at *; omega⟩
  have hky : ∀ t, t < 2 ^ (n * k) → hilK n k (fun j => lz - (j : Int)) (fun _ => 2 ^ k) t = (hilN n k (cbD n k t) : Nat) ∧ hilN n k (cbD n k t) < 2 ^ (n * k) := fun t _ => ⟨hilK_cube _ rfl t, hilN_lt n k _⟩
  have hinj := hilK_inj (lo := fun j => lz - (j : Int)) (hi := fun j => lz - (j : Int) + (2 ^ k - 1 : Nat)) (e := fun _ => 2 ^ k) h1 (fun j hj => ⟨(he j hj).1, (he j hj).2, by omega⟩)
  rw [hwd, hv] at hinj
  have hsame : ∀ i, i < 2 ^ (n * k) → ((pairR (hilK n k (fun j => lz - (j : Int)) (fun _ => 2 ^ k)) (2 ^ (n * k)))[i]!).2 = inv i := fun i hi => by
    have h9 := key_is (K := fun t => hilN n k (cbD n k t)) hky hinj hi
    obtain ⟨g1, g2, _, _⟩ := hinv i hi
    have hl := pairR_lt (hilK n k (fun j => lz - (j : Int)) (fun _ => 2 ^ k)) (2 ^ (n * k)) i hi
    refine hinj _ _ hl g1 ?_
    rw [(hky _ hl).1, (hky _ g1).1, g2]
    exact congrArg _ h9
  refine ⟨fun t j => lz - (j : Int) + (cbD n k (if t < 2 ^ (n * k) then inv t else 0) j : Nat), ?_, ?_, ?_, ?_⟩
  · intro i hi
    show lz - (i : Int) + (cbD n k (if 0 < 2 ^ (n * k) then inv 0 else 0) i : Nat) = _
    rw [if_pos (Nat.two_pow_pos _), (hinv 0 (Nat.two_pow_pos _)).2.2.1 rfl, cbD_zero]
    omega
  · intro t ht1 ht
    rw [farZ_N (n := n) (k := k) (s := inv (t - 1)) (t := inv t) (lo := fun j => lz - (j : Int)) fun j _ => ⟨by dsimp only; rw [if_pos ht], by dsimp only; rw [if_pos (by omega)]⟩, (hinv t ht).2.2.2 (by omega)]
    rfl
  · intro t i hi
    have h9 := cbD_lt n k (if t < 2 ^ (n * k) then inv t else 0) i
    show -1000000 ≤ lz - (i : Int) + (cbD n k (if t < 2 ^ (n * k) then inv t else 0) i : Nat) ∧ lz - (i : Int) + (cbD n k (if t < 2 ^ (n * k) then inv t else 0) i : Nat) ≤ 1000000
    omega
  · intro w L H c d hl hh
    have h9 := s_Seq w none none L H 0 0 0 0 n c d 0 0 0 (fun j => lz - (j : Int)) (fun j => lz - (j : Int) + (2 ^ k - 1 : Nat)) (fun _ => 2 ^ k) hl hh h1 h4 rfl (fun j hj => by
      show _ ≤ lz - (j : Int) ∧ lz - (j : Int) ≤ lz - (j : Int) + ((2 ^ k - 1 : Nat) : Int) ∧ _ ∧ _
      generalize 2 ^ k = q at *
      omega) (fun j hj => he j hj) (by rw [volO_all (e := fun _ => 2 ^ k) he, hv]; omega) (by rw [hv]; omega) (by rw [hwd]; omega)
    rw [hwd, hv] at h9
    refine h9.mono ?_
    rintro e' w' ⟨b, rfl, hL, hb⟩
    refine ⟨b, rfl, fun hn => ?_, hb⟩
    obtain ⟨b', o', e1, e2, e3⟩ := hL hn
    refine ⟨b', o', e1, e2, fun t ht => ?_⟩
    obtain ⟨P, c', g1, g2, g3⟩ := e3 t ht
    refine ⟨P, c', g1, fun hn' => ?_, g3⟩
    obtain ⟨b2, o2, f1, f2, f3⟩ := g2 hn'
    refine ⟨b2, o2, f1, f2, fun j hj => (f3 j hj).trans (congrArg (fun x => some (Value.int .i64 x)) ?_)⟩
    show crdZ _ _ _ _ _ = lz - (j : Int) + (cbD n k (if t < 2 ^ (n * k) then inv t else 0) j : Nat)
    rw [if_pos ht, hsame t ht]
    unfold crdZ
    rw [dig_cube hj]
end Go.Proofs.YthddlbngjhkhhaaGreatDoor
end

/- A list of integers that grows by append: where it lies. -/
section
namespace Go.Proofs.YthddlbngjhkhhaaGreatDoor
open Go Go.RowKit Go.Deep

/-- The slice v is the walk's own, from block B on, and holds n numbers. -/
def OwnI (w : World) (B : Nat) (v : Value) (n : Nat) (f : Nat → Int) : Prop := ∃ xs, w.ownsRow B 3 1 v n xs ∧ ∀ k, k < n → xs[k]? = some (.int .i64 (f k))
theorem OwnI.ints {w : World} {B n : Nat} {v : Value} {f : Nat → Int} (h : OwnI w B v n f) : ∃ P c, v = .slice P n c ∧ IntsAt w P n f := by
  obtain ⟨xs, ⟨hl, h1⟩, h2⟩ := h
  rcases h1 with ⟨rfl, rfl⟩ | ⟨g, cap, cur, rfl, _, hh, hcap, _, hs, ht⟩
  · exact ⟨none, 0, rfl, fun h => absurd h (by omega)⟩
  · refine ⟨_, _, rfl, fun hn => ⟨g, 0, rfl, (Array.getElem?_eq_some_iff.1 hh).1, fun k hk => ?_⟩⟩
    rw [Nat.mul_one] at ht
    have h3 : cur.toList[k]? = some (.int .i64 (f k)) := by
      rw [← List.getElem?_take_of_lt hk, ht]
      exact h2 k hk
    rw [Array.getElem?_toList] at h3
    rw [Nat.zero_add]
    simp [World.cell?, hh, h3]
theorem OwnI.nil (w : World) (B : Nat) (f : Nat → Int) : OwnI w B (.slice none 0 0) 0 f := ⟨[], ⟨rfl, .inl ⟨rfl, rfl⟩⟩, fun k hk => absurd hk (by omega)⟩
theorem OwnI.kept {w w' : World} {B n : Nat} {v : Value} {f : Nat → Int} {row : Option Nat} (h : OwnI w B v n f) (hg : w.grownBy w' row) (hne : v.ownBlock = none ∨ v.ownBlock ≠ row) : OwnI w' B v n f := by
  obtain ⟨xs, h1, h2⟩ := h
  exact ⟨xs, h1.kept hg hne, h2⟩
theorem OwnI.block {w : World} {B n : Nat} {v : Value} {f : Nat → Int} (h : OwnI w B v n f) {g : Nat} (hg : v.ownBlock = some g) : B ≤ g ∧ g < w.heap.size := by
  obtain ⟨xs, h1, _⟩ := h
  obtain ⟨a, cs, b⟩ := own_lt h1 g hg
  exact ⟨a, (Array.getElem?_eq_some_iff.1 b).1⟩
/-- One number more, behind a literal of one number: the list lies where it lay, or in a new block. -/
theorem wpList_appI {ops : Array Oper} {rest : List Oper} {o : Oper} {a : Act} {Q : Exit → Act → World → Prop} (hgd : o.guard = none) (s x : Operand)
    (ho : o.op = .call { callee := .builtin .append, args := #[s, x], argTypes := #[24, 24] })
    (W : World) (d : Int) (B : Nat) (v : Value) (n : Nat) (f : Nat → Int) (hs : a.eval s = v) (b : Nat) (hx : a.eval x = .slice (some ⟨b, 0, none⟩) 1 1) (hbW : b = W.heap.size)
    (hown : OwnI W B v n f) (hn : n ≤ 1000000) (hB : B ≤ W.heap.size)
    (h : ∀ v' w', OwnI w' B v' (n + 1) (updZ f n d) → W.grownBy w' v.ownBlock → (v'.ownBlock = v.ownBlock ∨ ∃ g, v'.ownBlock = some g ∧ W.heap.size ≤ g) → wpList Tryz.prog ops Q rest (a.put o.dst v') w') : wpList Tryz.prog ops Q (o :: rest) a (W.alloc (.cells #[.int .i64 d] 3)) := by
  subst hbW
  obtain ⟨xs, h1, h2⟩ := hown
  have h1' : (W.alloc (.cells #[.int .i64 d] 3)).ownsRow B 3 1 v n xs := h1.alloc _
  obtain ⟨i0, hi0, hz0, hz1, hz2⟩ := info_parts info_int
  have hnew : ∀ j u, [Value.int .i64 d][j]? = some u → (W.alloc (.cells #[.int .i64 d] 3)).cell? ((⟨W.heap.size, 0, none⟩ : Addr).add j) = some u := by
    intro j u hu
    have hj : j = 0 := by
      rcases j with _ | j
      · rfl
      · simp at hu
    subst hj
    have hu' : u = .int .i64 d := by simpa using hu.symm
    subst hu'
    exact (World.rowIs_alloc W #[.int .i64 d] 3 (fun _ => .int .i64 d) (fun i hi => by
      have h9 : i = 0 := by simpa using hi
      subst h9
      rfl)).cell (i := 0) (by simp)
  refine wpList_append_own_at _ hgd s x 24 ho B 3 i0 (.int .i64 0) 1 8 Tryz.underlying24 hi0 hz0 hz1 hz2 rfl Nat.zero_lt_one v n xs hs h1' ⟨W.heap.size, 0, none⟩ 1 1 [.int .i64 d] hx rfl hnew
    (fun u hu => by have h9 : u = .int .i64 d := by simpa using hu
                    subst h9; rfl) (by unfold maxLen; omega) (by omega) (by simp; omega) ?_
  intro v' w' g1 g2 _ g4
  refine h v' w' ⟨xs ++ [.int .i64 d], g1, fun k hk => ?_⟩ ((World.grownBy_alloc W _ _).trans g2) (g4.imp id fun h9 => ⟨_, h9, by simp⟩)
  have hl : xs.length = n := by rw [h1.1, Nat.mul_one]
  unfold updZ
  by_cases e : k = n
  · subst e
    rw [if_pos rfl, List.getElem?_append_right (by omega), hl, Nat.sub_self]
    rfl
  · rw [if_neg e, List.getElem?_append_left (by omega)]
    exact h2 k (by omega)
end Go.Proofs.YthddlbngjhkhhaaGreatDoor
end

/- A box of two lists that grow. -/
section
namespace Go.Proofs.YthddlbngjhkhhaaGreatDoor
open Go Go.RowKit Go.Deep

theorem box_gen {W : World} {r : Nat} {x y : Value} (h : W.heap[r]? = some (.cells #[x, y] 26 (0, 0))) : W.cell? ⟨r, 0, none⟩ = some x ∧ W.cell? ⟨r, 1, none⟩ = some y ∧ W.frozen? ⟨r, 0, none⟩ = false ∧ W.frozen? ⟨r, 1, none⟩ = false := by
  refine ⟨by simp [World.cell?, h], by simp [World.cell?, h], by simp [World.frozen?, h], by simp [World.frozen?, h]⟩
theorem box_set0 {W : World} {r : Nat} {x y : Value} (h : W.heap[r]? = some (.cells #[x, y] 26 (0, 0))) (v : Value) : (W.setCell ⟨r, 0, none⟩ v).heap[r]? = some (.cells #[v, y] 26 (0, 0)) := by
  simp [World.setCell, Array.getElem?_modify, h]
theorem box_set1 {W : World} {r : Nat} {x y : Value} (h : W.heap[r]? = some (.cells #[x, y] 26 (0, 0))) (v : Value) : (W.setCell ⟨r, 1, none⟩ v).heap[r]? = some (.cells #[x, v] 26 (0, 0)) := by
  simp [World.setCell, Array.getElem?_modify, h]
theorem OwnI.congr {w : World} {B n : Nat} {v : Value} {f g : Nat → Int} (h : OwnI w B v n f) (hfg : ∀ k, k < n → f k = g k) : OwnI w B v n g := by
  obtain ⟨xs, h1, h2⟩ := h
  exact ⟨xs, h1, fun k hk => by rw [← hfg k hk]; exact h2 k hk⟩
theorem OwnI.ints' {w : World} {B n c : Nat} {P : Option Addr} {f : Nat → Int} (h : OwnI w B (.slice P n c) n f) : IntsAt w P n f := by
  obtain ⟨P', c', e, h1⟩ := h.ints
  injection e with e1
  subst e1
  exact h1
theorem OwnI.ne {w : World} {B n b : Nat} {v : Value} {f : Nat → Int} (h : OwnI w B v n f) (hb : b < B) : v.ownBlock = none ∨ v.ownBlock ≠ some b := by
  cases e : v.ownBlock with
  | none => exact .inl rfl
  | some g =>
    have := (h.block e).1
    refine .inr fun e2 => ?_
    injection e2 with e2
    omega
theorem ne_sym {v u : Option Nat} (h : v = none ∨ v ≠ u) : u = none ∨ u ≠ v := by
  cases u with
  | none => exact .inl rfl
  | some a =>
    refine .inr fun e => ?_
    rcases h with h | h
    · rw [h] at e; cases e
    · exact h e.symm
theorem ne_new {w : World} {B n : Nat} {v v' u : Value} {f : Nat → Int} (hu : OwnI w B u n f) (h : v.ownBlock = none ∨ v.ownBlock ≠ u.ownBlock) (hat : v'.ownBlock = v.ownBlock ∨ ∃ g, v'.ownBlock = some g ∧ w.heap.size ≤ g) : v'.ownBlock = none ∨ v'.ownBlock ≠ u.ownBlock := by
  rcases hat with e | ⟨g, e, hg⟩
  · rw [e]; exact h
  · refine .inr fun e2 => ?_
    rw [e] at e2
    have := (hu.block e2.symm).2
    omega
theorem kept_at {w w' : World} {b : Nat} {row : Option Nat} (hg : w.grownBy w' row) (hb : b < w.heap.size) (hne : row = none ∨ row ≠ some b) : w'.heap[b]? = w.heap[b]? :=
  hg.block b hb fun e => by
    rcases hne with h | h
    · rw [h] at e; cases e
    · exact h e.symm
theorem below_own {a w w' : World} {A B n : Nat} {v : Value} {f : Nat → Int} (hb : Below A a w) (hA : A ≤ w.heap.size) (ho : OwnI w B v n f) (hAB : A ≤ B) (hg : w.grownBy w' v.ownBlock) : Below A a w' :=
  hb.grown hg hA fun g e => by have := (ho.block e).1; omega
/-- The box at ob holds two lists of the walk's own. -/
def InS2 (ob : Nat) (W : World) (x1 x2 : Value) (k1 k2 : Nat) (f g : Nat → Int) : Prop :=
  W.heap[ob]? = some (.cells #[x1, x2] 26 (0, 0)) ∧ OwnI W (ob + 1) x1 k1 f ∧ OwnI W (ob + 1) x2 k2 g ∧ (x1.ownBlock = none ∨ x1.ownBlock ≠ x2.ownBlock)
theorem InS2.app1 {W W' : World} {ob : Nat} {x1 x2 x1' : Value} {k1 k2 : Nat} {f g f' : Nat → Int} (h : InS2 ob W x1 x2 k1 k2 f g) (ho : OwnI W' (ob + 1) x1' (k1 + 1) f') (hg : W.grownBy W' x1.ownBlock) (hat : x1'.ownBlock = x1.ownBlock ∨ ∃ g, x1'.ownBlock = some g ∧ W.heap.size ≤ g) :
    W'.heap[ob]? = some (.cells #[x1, x2] 26 (0, 0)) ∧ InS2 ob (W'.setCell ⟨ob, 0, none⟩ x1') x1' x2 (k1 + 1) k2 f' g ∧ Below ob W (W'.setCell ⟨ob, 0, none⟩ x1') := by
  obtain ⟨hbx, HO1, HO2, HNe⟩ := h
  have hobl : ob < W.heap.size := (Array.getElem?_eq_some_iff.1 hbx).1
  have hbx8 := (kept_at hg hobl (HO1.ne (by omega))).trans hbx
  have ho28 := HO2.kept hg (ne_sym HNe)
  have HB8 : Below ob W W' := below_own (Below.refl _ _) (by omega) HO1 (by omega) hg
  exact ⟨hbx8, ⟨box_set0 hbx8 x1', ho.kept (grown_set W' ob 0 x1') (ho.ne (by omega)), ho28.kept (grown_set W' ob 0 x1') (ho28.ne (by omega)), ne_new HO2 HNe hat⟩, HB8.setCell (p := ⟨ob, 0, none⟩) (Nat.le_refl _) _⟩
theorem InS2.app2 {W W' : World} {ob : Nat} {x1 x2 x2' : Value} {k1 k2 : Nat} {f g g' : Nat → Int} (h : InS2 ob W x1 x2 k1 k2 f g) (ho : OwnI W' (ob + 1) x2' (k2 + 1) g') (hg : W.grownBy W' x2.ownBlock) (hat : x2'.ownBlock = x2.ownBlock ∨ ∃ g, x2'.ownBlock = some g ∧ W.heap.size ≤ g) :
    W'.heap[ob]? = some (.cells #[x1, x2] 26 (0, 0)) ∧ InS2 ob (W'.setCell ⟨ob, 1, none⟩ x2') x1 x2' k1 (k2 + 1) f g' ∧ Below ob W (W'.setCell ⟨ob, 1, none⟩ x2') := by
  obtain ⟨hbx, HO1, HO2, HNe⟩ := h
  have hobl : ob < W.heap.size := (Array.getElem?_eq_some_iff.1 hbx).1
  have hbx8 := (kept_at hg hobl (HO2.ne (by omega))).trans hbx
  have ho18 := HO1.kept hg HNe
  have HB8 : Below ob W W' := below_own (Below.refl _ _) (by omega) HO2 (by omega) hg
  exact ⟨hbx8, ⟨box_set1 hbx8 x2', ho18.kept (grown_set W' ob 1 x2') (ho18.ne (by omega)), ho.kept (grown_set W' ob 1 x2') (ho.ne (by omega)), ne_sym (ne_new HO1 (ne_sym HNe) hat)⟩, HB8.setCell (p := ⟨ob, 1, none⟩) (Nat.le_refl _) _⟩
end Go.Proofs.YthddlbngjhkhhaaGreatDoor
end

/- A region whose order is open, by what each operation leaves in its slot; the last operation (a store) behind all others. -/
section
namespace Go.Proofs.YthddlbngjhkhhaaGreatDoor
open Go Go.RowKit Go.Deep Go.Shelf

section
variable {ops : Array Oper} {Q : Exit → Act → World → Prop}
theorem chk_dag {n1 : Nat} (hc : RW.chk ops n1 = true) : ∀ (i : Nat) (o : Oper), ops[i]? = some o → ∀ e : Edge, e ∈ o.after → e.on < i := fun i o ho e he => by
  unfold RW.chk at hc
  rw [Bool.and_eq_true, Bool.and_eq_true, List.all_eq_true, List.all_eq_true, List.all_eq_true] at hc
  have := hc.1.2 i (List.mem_range.2 (Array.getElem?_eq_some_iff.1 ho).1)
  rw [ho] at this
  simp only [Option.map_some, Option.getD_some, Array.all_eq_true_iff_forall_mem] at this
  simpa using this e he
theorem chk_late {n1 : Nat} (hsz : ops.size = n1 + 1) (hc : RW.chk ops n1 = true) {listed : Array Bool} (hcl : RW.CL ops listed) (hm : n1 ∈ Region.ready .any ops listed) : ∀ j, j < n1 → listed.getD j false = true := by
  unfold RW.chk at hc
  rw [Bool.and_eq_true, Bool.and_eq_true, List.all_eq_true, List.all_eq_true, List.all_eq_true] at hc
  obtain ⟨⟨c1, c2⟩, c3⟩ := hc
  intro j hj
  have key : ∀ m j, m + j = n1 → 1 ≤ m → listed.getD j false = true := by
    intro m
    induction m using Nat.strongRecOn with
    | _ m ih =>
      intro j hmj hm1
      have hk := c3 j (List.mem_range.2 (by omega))
      rw [List.any_eq_true] at hk
      obtain ⟨k, hk1, hk2⟩ := hk
      rw [Bool.and_eq_true, decide_eq_true_eq] at hk2
      obtain ⟨hk2, hk3⟩ := hk2
      have hk4 := List.mem_range.1 hk1
      cases ho : ops[k]? with
      | none => rw [ho] at hk3; cases hk3
      | some o =>
        rw [ho] at hk3
        by_cases e : k = n1
        · subst e; exact RW.ready_onS hm ho hk3
        · exact hcl.on ho hk3 (ih (n1 - k) (by omega) k (by omega) (by omega))
  exact key (n1 - j) j (by omega) (by omega)
theorem set_getD (listed : Array Bool) (i j : Nat) (hi : i < listed.size) : (listed.setIfInBounds i true).getD j false = if j = i then true else listed.getD j false := by
  rw [Array.getD_eq_getD_getElem?, Array.getD_eq_getD_getElem?, Array.getElem?_setIfInBounds]
  by_cases e : i = j
  · subst e; simp [hi]
  · rw [if_neg e, if_neg (fun x => e x.symm)]
theorem wp_region_TL {id : Nat} {a0 : Act} {w0 : World} {T : Nat → Value → World → Prop} {P : Program} {n1 : Nat} {ol : Oper} (hm : P.follows .mixedOrders = true) (hsz : ops.size = n1 + 1) (hol : ops[n1]? = some ol) (hgl : ol.guard = none) (hc : RW.chk ops n1 = true)
    (step : ∀ listed a w i, Held ops a0 w0 T listed a w → i ∈ Region.ready .any ops listed → i < n1 → wpOp P ops Q i (Held ops a0 w0 T (listed.setIfInBounds i true)) a w)
    (tail : ∀ listed a w, Held ops a0 w0 T listed a w → (∀ j, j < n1 → listed.getD j false = true) → ol.wp P a w (fun a' w' => Q .normal a' w') Q) : (Code.region id ops true).wp P Q a0 w0 := by
  have dag := chk_dag hc
  refine wp_region_any hm (wpAny_inv (fun listed a w => (Held ops a0 w0 T listed a w ∧ listed.getD n1 false = false ∧ RW.CL ops listed) ∨ (listed.size = ops.size ∧ (∀ j, j < ops.size → listed.getD j false = true) ∧ Q .normal a w)) ?_ ?_ _ _ _ _ ?_ ?_)
  · rintro listed a w i (⟨H, hl, hcl⟩ | ⟨hs, hall, _⟩) hi
    · have hlt := (mem_ready hi).1
      by_cases e : i = n1
      · subst e
        have hlate := chk_late hsz hc hcl hi
        refine wpOp_of hol (.inl hgl) ?_
        have ht := tail listed a w H hlate
        refine Oper.wp_mono ?_ ht
        · intro a' w' hq
          refine .inr ⟨by simpa using H.size, fun j hj => ?_, hq⟩
          rw [set_getD _ _ _ (by rw [H.size]; exact hlt)]
          by_cases e2 : j = i
          · rw [if_pos e2]
          · rw [if_neg e2]; exact hlate j (by omega)
      · refine wpOp_mono ?_ (step listed a w i H hi (by omega))
        intro a' w' H'
        refine .inl ⟨H', ?_, hcl.set hi⟩
        rw [set_getD _ _ _ (by rw [H.size]; exact hlt), if_neg (fun x => e x.symm)]
        exact hl
    · exfalso
      have h1 := (mem_ready hi).1
      have h2 := (mem_ready hi).2.1
      have h3 := hall i h1
      rw [Array.getD, dif_pos (by omega)] at h2 h3
      rw [h2] at h3
      cases h3
  · rintro listed a w (⟨H, hl, _⟩ | ⟨_, _, hq⟩) hr
    · have := all_listed H.size dag hr n1 (by omega)
      rw [hl] at this
      cases this
    · exact hq
  · unfold leftOf
    simp
  · have hf : ∀ j, (Array.replicate ops.size false).getD j false = false := by
      intro j
      rw [Array.getD_eq_getD_getElem?, Array.getElem?_replicate]
      split <;> rfl
    refine .inl ⟨⟨by simp, rfl, rfl, Below.drew (Below.refl _ _), fun _ _ => rfl, fun i o t _ _ hl => by rw [hf] at hl; cases hl⟩, hf n1, fun j oj _ hl => ?_⟩
    rw [hf] at hl; cases hl
end
theorem range_38 : List.range 38 = [0, 1, 2, 3, 4, 5, 6, 7, 8, 9, 10, 11, 12, 13, 14, 15, 16, 17, 18, 19, 20, 21, 22, 23, 24, 25, 26, 27, 28, 29, 30, 31, 32, 33, 34, 35, 36, 37] := rfl
theorem lit_38 (f : Nat → Value) : ((List.range 38).map f).toArray = #[f 0, f 1, f 2, f 3, f 4, f 5, f 6, f 7, f 8, f 9, f 10, f 11, f 12, f 13, f 14, f 15, f 16, f 17, f 18, f 19, f 20, f 21, f 22, f 23, f 24, f 25, f 26, f 27, f 28, f 29, f 30, f 31, f 32, f 33, f 34, f 35, f 36, f 37] := by rw [range_38]; rfl
theorem actlit_38 (a : Act) (h : a.tmps.size = 38) (hd : a.defers = []) : ∃ f : Nat → Value, (∀ t, a.tmps[t]?.getD undef = f t) ∧ a = ⟨#[f 0, f 1, f 2, f 3, f 4, f 5, f 6, f 7, f 8, f 9, f 10, f 11, f 12, f 13, f 14, f 15, f 16, f 17, f 18, f 19, f 20, f 21, f 22, f 23, f 24, f 25, f 26, f 27, f 28, f 29, f 30, f 31, f 32, f 33, f 34, f 35, f 36, f 37], []⟩ := by
  refine ⟨fun t => a.tmps[t]?.getD undef, fun t => rfl, ?_⟩
  obtain ⟨tm, df⟩ := a
  have h' : tm.size = 38 := h
  have hd' : df = [] := hd
  subst hd'
  have e : tm = ((List.range 38).map fun t => tm[t]?.getD undef).toArray := by
    apply Array.ext
    · simpa using h'
    · intro i h1 h2
      simp [h1]
  exact (congrArg (fun x => (⟨x, []⟩ : Act)) (e.trans (lit_38 _)))
end Go.Proofs.YthddlbngjhkhhaaGreatDoor
end
