"""Pieces at hand, told by a row of their widths and a row of their heights."""


def tightest(width, height, widths, heights):
    """Of the pieces at least so wide and so high the lowest, of these the narrowest, of these the first one's number.

    If there is none, how many pieces there are.
    """
    enough = [k for k in range(len(widths)) if widths[k] >= width and heights[k] >= height]
    return min(enough, key=lambda k: (heights[k], widths[k], k), default=len(widths))
